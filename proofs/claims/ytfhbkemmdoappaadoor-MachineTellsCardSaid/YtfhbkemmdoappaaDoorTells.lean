/-
  The walk of the law MachineTells.
-/
import Derived.Test.YtfhbkemmdoappaaDoorPAfter
import Derived.Test.YtfhbkemmdoappaaDoorRefMay
import Derived.Test.YtfhbkemmdoappaaDoorRef2
import Derived.Test.YtfhbkemmdoappaaDoorSame
namespace Go.Proofs.YtfhbkemmdoappaaDoor
open Go.RowKit
set_option linter.unusedVariables false

theorem sameB_refl : ∀ xs : List Int, sameB xs xs = true := by intro xs; simp [sameB]

set_option maxRecDepth 100000 in
set_option maxHeartbeats 4000000 in
theorem tells_no (m : Mach) (l : ML) (sa wa : Option Addr) (sc wc : Nat) (ss word : List Int) (w : World) (hT : Hid (Tab w)) (h : Hid (MAt w m l)) (hs : Hid (At w sa ss)) (hsl : Hid (ss.length ≤ maxLen)) (hsn : Hid (sa = none → sc = 0)) (hv : Hid (At w wa word)) (hwl : Hid (word.length ≤ maxLen)) (hm : Hid (mayB m = false)) :
    Calls Tryd.prog 3 #[mval m l, .slice sa ss.length sc, .slice wa word.length wc] w fun e w' => e = .returned (.bool true) ∧ Below w.heap.size w w' := by
  have B0 : Hid (Below w.heap.size w (w.alloc (.cells (mcells m l) 25))) := (Below.refl _ _).alloc (Nat.le_refl _) _
  have K0 := Hid.of (Blk.new w 25 (mcells m l))
  go_enter Tryd.func3, Tryd.ntmps3
  go_wp2_with fail
  refine (pMay_any m l _ (h.out.below B0.out (Nat.le_refl _))).mono ?_
  rintro e w1 ⟨rfl, hb⟩
  rw [hm.out]
  have B1 := Hid.of (B0.out.trans (hb.mono B0.out.size))
  have K1 := Hid.of (K0.out.below hb K0.out.lt)
  try clear x0 x1 x2 x3 x4
  obtain ⟨x0, x1, x2, x3, x4⟩ := mcell_of K1.out
  clear hb
  go_wp2_with fail
  refine (refMay_any m l _ (h.out.below B1.out (Nat.le_refl _))).mono ?_
  rintro e w2 ⟨rfl, hb⟩
  rw [hm.out]
  have B2 := Hid.of (B1.out.trans (hb.mono B1.out.size))
  have K2 := Hid.of (K1.out.below hb K1.out.lt)
  try clear x0 x1 x2 x3 x4
  obtain ⟨x0, x1, x2, x3, x4⟩ := mcell_of K2.out
  clear hb
  go_wp2_with fail
  refine (pAfter_err m l sa wa sc wc ss word 2 _ rfl (Hid.of (fun W hW => after_form1 m l sa wa sc wc ss word W (h.out.below (B2.out.trans (hW.mono B2.out.size)) (Nat.le_refl _)) hm))).mono ?_
  rintro e w3 ⟨rfl, hb⟩
  have B3 := Hid.of (B2.out.trans (hb.mono B2.out.size))
  have K3 := Hid.of (K2.out.below hb K2.out.lt)
  try clear x0 x1 x2 x3 x4
  obtain ⟨x0, x1, x2, x3, x4⟩ := mcell_of K3.out
  clear hb
  go_wp2_with fail
  refine (pAccepts_err m l wa wc word 2 _ rfl (Hid.of (fun W hW => after_form1 m l l.a1 wa l.c1 wc m.starts word W (h.out.below (B3.out.trans (hW.mono B3.out.size)) (Nat.le_refl _)) hm))).mono ?_
  rintro e w4 ⟨rfl, hb⟩
  have B4 := Hid.of (B3.out.trans (hb.mono B3.out.size))
  have K4 := Hid.of (K3.out.below hb K3.out.lt)
  try clear x0 x1 x2 x3 x4
  obtain ⟨x0, x1, x2, x3, x4⟩ := mcell_of K4.out
  clear hb
  go_wp2
  go_ret
  exact ⟨rfl, B4.out⟩

theorem rowB_len256 {m : Mach} (hm : mayB m = true) : m.starts.length ≤ 4096 := by
  have h1 := mayB_size hm
  have h2 := mayB_starts hm
  unfold rowB at h2
  have := goIs_len _ _ _ (by omega) h2
  omega

set_option maxRecDepth 100000 in
set_option maxHeartbeats 4000000 in
theorem tells_ff (m : Mach) (l : ML) (sa wa : Option Addr) (sc wc : Nat) (ss word : List Int) (w : World) (hT : Hid (Tab w)) (h : Hid (MAt w m l)) (hs : Hid (At w sa ss)) (hsl : Hid (ss.length ≤ maxLen)) (hsn : Hid (sa = none → sc = 0)) (hv : Hid (At w wa word)) (hwl : Hid (word.length ≤ maxLen)) (hm : Hid (mayB m = true)) (hr : Hid (rowB m.st ss = false)) (hwd : Hid (wordB m.ev word = false)) :
    Calls Tryd.prog 3 #[mval m l, .slice sa ss.length sc, .slice wa word.length wc] w fun e w' => e = .returned (.bool true) ∧ Below w.heap.size w w' := by
  have B0 : Hid (Below w.heap.size w (w.alloc (.cells (mcells m l) 25))) := (Below.refl _ _).alloc (Nat.le_refl _) _
  have K0 := Hid.of (Blk.new w 25 (mcells m l))
  go_enter Tryd.func3, Tryd.ntmps3
  go_wp2_with fail
  refine (pMay_any m l _ (h.out.below B0.out (Nat.le_refl _))).mono ?_
  rintro e w1 ⟨rfl, hb⟩
  rw [hm.out]
  have B1 := Hid.of (B0.out.trans (hb.mono B0.out.size))
  have K1 := Hid.of (K0.out.below hb K0.out.lt)
  try clear x0 x1 x2 x3 x4
  obtain ⟨x0, x1, x2, x3, x4⟩ := mcell_of K1.out
  clear hb
  go_wp2_with fail
  refine (refMay_any m l _ (h.out.below B1.out (Nat.le_refl _))).mono ?_
  rintro e w2 ⟨rfl, hb⟩
  rw [hm.out]
  have B2 := Hid.of (B1.out.trans (hb.mono B1.out.size))
  have K2 := Hid.of (K1.out.below hb K1.out.lt)
  try clear x0 x1 x2 x3 x4
  obtain ⟨x0, x1, x2, x3, x4⟩ := mcell_of K2.out
  clear hb
  go_wp2_with fail
  refine (pAfter_err m l sa wa sc wc ss word 2 _ rfl (Hid.of (fun W hW => after_form2 m l sa wa sc wc ss word W (h.out.below (B2.out.trans (hW.mono B2.out.size)) (Nat.le_refl _)) hm (Hid.of (hs.out.below (B2.out.trans (hW.mono B2.out.size)) (Nat.le_refl _))) hsl hr))).mono ?_
  rintro e w3 ⟨rfl, hb⟩
  have B3 := Hid.of (B2.out.trans (hb.mono B2.out.size))
  have K3 := Hid.of (K2.out.below hb K2.out.lt)
  try clear x0 x1 x2 x3 x4
  obtain ⟨x0, x1, x2, x3, x4⟩ := mcell_of K3.out
  clear hb
  go_wp2_with fail
  refine (pAccepts_err m l wa wc word 6 _ rfl (Hid.of (fun W hW => after_range m l l.a1 wa l.c1 wc m.starts word W (h.out.below (B3.out.trans (hW.mono B3.out.size)) (Nat.le_refl _)) hm (Hid.of (h.out.below (B3.out.trans (hW.mono B3.out.size)) (Nat.le_refl _)).s) (Hid.of (Nat.le_trans h.out.s1 h.out.s2)) (Hid.of (mayB_starts hm.out)) (Hid.of (hv.out.below (B3.out.trans (hW.mono B3.out.size)) (Nat.le_refl _))) hwl hwd))).mono ?_
  rintro e w4 ⟨rfl, hb⟩
  have B4 := Hid.of (B3.out.trans (hb.mono B3.out.size))
  have K4 := Hid.of (K3.out.below hb K3.out.lt)
  try clear x0 x1 x2 x3 x4
  obtain ⟨x0, x1, x2, x3, x4⟩ := mcell_of K4.out
  clear hb
  go_wp2_with fail
  refine (refWord_any m l wa wc word _ (hv.out.below B4.out (Nat.le_refl _)) hwl.out).mono ?_
  rintro e w5 ⟨rfl, hb⟩
  rw [hwd.out]
  have B5 := Hid.of (B4.out.trans (hb.mono B4.out.size))
  have K5 := Hid.of (K4.out.below hb K4.out.lt)
  try clear x0 x1 x2 x3 x4
  obtain ⟨x0, x1, x2, x3, x4⟩ := mcell_of K5.out
  clear hb
  go_wp2_with fail
  refine (refIs_any sa sc ss m.st _ (hs.out.below B5.out (Nat.le_refl _)) hsl.out).mono ?_
  rintro e w6 ⟨rfl, q6, rfl⟩
  rw [hr.out]
  have B6 := Hid.of (below_drewN B5.out q6)
  have K6 : Hid (Blk (w5.drewN q6) w.heap.size 25 (mcells m l)) := K5.out
  go_wp2
  go_ret
  exact ⟨rfl, B6.out⟩

set_option maxRecDepth 100000 in
set_option maxHeartbeats 4000000 in
theorem tells_ft (m : Mach) (l : ML) (sa wa : Option Addr) (sc wc : Nat) (ss word : List Int) (w : World) (hT : Hid (Tab w)) (h : Hid (MAt w m l)) (hs : Hid (At w sa ss)) (hsl : Hid (ss.length ≤ maxLen)) (hsn : Hid (sa = none → sc = 0)) (hv : Hid (At w wa word)) (hwl : Hid (word.length ≤ maxLen)) (hm : Hid (mayB m = true)) (hr : Hid (rowB m.st ss = false)) (hwd : Hid (wordB m.ev word = true)) :
    Calls Tryd.prog 3 #[mval m l, .slice sa ss.length sc, .slice wa word.length wc] w fun e w' => e = .returned (.bool true) ∧ Below w.heap.size w w' := by
  have B0 : Hid (Below w.heap.size w (w.alloc (.cells (mcells m l) 25))) := (Below.refl _ _).alloc (Nat.le_refl _) _
  have K0 := Hid.of (Blk.new w 25 (mcells m l))
  go_enter Tryd.func3, Tryd.ntmps3
  go_wp2_with fail
  refine (pMay_any m l _ (h.out.below B0.out (Nat.le_refl _))).mono ?_
  rintro e w1 ⟨rfl, hb⟩
  rw [hm.out]
  have B1 := Hid.of (B0.out.trans (hb.mono B0.out.size))
  have K1 := Hid.of (K0.out.below hb K0.out.lt)
  try clear x0 x1 x2 x3 x4
  obtain ⟨x0, x1, x2, x3, x4⟩ := mcell_of K1.out
  clear hb
  go_wp2_with fail
  refine (refMay_any m l _ (h.out.below B1.out (Nat.le_refl _))).mono ?_
  rintro e w2 ⟨rfl, hb⟩
  rw [hm.out]
  have B2 := Hid.of (B1.out.trans (hb.mono B1.out.size))
  have K2 := Hid.of (K1.out.below hb K1.out.lt)
  try clear x0 x1 x2 x3 x4
  obtain ⟨x0, x1, x2, x3, x4⟩ := mcell_of K2.out
  clear hb
  go_wp2_with fail
  refine (pAfter_err m l sa wa sc wc ss word 2 _ rfl (Hid.of (fun W hW => after_form2 m l sa wa sc wc ss word W (h.out.below (B2.out.trans (hW.mono B2.out.size)) (Nat.le_refl _)) hm (Hid.of (hs.out.below (B2.out.trans (hW.mono B2.out.size)) (Nat.le_refl _))) hsl hr))).mono ?_
  rintro e w3 ⟨rfl, hb⟩
  have B3 := Hid.of (B2.out.trans (hb.mono B2.out.size))
  have K3 := Hid.of (K2.out.below hb K2.out.lt)
  try clear x0 x1 x2 x3 x4
  obtain ⟨x0, x1, x2, x3, x4⟩ := mcell_of K3.out
  clear hb
  go_wp2_with fail
  refine (pAccepts_ok m l wa wc word _ (h.out.below B3.out (Nat.le_refl _)) (Hid.of (hT.out.below B3.out hT.out.lt)) hm (Hid.of (hv.out.below B3.out (Nat.le_refl _))) hwl hwd).mono ?_
  rintro e w4 ⟨rfl, hb⟩
  have B4 := Hid.of (B3.out.trans (hb.mono B3.out.size))
  have K4 := Hid.of (K3.out.below hb K3.out.lt)
  try clear x0 x1 x2 x3 x4
  obtain ⟨x0, x1, x2, x3, x4⟩ := mcell_of K4.out
  clear hb
  go_wp2_with fail
  refine (refWord_any m l wa wc word _ (hv.out.below B4.out (Nat.le_refl _)) hwl.out).mono ?_
  rintro e w5 ⟨rfl, hb⟩
  rw [hwd.out]
  have B5 := Hid.of (B4.out.trans (hb.mono B4.out.size))
  have K5 := Hid.of (K4.out.below hb K4.out.lt)
  try clear x0 x1 x2 x3 x4
  obtain ⟨x0, x1, x2, x3, x4⟩ := mcell_of K5.out
  clear hb
  go_wp2_with fail
  refine (refIs_any sa sc ss m.st _ (hs.out.below B5.out (Nat.le_refl _)) hsl.out).mono ?_
  rintro e w6 ⟨rfl, q6, rfl⟩
  rw [hr.out]
  have B6 := Hid.of (below_drewN B5.out q6)
  have K6 : Hid (Blk (w5.drewN q6) w.heap.size 25 (mcells m l)) := K5.out
  go_wp2_with fail
  refine (refAccepts_any m l wa wc word _ (h.out.below B6.out (Nat.le_refl _)) (mayB_size hm.out).2.2.2.2 (rowB_len256 hm.out) (hv.out.below B6.out (Nat.le_refl _)) hwl.out).mono ?_
  rintro e w7 ⟨rfl, hb⟩
  have B7 := Hid.of (B6.out.trans (hb.mono B6.out.size))
  have K7 := Hid.of (K6.out.below hb K6.out.lt)
  try clear x0 x1 x2 x3 x4
  obtain ⟨x0, x1, x2, x3, x4⟩ := mcell_of K7.out
  clear hb
  go_wp2
  go_ret
  exact ⟨rfl, B7.out⟩

set_option maxRecDepth 100000 in
set_option maxHeartbeats 4000000 in
theorem tells_tf (m : Mach) (l : ML) (sa wa : Option Addr) (sc wc : Nat) (ss word : List Int) (w : World) (hT : Hid (Tab w)) (h : Hid (MAt w m l)) (hs : Hid (At w sa ss)) (hsl : Hid (ss.length ≤ maxLen)) (hsn : Hid (sa = none → sc = 0)) (hv : Hid (At w wa word)) (hwl : Hid (word.length ≤ maxLen)) (hm : Hid (mayB m = true)) (hr : Hid (rowB m.st ss = true)) (hwd : Hid (wordB m.ev word = false)) :
    Calls Tryd.prog 3 #[mval m l, .slice sa ss.length sc, .slice wa word.length wc] w fun e w' => e = .returned (.bool true) ∧ Below w.heap.size w w' := by
  have B0 : Hid (Below w.heap.size w (w.alloc (.cells (mcells m l) 25))) := (Below.refl _ _).alloc (Nat.le_refl _) _
  have K0 := Hid.of (Blk.new w 25 (mcells m l))
  go_enter Tryd.func3, Tryd.ntmps3
  go_wp2_with fail
  refine (pMay_any m l _ (h.out.below B0.out (Nat.le_refl _))).mono ?_
  rintro e w1 ⟨rfl, hb⟩
  rw [hm.out]
  have B1 := Hid.of (B0.out.trans (hb.mono B0.out.size))
  have K1 := Hid.of (K0.out.below hb K0.out.lt)
  try clear x0 x1 x2 x3 x4
  obtain ⟨x0, x1, x2, x3, x4⟩ := mcell_of K1.out
  clear hb
  go_wp2_with fail
  refine (refMay_any m l _ (h.out.below B1.out (Nat.le_refl _))).mono ?_
  rintro e w2 ⟨rfl, hb⟩
  rw [hm.out]
  have B2 := Hid.of (B1.out.trans (hb.mono B1.out.size))
  have K2 := Hid.of (K1.out.below hb K1.out.lt)
  try clear x0 x1 x2 x3 x4
  obtain ⟨x0, x1, x2, x3, x4⟩ := mcell_of K2.out
  clear hb
  go_wp2_with fail
  refine (pAfter_err m l sa wa sc wc ss word 6 _ rfl (Hid.of (fun W hW => after_range m l sa wa sc wc ss word W (h.out.below (B2.out.trans (hW.mono B2.out.size)) (Nat.le_refl _)) hm (Hid.of (hs.out.below (B2.out.trans (hW.mono B2.out.size)) (Nat.le_refl _))) hsl hr (Hid.of (hv.out.below (B2.out.trans (hW.mono B2.out.size)) (Nat.le_refl _))) hwl hwd))).mono ?_
  rintro e w3 ⟨rfl, hb⟩
  have B3 := Hid.of (B2.out.trans (hb.mono B2.out.size))
  have K3 := Hid.of (K2.out.below hb K2.out.lt)
  try clear x0 x1 x2 x3 x4
  obtain ⟨x0, x1, x2, x3, x4⟩ := mcell_of K3.out
  clear hb
  go_wp2_with fail
  refine (pAccepts_err m l wa wc word 6 _ rfl (Hid.of (fun W hW => after_range m l l.a1 wa l.c1 wc m.starts word W (h.out.below (B3.out.trans (hW.mono B3.out.size)) (Nat.le_refl _)) hm (Hid.of (h.out.below (B3.out.trans (hW.mono B3.out.size)) (Nat.le_refl _)).s) (Hid.of (Nat.le_trans h.out.s1 h.out.s2)) (Hid.of (mayB_starts hm.out)) (Hid.of (hv.out.below (B3.out.trans (hW.mono B3.out.size)) (Nat.le_refl _))) hwl hwd))).mono ?_
  rintro e w4 ⟨rfl, hb⟩
  have B4 := Hid.of (B3.out.trans (hb.mono B3.out.size))
  have K4 := Hid.of (K3.out.below hb K3.out.lt)
  try clear x0 x1 x2 x3 x4
  obtain ⟨x0, x1, x2, x3, x4⟩ := mcell_of K4.out
  clear hb
  go_wp2_with fail
  refine (refWord_any m l wa wc word _ (hv.out.below B4.out (Nat.le_refl _)) hwl.out).mono ?_
  rintro e w5 ⟨rfl, hb⟩
  rw [hwd.out]
  have B5 := Hid.of (B4.out.trans (hb.mono B4.out.size))
  have K5 := Hid.of (K4.out.below hb K4.out.lt)
  try clear x0 x1 x2 x3 x4
  obtain ⟨x0, x1, x2, x3, x4⟩ := mcell_of K5.out
  clear hb
  go_wp2_with fail
  refine (refIs_any sa sc ss m.st _ (hs.out.below B5.out (Nat.le_refl _)) hsl.out).mono ?_
  rintro e w6 ⟨rfl, q6, rfl⟩
  rw [hr.out]
  have B6 := Hid.of (below_drewN B5.out q6)
  have K6 : Hid (Blk (w5.drewN q6) w.heap.size 25 (mcells m l)) := K5.out
  go_wp2
  go_ret
  exact ⟨rfl, B6.out⟩

set_option maxRecDepth 100000 in
set_option maxHeartbeats 4000000 in
theorem tells_tt (m : Mach) (l : ML) (sa wa : Option Addr) (sc wc : Nat) (ss word : List Int) (w : World) (hT : Hid (Tab w)) (h : Hid (MAt w m l)) (hs : Hid (At w sa ss)) (hsl : Hid (ss.length ≤ maxLen)) (hsn : Hid (sa = none → sc = 0)) (hv : Hid (At w wa word)) (hwl : Hid (word.length ≤ maxLen)) (hm : Hid (mayB m = true)) (hr : Hid (rowB m.st ss = true)) (hwd : Hid (wordB m.ev word = true)) :
    Calls Tryd.prog 3 #[mval m l, .slice sa ss.length sc, .slice wa word.length wc] w fun e w' => e = .returned (.bool true) ∧ Below w.heap.size w w' := by
  have B0 : Hid (Below w.heap.size w (w.alloc (.cells (mcells m l) 25))) := (Below.refl _ _).alloc (Nat.le_refl _) _
  have K0 := Hid.of (Blk.new w 25 (mcells m l))
  go_enter Tryd.func3, Tryd.ntmps3
  go_wp2_with fail
  refine (pMay_any m l _ (h.out.below B0.out (Nat.le_refl _))).mono ?_
  rintro e w1 ⟨rfl, hb⟩
  rw [hm.out]
  have B1 := Hid.of (B0.out.trans (hb.mono B0.out.size))
  have K1 := Hid.of (K0.out.below hb K0.out.lt)
  try clear x0 x1 x2 x3 x4
  obtain ⟨x0, x1, x2, x3, x4⟩ := mcell_of K1.out
  clear hb
  go_wp2_with fail
  refine (refMay_any m l _ (h.out.below B1.out (Nat.le_refl _))).mono ?_
  rintro e w2 ⟨rfl, hb⟩
  rw [hm.out]
  have B2 := Hid.of (B1.out.trans (hb.mono B1.out.size))
  have K2 := Hid.of (K1.out.below hb K1.out.lt)
  try clear x0 x1 x2 x3 x4
  obtain ⟨x0, x1, x2, x3, x4⟩ := mcell_of K2.out
  clear hb
  go_wp2_with fail
  refine (pAfter_ok m l sa wa sc wc ss word _ (h.out.below B2.out (Nat.le_refl _)) (Hid.of (hT.out.below B2.out hT.out.lt)) hm (Hid.of (hs.out.below B2.out (Nat.le_refl _))) hsl hr (Hid.of (hv.out.below B2.out (Nat.le_refl _))) hwl hwd).mono ?_
  rintro e w3 ⟨la, lc, rfl, hat, hll, hb⟩
  have HL := Hid.of hat
  have HLN := Hid.of hll
  have B3 := Hid.of (B2.out.trans (hb.mono B2.out.size))
  have K3 := Hid.of (K2.out.below hb K2.out.lt)
  clear x0 x1 x2 x3 x4 hat hll
  obtain ⟨x0, x1, x2, x3, x4⟩ := mcell_of K3.out
  clear hb
  go_wp2_with fail
  refine (pAccepts_ok m l wa wc word _ (h.out.below B3.out (Nat.le_refl _)) (Hid.of (hT.out.below B3.out hT.out.lt)) hm (Hid.of (hv.out.below B3.out (Nat.le_refl _))) hwl hwd).mono ?_
  rintro e w4 ⟨rfl, hb⟩
  have HL := Hid.of (HL.out.below hb (Nat.le_refl _))
  have B4 := Hid.of (B3.out.trans (hb.mono B3.out.size))
  have K4 := Hid.of (K3.out.below hb K3.out.lt)
  try clear x0 x1 x2 x3 x4
  obtain ⟨x0, x1, x2, x3, x4⟩ := mcell_of K4.out
  clear hb
  go_wp2_with fail
  refine (refWord_any m l wa wc word _ (hv.out.below B4.out (Nat.le_refl _)) hwl.out).mono ?_
  rintro e w5 ⟨rfl, hb⟩
  rw [hwd.out]
  have HL := Hid.of (HL.out.below hb (Nat.le_refl _))
  have B5 := Hid.of (B4.out.trans (hb.mono B4.out.size))
  have K5 := Hid.of (K4.out.below hb K4.out.lt)
  try clear x0 x1 x2 x3 x4
  obtain ⟨x0, x1, x2, x3, x4⟩ := mcell_of K5.out
  clear hb
  go_wp2_with fail
  refine (refIs_any sa sc ss m.st _ (hs.out.below B5.out (Nat.le_refl _)) hsl.out).mono ?_
  rintro e w6 ⟨rfl, q6, rfl⟩
  rw [hr.out]
  have B6 := Hid.of (below_drewN B5.out q6)
  have K6 : Hid (Blk (w5.drewN q6) w.heap.size 25 (mcells m l)) := K5.out
  have HL := Hid.of (At.drewN HL.out q6)
  go_wp2_with fail
  refine (refAfter_any m l sa sc ss wa wc word _ (h.out.below B6.out (Nat.le_refl _)).a (by have := (mayB_size hm.out).2.2.2.2; omega) (hs.out.below B6.out (Nat.le_refl _)) (by have := rowB_len hr.out; omega) hsn.out (hv.out.below B6.out (Nat.le_refl _)) hwl.out).mono ?_
  rintro e w7 ⟨ra, rc, rfl, hat, hll, hb⟩
  have HL := Hid.of (HL.out.below hb (Nat.le_refl _))
  have HR := Hid.of hat
  have HRN := Hid.of hll
  have B7 := Hid.of (B6.out.trans (hb.mono B6.out.size))
  have K7 := Hid.of (K6.out.below hb K6.out.lt)
  clear x0 x1 x2 x3 x4 hat hll
  obtain ⟨x0, x1, x2, x3, x4⟩ := mcell_of K7.out
  clear hb
  go_wp2_with fail
  refine (same_any la ra lc rc _ _ _ HL.out HR.out HLN.out HRN.out).mono ?_
  rintro e w8 ⟨rfl, q8, rfl⟩
  rw [sameB_refl]
  have B8 := Hid.of (below_drewN B7.out q8)
  have K8 : Hid (Blk (w7.drewN q8) w.heap.size 25 (mcells m l)) := K7.out
  go_wp2_with fail
  refine (refAccepts_any m l wa wc word _ (h.out.below B8.out (Nat.le_refl _)) (mayB_size hm.out).2.2.2.2 (rowB_len256 hm.out) (hv.out.below B8.out (Nat.le_refl _)) hwl.out).mono ?_
  rintro e w9 ⟨rfl, hb⟩
  have B9 := Hid.of (B8.out.trans (hb.mono B8.out.size))
  have K9 := Hid.of (K8.out.below hb K8.out.lt)
  try clear x0 x1 x2 x3 x4
  obtain ⟨x0, x1, x2, x3, x4⟩ := mcell_of K9.out
  clear hb
  go_wp2
  go_ret
  exact ⟨rfl, B9.out⟩

theorem tells_any (m : Mach) (l : ML) (sa wa : Option Addr) (sc wc : Nat) (ss word : List Int) (w : World) (hT : Hid (Tab w)) (h : Hid (MAt w m l)) (hs : Hid (At w sa ss)) (hsl : Hid (ss.length ≤ maxLen)) (hsn : Hid (sa = none → sc = 0)) (hv : Hid (At w wa word)) (hwl : Hid (word.length ≤ maxLen)) :
    Calls Tryd.prog 3 #[mval m l, .slice sa ss.length sc, .slice wa word.length wc] w fun e w' => e = .returned (.bool true) ∧ Below w.heap.size w w' := by
  cases hm : mayB m with
  | false => exact tells_no m l sa wa sc wc ss word w hT h hs hsl hsn hv hwl hm
  | true =>
    cases hr : rowB m.st ss with
    | false =>
      cases hwd : wordB m.ev word with
      | false => exact tells_ff m l sa wa sc wc ss word w hT h hs hsl hsn hv hwl hm hr hwd
      | true => exact tells_ft m l sa wa sc wc ss word w hT h hs hsl hsn hv hwl hm hr hwd
    | true =>
      cases hwd : wordB m.ev word with
      | false => exact tells_tf m l sa wa sc wc ss word w hT h hs hsl hsn hv hwl hm hr hwd
      | true => exact tells_tt m l sa wa sc wc ss word w hT h hs hsl hsn hv hwl hm hr hwd

end Go.Proofs.YtfhbkemmdoappaaDoor
