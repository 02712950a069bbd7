/-
  The walk of machine.after: where a word leads, as a set; or what is wrong.
-/
import Derived.Test.YtcjcjaeaoianfaaDoorCLeadAny
import Derived.Test.YtcjcjaeaoianfaaDoorCLead1
import Derived.Test.YtcjcjaeaoianfaaDoorCPMay
import Derived.Test.YtcjcjaeaoianfaaDoorCIsWord
import Derived.Test.YtcjcjaeaoianfaaDoorCSetEq
import Derived.Laws.ResultCell
namespace Go.Proofs.YtcjcjaeaoianfaaDoor
open Go.RowKit
set_option linter.unusedVariables false

/-- What is wrong (B2): 2: ErrForm, 6: ErrRange, 0: nothing. -/
def errA (m : Mach) (ss word : List Int) : Int := if mayB m = true ∧ rowB m.st ss = true then (if wordB m.ev word = true then 0 else 6) else 2

theorem results_set {fn : Func} {p u : Tmp} (h : fn.results = #[.cell p 55, .tmp u]) (tmps : Array Value) (w : World) (g : Nat) (S : Nat → Nat) (c : Int) (hp : tmps.getD p undef = .pointer (some ⟨g, 0, none⟩)) (hu : tmps.getD u undef = .int .i64 c) (hS : SB w g S) :
    (results fn tmps).run Tryd.prog w = .ok (.tuple #[sval S, .int .i64 c]) w := by
  rw [results_cell_tmp h, hp, hu]
  have := run_loadVar_row w g 55 55 (scells S) (0, 0) _ hS Tryd.underlying55 rfl (by kernel_rfl)
  simp [asAddr, this, Result.andThen]

theorem mcell_of {W : World} {b : Nat} {m : Mach} {l : ML} (h : Blk W b 25 (mcells m l)) : W.cell? ⟨b, 0, none⟩ = some (.int .i64 m.st) ∧ W.cell? ⟨b, 1, none⟩ = some (.int .i64 m.ev) ∧ W.cell? ⟨b, 2, none⟩ = some (.slice l.a1 m.starts.length l.c1) ∧ W.cell? ⟨b, 3, none⟩ = some (.slice l.a2 m.arrows.length l.c2) ∧ W.cell? ⟨b, 4, none⟩ = some (.slice l.a3 m.ends.length l.c3) :=
  ⟨h.cell 0 rfl, h.cell 1 rfl, h.cell 2 rfl, h.cell 3 rfl, h.cell 4 rfl⟩

set_option maxRecDepth 100000 in
set_option maxHeartbeats 4000000 in
theorem after_form1 (m : Mach) (l : ML) (sa wa : Option Addr) (sc wc : Nat) (ss word : List Int) (w : World) (h : MAt w m l) (hm : Hid (mayB m = false)) :
    Calls Tryd.prog 38 #[mval m l, .slice sa ss.length sc, .slice wa word.length wc] w fun e w' => e = .returned (.tuple #[sval zeroS, .int .i64 2]) ∧ Below w.heap.size w w' := by
  have b1 : SB ((w.alloc (.cells (mcells m l) 25)).alloc (.cells (scells zeroS) 55)) (w.heap.size + 1) zeroS := by
    have := Blk.new (w.alloc (.cells (mcells m l) 25)) 55 (scells zeroS)
    rwa [World.size_alloc] at this
  have b0 : Below w.heap.size w ((w.alloc (.cells (mcells m l) 25)).alloc (.cells (scells zeroS) 55)) := ((Below.refl _ _).alloc (Nat.le_refl _) _).alloc (by simp) _
  have h' := Hid.of (h.below b0 (Nat.le_refl _))
  have B1 := Hid.of b1
  have B0 := Hid.of b0
  clear b0 b1
  go_enter Tryd.func38, Tryd.ntmps38
  go_wp2_with fail
  refine (pMay_any m l _ h'.out).mono ?_
  rintro e w1 ⟨rfl, hb1⟩
  rw [hm.out]
  have s1 := B1.out.below hb1 B1.out.lt
  obtain ⟨r0, r1, r2, r3⟩ := SB.cells s1
  have fz := s1.frozen
  have S1 := Hid.of s1
  have HB := Hid.of (B0.out.trans (hb1.mono B0.out.size))
  clear hb1 s1
  go_wp2
  refine bodyPost_ret (v := .tuple #[sval zeroS, .int .i64 2]) ?_ rfl ⟨rfl, below_set4 HB.out (b' := w.heap.size + 1) (by omega) _ _ _ _⟩
  exact results_set (p := 6) (u := 7) rfl _ _ (w.heap.size + 1) zeroS 2 rfl rfl (SB.set4 S1.out zeroS)

set_option maxRecDepth 100000 in
set_option maxHeartbeats 4000000 in
theorem after_form2 (m : Mach) (l : ML) (sa wa : Option Addr) (sc wc : Nat) (ss word : List Int) (w : World) (h : MAt w m l) (hm : Hid (mayB m = true)) (hs : Hid (At w sa ss)) (hl : Hid (ss.length ≤ maxLen)) (hr : Hid (rowB m.st ss = false)) :
    Calls Tryd.prog 38 #[mval m l, .slice sa ss.length sc, .slice wa word.length wc] w fun e w' => e = .returned (.tuple #[sval zeroS, .int .i64 2]) ∧ Below w.heap.size w w' := by
  have b1 : SB ((w.alloc (.cells (mcells m l) 25)).alloc (.cells (scells zeroS) 55)) (w.heap.size + 1) zeroS := by
    have := Blk.new (w.alloc (.cells (mcells m l) 25)) 55 (scells zeroS)
    rwa [World.size_alloc] at this
  have b0 : Below w.heap.size w ((w.alloc (.cells (mcells m l) 25)).alloc (.cells (scells zeroS) 55)) := ((Below.refl _ _).alloc (Nat.le_refl _) _).alloc (by simp) _
  have h' := Hid.of (h.below b0 (Nat.le_refl _))
  have B1 := Hid.of b1
  have B0 := Hid.of b0
  have K1 := Hid.of ((Blk.new w 25 (mcells m l)).alloc (.cells (scells zeroS) 55))
  clear b0 b1
  go_enter Tryd.func38, Tryd.ntmps38
  go_wp2_with fail
  refine (pMay_any m l _ h'.out).mono ?_
  rintro e w1 ⟨rfl, hb1⟩
  rw [hm.out]
  have s1 := B1.out.below hb1 B1.out.lt
  have k1 := K1.out.below hb1 K1.out.lt
  have x0 : w1.cell? ⟨w.heap.size, 0, none⟩ = some (.int .i64 m.st) := k1.cell 0 rfl
  obtain ⟨r0, r1, r2, r3⟩ := SB.cells s1
  have fz := s1.frozen
  have S1 := Hid.of s1
  have HB := Hid.of (B0.out.trans (hb1.mono B0.out.size))
  clear hb1 s1 k1
  go_wp2_with fail
  refine (rowIs_any sa sc ss m.st _ (hs.out.below HB.out (Nat.le_refl _)) hl.out).mono ?_
  rintro e w2 ⟨rfl, rfl⟩
  rw [hr.out]
  clear x0
  go_wp2
  refine bodyPost_ret (v := .tuple #[sval zeroS, .int .i64 2]) ?_ rfl ⟨rfl, below_set4 HB.out (b' := w.heap.size + 1) (by omega) _ _ _ _⟩
  exact results_set (p := 6) (u := 7) rfl _ _ (w.heap.size + 1) zeroS 2 rfl rfl (SB.set4 S1.out zeroS)

set_option maxRecDepth 100000 in
set_option maxHeartbeats 4000000 in
theorem after_range (m : Mach) (l : ML) (sa wa : Option Addr) (sc wc : Nat) (ss word : List Int) (w : World) (h : MAt w m l) (hm : Hid (mayB m = true)) (hs : Hid (At w sa ss)) (hl : Hid (ss.length ≤ maxLen)) (hr : Hid (rowB m.st ss = true)) (hv : Hid (At w wa word)) (hwl : Hid (word.length ≤ maxLen)) (hwd : Hid (wordB m.ev word = false)) :
    Calls Tryd.prog 38 #[mval m l, .slice sa ss.length sc, .slice wa word.length wc] w fun e w' => e = .returned (.tuple #[sval zeroS, .int .i64 6]) ∧ Below w.heap.size w w' := by
  have b1 : SB ((w.alloc (.cells (mcells m l) 25)).alloc (.cells (scells zeroS) 55)) (w.heap.size + 1) zeroS := by
    have := Blk.new (w.alloc (.cells (mcells m l) 25)) 55 (scells zeroS)
    rwa [World.size_alloc] at this
  have b0 : Below w.heap.size w ((w.alloc (.cells (mcells m l) 25)).alloc (.cells (scells zeroS) 55)) := ((Below.refl _ _).alloc (Nat.le_refl _) _).alloc (by simp) _
  have h' := Hid.of (h.below b0 (Nat.le_refl _))
  have B1 := Hid.of b1
  have B0 := Hid.of b0
  have K1 := Hid.of ((Blk.new w 25 (mcells m l)).alloc (.cells (scells zeroS) 55))
  clear b0 b1
  go_enter Tryd.func38, Tryd.ntmps38
  go_wp2_with fail
  refine (pMay_any m l _ h'.out).mono ?_
  rintro e w1 ⟨rfl, hb1⟩
  rw [hm.out]
  have s1 := B1.out.below hb1 B1.out.lt
  have k1 := K1.out.below hb1 K1.out.lt
  have x0 : w1.cell? ⟨w.heap.size, 0, none⟩ = some (.int .i64 m.st) := k1.cell 0 rfl
  obtain ⟨r0, r1, r2, r3⟩ := SB.cells s1
  have fz := s1.frozen
  have S1 := Hid.of s1
  have HB := Hid.of (B0.out.trans (hb1.mono B0.out.size))
  have K2 := Hid.of k1
  clear hb1 s1 k1
  go_wp2_with fail
  refine (rowIs_any sa sc ss m.st _ (hs.out.below HB.out (Nat.le_refl _)) hl.out).mono ?_
  rintro e w2 ⟨rfl, rfl⟩
  rw [hr.out]
  obtain ⟨x0', x1, x2, x3, x4⟩ := mcell_of K2.out
  go_wp2_with fail
  refine (isWord_any m l wc wa word _ (hv.out.below HB.out (Nat.le_refl _)) hwl.out).mono ?_
  rintro e w3 ⟨rfl, hb3⟩
  rw [hwd.out]
  clear x0 x0' x1 x2 x3 x4 r0 r1 r2 r3 fz
  have s3 := S1.out.below hb3 S1.out.lt
  obtain ⟨r0, r1, r2, r3⟩ := SB.cells s3
  have fz := s3.frozen
  have S3 := Hid.of s3
  have HB3 := Hid.of (HB.out.trans (hb3.mono HB.out.size))
  clear hb3 s3
  go_wp2
  refine bodyPost_ret (v := .tuple #[sval zeroS, .int .i64 6]) ?_ rfl ⟨rfl, below_set4 HB3.out (b' := w.heap.size + 1) (by omega) _ _ _ _⟩
  exact results_set (p := 6) (u := 7) rfl _ _ (w.heap.size + 1) zeroS 6 rfl rfl (SB.set4 S3.out zeroS)

end Go.Proofs.YtcjcjaeaoianfaaDoor
