/-
  The walk of the law LeastMakes.
-/
import Derived.Test.YtkkkacmccndinaaDoorG33
import Derived.Test.YtkkkacmccndinaaDoorCRLea
import Derived.Test.YtkkkacmccndinaaDoorCRefMay
namespace Go.Proofs.YtkkkacmccndinaaDoor
open Go.RowKit
set_option linter.unusedVariables false

set_option maxRecDepth 100000 in
set_option maxHeartbeats 8000000 in
theorem lmakes_any (m : Mach) (l : ML) (w : World) (hT : Hid (Tab w)) (h : Hid (MAt w m l)) :
    Calls Tryd.prog 9 #[mval m l] w fun e w' => e = .returned (.bool true) ∧ Below w.heap.size w w' := by
  have B : Hid (Below w.heap.size w (w.alloc (.cells (mcells m l) 25))) := (Below.refl _ _).alloc (Nat.le_refl _) _
  have KM : Hid (Blk (w.alloc (.cells (mcells m l) 25)) w.heap.size 25 (mcells m l)) := Blk.new w _ _
  go_enter Tryd.func9, Tryd.ntmps9
  go_wp2_with fail
  revert B KM
  generalize (w.alloc (.cells (mcells m l) 25)) = V0
  intro B KM
  refine (pLeast_any m l V0 (h.out.below B.out (Nat.le_refl _)) (hT.out.below B.out hT.out.lt)).mono ?_
  rintro e W1 ⟨M, L, c, ho, rfl, mt, hb⟩
  replace B := Hid.of (B.out.trans (hb.mono B.out.size))
  replace KM := Hid.of (KM.out.below hb KM.out.lt)
  clear hb
  have HO := Hid.of ho
  have MT := Hid.of mt
  clear ho mt
  have hb : Below W1.heap.size W1 (W1.alloc (.cells (mcells M L) 25)) := (Below.refl _ _).alloc (Nat.le_refl _) _
  replace B := Hid.of (B.out.trans (hb.mono B.out.size))
  replace KM := Hid.of (KM.out.below hb KM.out.lt)
  replace MT := Hid.of (MT.out.below hb (Nat.le_refl _))
  clear hb
  have KL := Hid.of (Blk.new W1 25 (mcells M L))
  obtain ⟨x0, x1, x2, x3, x4⟩ := mcell_at KM.out
  go_wp2_with fail
  clear x0 x1 x2 x3 x4
  revert B KM MT KL
  show Hid (Below w.heap.size w (W1.alloc (.cells #[.int .i64 M.st, .int .i64 M.ev, .slice L.a1 M.starts.length L.c1, .slice L.a2 M.arrows.length L.c2, .slice L.a3 M.ends.length L.c3] 25))) → _
  generalize W1.alloc (.cells #[.int .i64 M.st, .int .i64 M.ev, .slice L.a1 M.starts.length L.c1, .slice L.a2 M.arrows.length L.c2, .slice L.a3 M.ends.length L.c3] 25) = W2
  generalize W1.heap.size = p1
  intro B KM MT KL
  refine (refMay_any m l _ (h.out.below B.out (Nat.le_refl _))).mono ?_
  rintro e W3 ⟨rfl, hb⟩
  replace B := Hid.of (B.out.trans (hb.mono B.out.size))
  replace KM := Hid.of (KM.out.below hb KM.out.lt)
  replace MT := Hid.of (MT.out.below hb (Nat.le_refl _))
  replace KL := Hid.of (KL.out.below hb KL.out.lt)
  clear hb
  cases hm : mayB m with
  | false =>
    obtain ⟨e1, e2⟩ := HO.out.bad hm
    subst e1; subst e2
    clear hm HO
    obtain ⟨y0, y1, y2, y3, y4⟩ := mcell_at KL.out
    go_wp2_with fail
    clear y0 y1 y2 y3 y4
    refine (machines_any m0 m0 L ml0 _ MT.out (mat0 _)).mono ?_
    rintro e W4 ⟨rfl, hb⟩
    replace B := Hid.of (B.out.trans (hb.mono B.out.size))
    replace KM := Hid.of (KM.out.below hb KM.out.lt)
    replace MT := Hid.of (MT.out.below hb (Nat.le_refl _))
    replace KL := Hid.of (KL.out.below hb KL.out.lt)
    clear hb
    rw [sameM_self]
    go_wp2_with fail
    go_ret
    exact ⟨rfl, B.out⟩
  | true =>
    by_cases hs : 6 < m.st
    · obtain ⟨e1, e2⟩ := HO.out.big hm hs
      subst e1; subst e2
      have hsD : decide ((6 : Int) < m.st) = true := by simpa using hs
      clear hm HO
      obtain ⟨x0, x1, x2, x3, x4⟩ := mcell_at KM.out
      obtain ⟨y0, y1, y2, y3, y4⟩ := mcell_at KL.out
      go_wp2_with fail
      clear x0 x1 x2 x3 x4 y0 y1 y2 y3 y4
      refine (machines_any m0 m0 L ml0 _ MT.out (mat0 _)).mono ?_
      rintro e W4 ⟨rfl, hb⟩
      replace B := Hid.of (B.out.trans (hb.mono B.out.size))
      replace KM := Hid.of (KM.out.below hb KM.out.lt)
      replace MT := Hid.of (MT.out.below hb (Nat.le_refl _))
      replace KL := Hid.of (KL.out.below hb KL.out.lt)
      clear hb
      rw [sameM_self]
      go_wp2_with fail
      go_ret
      exact ⟨rfl, B.out⟩
    · obtain ⟨e1, HL⟩ := HO.out.ok hm (by omega)
      subst e1
      have HIL := Hid.of HL
      have hsD : decide ((6 : Int) < m.st) = false := by simpa using hs
      have hs6 : m.st ≤ 6 := by omega
      have HM := Hid.of hm
      clear hm HO HL
      obtain ⟨x0, x1, x2, x3, x4⟩ := mcell_at KM.out
      obtain ⟨y0, y1, y2, y3, y4⟩ := mcell_at KL.out
      go_wp2_with fail
      clear x0 x1 x2 x3 x4 y0 y1 y2 y3 y4
      refine (rLea_any m l _ (h.out.below B.out (Nat.le_refl _)) HM.out hs6).mono ?_
      rintro e W4 ⟨N, LN, rfl, hl2, mt2, hb⟩
      replace B := Hid.of (B.out.trans (hb.mono B.out.size))
      replace KM := Hid.of (KM.out.below hb KM.out.lt)
      replace MT := Hid.of (MT.out.below hb (Nat.le_refl _))
      replace KL := Hid.of (KL.out.below hb KL.out.lt)
      clear hb
      have e3 : N = M := hl2.one HIL.out
      subst e3
      have MT2 := Hid.of mt2
      clear mt2 hl2
      have hb : Below W4.heap.size W4 (W4.alloc (.cells (mcells N LN) 25)) := (Below.refl _ _).alloc (Nat.le_refl _) _
      replace B := Hid.of (B.out.trans (hb.mono B.out.size))
      replace KM := Hid.of (KM.out.below hb KM.out.lt)
      replace MT := Hid.of (MT.out.below hb (Nat.le_refl _))
      replace KL := Hid.of (KL.out.below hb KL.out.lt)
      replace MT2 := Hid.of (MT2.out.below hb (Nat.le_refl _))
      clear hb
      have KN := Hid.of (Blk.new W4 25 (mcells N LN))
      obtain ⟨y0, y1, y2, y3, y4⟩ := mcell_at KL.out
      go_wp2_with fail
      clear y0 y1 y2 y3 y4
      revert B KM MT KL MT2 KN
      show Hid (Below w.heap.size w (W4.alloc (.cells #[.int .i64 N.st, .int .i64 N.ev, .slice LN.a1 N.starts.length LN.c1, .slice LN.a2 N.arrows.length LN.c2, .slice LN.a3 N.ends.length LN.c3] 25))) → _
      generalize W4.alloc (.cells #[.int .i64 N.st, .int .i64 N.ev, .slice LN.a1 N.starts.length LN.c1, .slice LN.a2 N.arrows.length LN.c2, .slice LN.a3 N.ends.length LN.c3] 25) = W5
      generalize W4.heap.size = p2
      intro B KM MT KL MT2 KN
      refine (machines_any N N L LN _ MT.out MT2.out).mono ?_
      rintro e W6 ⟨rfl, hb⟩
      replace B := Hid.of (B.out.trans (hb.mono B.out.size))
      replace KM := Hid.of (KM.out.below hb KM.out.lt)
      replace MT := Hid.of (MT.out.below hb (Nat.le_refl _))
      replace KL := Hid.of (KL.out.below hb KL.out.lt)
      replace MT2 := Hid.of (MT2.out.below hb (Nat.le_refl _))
      replace KN := Hid.of (KN.out.below hb KN.out.lt)
      clear hb
      rw [sameM_self]
      go_wp2_with fail
      go_ret
      exact ⟨rfl, B.out⟩

end Go.Proofs.YtkkkacmccndinaaDoor
