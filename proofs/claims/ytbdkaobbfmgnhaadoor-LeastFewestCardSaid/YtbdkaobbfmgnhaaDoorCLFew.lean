/-
  The walk of the law LeastFewest.
-/
import Derived.Test.YtbdkaobbfmgnhaaDoorCPLeast
import Derived.Test.YtbdkaobbfmgnhaaDoorG29
import Derived.Test.YtbdkaobbfmgnhaaDoorG28
namespace Go.Proofs.YtbdkaobbfmgnhaaDoor
open Go.RowKit
set_option linter.unusedVariables false

set_option maxRecDepth 100000 in
set_option maxHeartbeats 8000000 in
theorem lfew_any (a b : Mach) (la lb : ML) (w : World) (hT : Hid (Tab w)) (h : Hid (MAt w a la)) (h' : Hid (MAt w b lb)) :
    Calls Tryd.prog 12 #[mval a la, mval b lb] w fun e w' => e = .returned (.bool true) ∧ Below w.heap.size w w' := by
  have B : Hid (Below w.heap.size w ((w.alloc (.cells (mcells a la) 25)).alloc (.cells (mcells b lb) 25))) := ((Below.refl _ _).alloc (Nat.le_refl _) _).alloc (by simp) _
  have KA : Hid (Blk ((w.alloc (.cells (mcells a la) 25)).alloc (.cells (mcells b lb) 25)) w.heap.size 25 (mcells a la)) := (Blk.new w _ _).alloc _
  have KB : Hid (Blk ((w.alloc (.cells (mcells a la) 25)).alloc (.cells (mcells b lb) 25)) (w.heap.size + 1) 25 (mcells b lb)) := by
    have := Blk.new (w.alloc (.cells (mcells a la) 25)) 25 (mcells b lb)
    rwa [World.size_alloc] at this
  go_enter Tryd.func12, Tryd.ntmps12
  go_wp2_with fail
  revert B KA KB
  generalize ((w.alloc (.cells (mcells a la) 25)).alloc (.cells (mcells b lb) 25)) = V0
  intro B KA KB
  refine (refMay_any a la _ (h.out.below B.out (Nat.le_refl _))).mono ?_
  rintro e W1 ⟨rfl, hb⟩
  replace B := Hid.of (B.out.trans (hb.mono B.out.size))
  replace KA := Hid.of (KA.out.below hb KA.out.lt)
  replace KB := Hid.of (KB.out.below hb KB.out.lt)
  clear hb
  cases hma : mayB a with
  | false =>
    go_wp2_with fail
    go_ret
    exact ⟨rfl, B.out⟩
  | true =>
    have HMA := Hid.of hma
    clear hma
    by_cases za : a.st ≤ 6
    · have d1 : decide ((6 : Int) < a.st) = false := by simp; omega
      by_cases zb : b.st ≤ 6
      · have d2 : decide ((6 : Int) < b.st) = false := by simp; omega
        by_cases he : b.ev = a.ev
        · have de : (b.ev != a.ev) = false := by rw [he]; simp
          have HE := Hid.of he
          clear he
          obtain ⟨x0, x1, x2, x3, x4⟩ := mcell_at KA.out
          obtain ⟨y0, y1, y2, y3, y4⟩ := mcell_at KB.out
          go_wp2_with fail
          clear x0 x1 x2 x3 x4 y0 y1 y2 y3 y4
          refine (rIs_any b lb _ (Hid.of (h'.out.below B.out (Nat.le_refl _)))).mono ?_
          rintro e W2 ⟨rfl, hb⟩
          replace B := Hid.of (B.out.trans (hb.mono B.out.size))
          replace KA := Hid.of (KA.out.below hb KA.out.lt)
          replace KB := Hid.of (KB.out.below hb KB.out.lt)
          clear hb
          cases hdb : detB b with
          | false =>
            go_wp2_with fail
            go_ret
            exact ⟨rfl, B.out⟩
          | true =>
            have HDB := Hid.of hdb
            have HMB : Hid (mayB b = true) := by have := hdb; unfold detB at this; rw [Bool.and_eq_true] at this; exact this.1
            clear hdb
            obtain ⟨x0, x1, x2, x3, x4⟩ := mcell_at KA.out
            go_wp2_with fail
            clear x0 x1 x2 x3 x4
            refine (pLeast_any a la _ (h.out.below B.out (Nat.le_refl _)) (hT.out.below B.out hT.out.lt)).mono ?_
            rintro e W3 ⟨M, L, c, ho, rfl, mt, hb⟩
            replace B := Hid.of (B.out.trans (hb.mono B.out.size))
            replace KA := Hid.of (KA.out.below hb KA.out.lt)
            replace KB := Hid.of (KB.out.below hb KB.out.lt)
            clear hb
            obtain ⟨e1, hl1⟩ := ho.ok HMA.out za
            subst e1
            have HL1 := Hid.of hl1
            have MT := Hid.of mt
            clear ho mt hl1
            have hb : Below W3.heap.size W3 (W3.alloc (.cells (mcells M L) 25)) := (Below.refl _ _).alloc (Nat.le_refl _) _
            replace B := Hid.of (B.out.trans (hb.mono B.out.size))
            replace KA := Hid.of (KA.out.below hb KA.out.lt)
            replace KB := Hid.of (KB.out.below hb KB.out.lt)
            replace MT := Hid.of (MT.out.below hb (Nat.le_refl _))
            clear hb
            have KM := Hid.of (Blk.new W3 25 (mcells M L))
            go_wp2_with fail
            revert B KA KB MT KM
            show Hid (Below w.heap.size w (W3.alloc (.cells #[.int .i64 M.st, .int .i64 M.ev, .slice L.a1 M.starts.length L.c1, .slice L.a2 M.arrows.length L.c2, .slice L.a3 M.ends.length L.c3] 25))) → _
            generalize W3.alloc (.cells #[.int .i64 M.st, .int .i64 M.ev, .slice L.a1 M.starts.length L.c1, .slice L.a2 M.arrows.length L.c2, .slice L.a3 M.ends.length L.c3] 25) = W4
            generalize W3.heap.size = p1
            intro B KA KB MT KM
            refine (rIs_any M L _ (Hid.of MT.out)).mono ?_
            rintro e W5 ⟨rfl, hb⟩
            replace B := Hid.of (B.out.trans (hb.mono B.out.size))
            replace KA := Hid.of (KA.out.below hb KA.out.lt)
            replace KB := Hid.of (KB.out.below hb KB.out.lt)
            replace MT := Hid.of (MT.out.below hb (Nat.le_refl _))
            replace KM := Hid.of (KM.out.below hb KM.out.lt)
            clear hb
            rw [(least_det HMA.out za HL1.out).1]
            obtain ⟨x0, x1, x2, x3, x4⟩ := mcell_at KA.out
            obtain ⟨y0, y1, y2, y3, y4⟩ := mcell_at KB.out
            go_wp2_with fail
            clear x0 x1 x2 x3 x4 y0 y1 y2 y3 y4
            have HFW : Hid ((outW a b).isSome = false → (outW b a).isSome = false → M.st ≤ b.st) := fun q1 q2 => (least_few HMA.out za HDB.out zb HE.out HL1.out ⟨by simpa using q1, by simpa using q2⟩).2
            refine (without_any a b la lb _ (Hid.of (h.out.below B.out (Nat.le_refl _))) (Hid.of (h'.out.below B.out (Nat.le_refl _))) HMA HMB (Hid.of za) (Hid.of zb)).mono ?_
            rintro e W7 ⟨va, vc, rfl, -, -, hb⟩
            replace B := Hid.of (B.out.trans (hb.mono B.out.size))
            replace KA := Hid.of (KA.out.below hb KA.out.lt)
            replace KB := Hid.of (KB.out.below hb KB.out.lt)
            replace MT := Hid.of (MT.out.below hb (Nat.le_refl _))
            replace KM := Hid.of (KM.out.below hb KM.out.lt)
            clear hb
            obtain ⟨n1, HN1⟩ : ∃ n1, Hid (n1 = ((outW a b).getD []).length) := ⟨_, rfl⟩
            obtain ⟨s1, HS1⟩ : ∃ s1, Hid (s1 = (outW a b).isSome) := ⟨_, rfl⟩
            rw [← HN1.out, ← HS1.out]
            obtain ⟨x0, x1, x2, x3, x4⟩ := mcell_at KA.out
            obtain ⟨y0, y1, y2, y3, y4⟩ := mcell_at KB.out
            go_wp2_with fail
            clear x0 x1 x2 x3 x4 y0 y1 y2 y3 y4
            refine (without_any b a lb la _ (Hid.of (h'.out.below B.out (Nat.le_refl _))) (Hid.of (h.out.below B.out (Nat.le_refl _))) HMB HMA (Hid.of zb) (Hid.of za)).mono ?_
            rintro e W8 ⟨va2, vc2, rfl, -, -, hb⟩
            replace B := Hid.of (B.out.trans (hb.mono B.out.size))
            replace KA := Hid.of (KA.out.below hb KA.out.lt)
            replace KB := Hid.of (KB.out.below hb KB.out.lt)
            replace MT := Hid.of (MT.out.below hb (Nat.le_refl _))
            replace KM := Hid.of (KM.out.below hb KM.out.lt)
            clear hb
            obtain ⟨n2, HN2⟩ : ∃ n2, Hid (n2 = ((outW b a).getD []).length) := ⟨_, rfl⟩
            obtain ⟨s2, HS2⟩ : ∃ s2, Hid (s2 = (outW b a).isSome) := ⟨_, rfl⟩
            rw [← HN2.out, ← HS2.out]
            rw [← HS1.out, ← HS2.out] at HFW
            obtain ⟨x0, x1, x2, x3, x4⟩ := mcell_at KM.out
            obtain ⟨y0, y1, y2, y3, y4⟩ := mcell_at KB.out
            cases s1 with
            | true =>
              go_wp2_with fail
              go_ret
              exact ⟨rfl, B.out⟩
            | false =>
              cases s2 with
              | true =>
                go_wp2_with fail
                go_ret
                exact ⟨rfl, B.out⟩
              | false =>
                have hle := HFW.out rfl rfl
                have hleD : decide (M.st ≤ b.st) = true := by simpa using hle
                go_wp2_with fail
                go_ret
                exact ⟨rfl, B.out⟩
        · have de : (b.ev != a.ev) = true := by simp [he]
          obtain ⟨x0, x1, x2, x3, x4⟩ := mcell_at KA.out
          obtain ⟨y0, y1, y2, y3, y4⟩ := mcell_at KB.out
          go_wp2_with fail
          clear x0 x1 x2 x3 x4 y0 y1 y2 y3 y4
          go_ret
          exact ⟨rfl, B.out⟩
      · have d2 : decide ((6 : Int) < b.st) = true := by simp; omega
        obtain ⟨x0, x1, x2, x3, x4⟩ := mcell_at KA.out
        obtain ⟨y0, y1, y2, y3, y4⟩ := mcell_at KB.out
        go_wp2_with fail
        clear x0 x1 x2 x3 x4 y0 y1 y2 y3 y4
        go_ret
        exact ⟨rfl, B.out⟩
    · have d1 : decide ((6 : Int) < a.st) = true := by simp; omega
      obtain ⟨x0, x1, x2, x3, x4⟩ := mcell_at KA.out
      obtain ⟨y0, y1, y2, y3, y4⟩ := mcell_at KB.out
      go_wp2_with fail
      clear x0 x1 x2 x3 x4 y0 y1 y2 y3 y4
      go_ret
      exact ⟨rfl, B.out⟩

end Go.Proofs.YtbdkaobbfmgnhaaDoor
