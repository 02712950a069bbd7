/-
  The walk of the law BesideMakes.
-/
import Derived.Test.YtialjbdfkhfcoabG15
import Derived.Test.YtialjbdfkhfcoabG20
namespace Go.Proofs.Ytialjbdfkhfcoab
open Go.RowKit
set_option linter.unusedVariables false

/-- What Beside answers, plainly: the machine, the list, and what is wrong. -/
def besOut (a b : Mach) (ofA ofB : List Int) : Mach × List (List Int) × Int :=
  if mayB a = false ∨ mayB b = false then (m0, [], 2)
  else if ¬ a.ev = b.ev then (m0, [], 3)
  else if rowB a.ev ofA = false ∨ rowB a.ev ofB = false then (m0, [], 2)
  else match besideS a b ofA ofB with
    | none => (m0, [], 1)
    | some s => (besideM a b s, prs s.ps, 0)

theorem besErr_out {c : Int} {w w' : World} {e : Ending} (h : BesErr c w e w') : ∃ L va vc, e = .returned (.tuple #[mval m0 L, .slice va ([] : List (List Int)).length vc, .int .i64 c]) ∧ MAt w' m0 L ∧ At2 w' va ([] : List (List Int)) ∧ Below w.heap.size w w' := by
  obtain ⟨rfl, hb⟩ := h
  exact ⟨ml0, none, 0, rfl, mat0 _, .inl rfl, hb⟩

theorem besAll_out {w w' : World} {a b : Mach} {ofA ofB : List Int} {e : Ending} (h : BesAll w a b ofA ofB e w') :
    ∃ L va vc, e = .returned (.tuple #[mval (besOut a b ofA ofB).1 L, .slice va (besOut a b ofA ofB).2.1.length vc, .int .i64 (besOut a b ofA ofB).2.2]) ∧ MAt w' (besOut a b ofA ofB).1 L ∧ At2 w' va (besOut a b ofA ofB).2.1 ∧ Below w.heap.size w w' ∧ (besOut a b ofA ofB).2.1.length ≤ maxLen := by
  have h0 : ([] : List (List Int)).length ≤ maxLen := Nat.zero_le _
  unfold BesAll at h
  unfold besOut
  split
  · rw [if_pos ‹_›] at h
    obtain ⟨L, va, vc, h1, h2, h3, h4⟩ := besErr_out h
    exact ⟨L, va, vc, h1, h2, h3, h4, h0⟩
  · rw [if_neg ‹_›] at h
    split
    · rw [if_pos ‹_›] at h
      obtain ⟨L, va, vc, h1, h2, h3, h4⟩ := besErr_out h
      exact ⟨L, va, vc, h1, h2, h3, h4, h0⟩
    · rw [if_neg ‹_›] at h
      split
      · rw [if_pos ‹_›] at h
        obtain ⟨L, va, vc, h1, h2, h3, h4⟩ := besErr_out h
        exact ⟨L, va, vc, h1, h2, h3, h4, h0⟩
      · rw [if_neg ‹_›] at h
        unfold BesGives at h
        split
        · rename_i heq
          rw [heq] at h
          obtain ⟨L, va, vc, h1, h2, h3, h4⟩ := besErr_out h
          exact ⟨L, va, vc, h1, h2, h3, h4, h0⟩
        · rename_i s heq
          rw [heq] at h
          obtain ⟨L, v, rfl, hm, hown, hb⟩ := h
          obtain ⟨va, vc, rfl, hat, hl1, hl2, -⟩ := hown.at
          exact ⟨L, va, vc, rfl, hm, hat, hb, Nat.le_trans hl1 hl2⟩

theorem sameL_self (p : List (List Int)) : sameL p p = true := (sameL_iff p p).2 rfl

set_option maxRecDepth 100000 in
set_option maxHeartbeats 4000000 in
theorem btells_any (a b : Mach) (la lb : ML) (fa ga : Option Addr) (fc gc : Nat) (ofA ofB : List Int) (w : World) (ha : Hid (MAt w a la)) (hb : Hid (MAt w b lb)) (hA : Hid (At w fa ofA)) (lA : Hid (ofA.length ≤ fc ∧ fc ≤ maxLen)) (hB : Hid (At w ga ofB)) (lB : Hid (ofB.length ≤ gc ∧ gc ≤ maxLen)) :
    Calls Try.prog 3 #[mval a la, mval b lb, .slice fa ofA.length fc, .slice ga ofB.length gc] w fun e w' => e = .returned (.bool true) ∧ Below w.heap.size w w' := by
  have B0 : Hid (Below w.heap.size w ((w.alloc (.cells (mcells a la) 25)).alloc (.cells (mcells b lb) 25))) := ((Below.refl _ _).alloc (Nat.le_refl _) _).alloc (by simp) _
  have KA0 : Hid (Blk ((w.alloc (.cells (mcells a la) 25)).alloc (.cells (mcells b lb) 25)) w.heap.size 25 (mcells a la)) := (Blk.new w _ _).alloc _
  have KB0 : Hid (Blk ((w.alloc (.cells (mcells a la) 25)).alloc (.cells (mcells b lb) 25)) (w.heap.size + 1) 25 (mcells b lb)) := by
    have := Blk.new (w.alloc (.cells (mcells a la) 25)) 25 (mcells b lb)
    rwa [World.size_alloc] at this
  go_enter Try.func3, Try.ntmps3
  go_wp2_with fail
  refine (great_any a la _).mono ?_
  rintro e w1 ⟨⟨bb, rfl⟩, hb1⟩
  have B1 := Hid.of (B0.out.trans (hb1.mono B0.out.size))
  have KA1 := Hid.of (KA0.out.below hb1 KA0.out.lt)
  have KB1 := Hid.of (KB0.out.below hb1 KB0.out.lt)
  clear hb1 B0 KA0 KB0
  obtain ⟨y0, y1, y2, y3, y4⟩ := mcell_at KB1.out
  cases bb with
  | true =>
    go_wp2_with fail
    go_ret
    exact ⟨rfl, B1.out⟩
  | false =>
    go_wp2_with fail
    refine (great_any b lb _).mono ?_
    rintro e w2 ⟨⟨bb, rfl⟩, hb2⟩
    have B2 := Hid.of (B1.out.trans (hb2.mono B1.out.size))
    have KA2 := Hid.of (KA1.out.below hb2 KA1.out.lt)
    have KB2 := Hid.of (KB1.out.below hb2 KB1.out.lt)
    clear hb2 B1 KA1 KB1 y0 y1 y2 y3 y4
    obtain ⟨x0, x1, x2, x3, x4⟩ := mcell_at KA2.out
    obtain ⟨y0, y1, y2, y3, y4⟩ := mcell_at KB2.out
    cases bb with
    | true =>
      go_wp2_with fail
      go_ret
      exact ⟨rfl, B2.out⟩
    | false =>
      go_wp2_with fail
      refine (pBeside_any a b la lb fa ga fc gc ofA ofB _ (ha.out.below B2.out (Nat.le_refl _)) (hb.out.below B2.out (Nat.le_refl _)) (hA.out.below B2.out (Nat.le_refl _)) lA.out (hB.out.below B2.out (Nat.le_refl _)) lB.out).mono ?_
      intro e w3 h3
      obtain ⟨L, va, vc, rfl, mt3, at3, hb3, ln3⟩ := besAll_out h3
      clear h3
      obtain ⟨M, LL, c, HR⟩ : ∃ M LL c, Hid (besOut a b ofA ofB = (M, LL, c)) := ⟨_, _, _, rfl⟩
      rw [HR.out] at mt3 at3 ln3 ⊢
      dsimp only at mt3 at3 ln3 ⊢
      have LN := Hid.of ln3
      have B3 := Hid.of (B2.out.trans (hb3.mono B2.out.size))
      have b4 : Below w3.heap.size w3 (w3.alloc (.cells (mcells M L) 25)) := (Below.refl _ _).alloc (Nat.le_refl _) _
      have B4 := Hid.of (B3.out.trans (b4.mono B3.out.size))
      have KA4 := Hid.of ((KA2.out.below hb3 KA2.out.lt).below b4 (KA2.out.below hb3 KA2.out.lt).lt)
      have KB4 := Hid.of ((KB2.out.below hb3 KB2.out.lt).below b4 (KB2.out.below hb3 KB2.out.lt).lt)
      have N4 := Hid.of (Blk.new w3 25 (mcells M L))
      have MT4 := Hid.of (mt3.below b4 (Nat.le_refl _))
      have AT4 := Hid.of (at3.below b4 (Nat.le_refl _))
      clear hb3 b4 mt3 at3 ln3 x0 x1 x2 x3 x4 y0 y1 y2 y3 y4 B2 KA2 KB2 B3
      obtain ⟨x0, x1, x2, x3, x4⟩ := mcell_at KA4.out
      obtain ⟨y0, y1, y2, y3, y4⟩ := mcell_at KB4.out
      go_wp2_with fail
      revert B4 KA4 KB4 N4 MT4 AT4
      show Hid (Below w.heap.size w (w3.alloc (.cells #[.int .i64 M.st, .int .i64 M.ev, .slice L.a1 M.starts.length L.c1, .slice L.a2 M.arrows.length L.c2, .slice L.a3 M.ends.length L.c3] 25))) → _
      generalize w3.alloc (.cells #[.int .i64 M.st, .int .i64 M.ev, .slice L.a1 M.starts.length L.c1, .slice L.a2 M.arrows.length L.c2, .slice L.a3 M.ends.length L.c3] 25) = w4
      intro B4 KA4 KB4 N4 MT4 AT4
      refine (beside_any a b la lb fa ga fc gc ofA ofB _ (ha.out.below B4.out (Nat.le_refl _)) (hb.out.below B4.out (Nat.le_refl _)) (hA.out.below B4.out (Nat.le_refl _)) (Nat.le_trans lA.out.1 lA.out.2) (hB.out.below B4.out (Nat.le_refl _)) (Nat.le_trans lB.out.1 lB.out.2)).mono ?_
      intro e w5 h5
      obtain ⟨L', va', vc', rfl, mt5, at5, hb5, -⟩ := besAll_out h5
      clear h5
      rw [HR.out] at mt5 at5 ⊢
      dsimp only at mt5 at5 ⊢
      have B5 := Hid.of (B4.out.trans (hb5.mono B4.out.size))
      have b6 : Below w5.heap.size w5 (w5.alloc (.cells (mcells M L') 25)) := (Below.refl _ _).alloc (Nat.le_refl _) _
      have B6 := Hid.of (B5.out.trans (b6.mono B5.out.size))
      have N6 := Hid.of ((N4.out.below hb5 N4.out.lt).below b6 (N4.out.below hb5 N4.out.lt).lt)
      have P6 := Hid.of (Blk.new w5 25 (mcells M L'))
      have MT6 := Hid.of ((MT4.out.below hb5 (Nat.le_refl _)).below b6 (Nat.le_refl _))
      have MU6 := Hid.of (mt5.below b6 (Nat.le_refl _))
      have AT6 := Hid.of ((AT4.out.below hb5 (Nat.le_refl _)).below b6 (Nat.le_refl _))
      have AU6 := Hid.of (at5.below b6 (Nat.le_refl _))
      clear hb5 b6 mt5 at5 B4 KA4 KB4 N4 MT4 AT4 B5
      try clear x0 x1 x2 x3 x4
      try clear y0 y1 y2 y3 y4
      obtain ⟨x0, x1, x2, x3, x4⟩ := mcell_at N6.out
      obtain ⟨y0, y1, y2, y3, y4⟩ := mcell_at P6.out
      go_wp2_with fail
      revert B6 N6 P6 MT6 MU6 AT6 AU6
      show Hid (Below w.heap.size w (w5.alloc (.cells #[.int .i64 M.st, .int .i64 M.ev, .slice L'.a1 M.starts.length L'.c1, .slice L'.a2 M.arrows.length L'.c2, .slice L'.a3 M.ends.length L'.c3] 25))) → _
      generalize w5.alloc (.cells #[.int .i64 M.st, .int .i64 M.ev, .slice L'.a1 M.starts.length L'.c1, .slice L'.a2 M.arrows.length L'.c2, .slice L'.a3 M.ends.length L'.c3] 25) = w6
      intro B6 N6 P6 MT6 MU6 AT6 AU6
      refine (machines_any M M L L' _ MT6.out MU6.out).mono ?_
      rintro e w7 ⟨rfl, hb7⟩
      rw [sameM_self]
      have B7 := Hid.of (B6.out.trans (hb7.mono B6.out.size))
      have AT7 := Hid.of (AT6.out.below hb7 (Nat.le_refl _))
      have AU7 := Hid.of (AU6.out.below hb7 (Nat.le_refl _))
      clear hb7 B6 N6 P6 MT6 MU6 AT6 AU6
      try clear x0 x1 x2 x3 x4
      try clear y0 y1 y2 y3 y4
      go_wp2_with fail
      refine (rows_any va va' vc vc' LL LL _ AT7.out AU7.out LN.out LN.out).mono ?_
      rintro e w8 ⟨rfl, q, rfl⟩
      rw [sameL_self]
      go_wp2_with fail
      go_ret
      exact ⟨rfl, below_drewN B7.out q⟩

end Go.Proofs.Ytialjbdfkhfcoab
