/-
  The walk of jalousielaw.rows: are two lists of lists one?
  The walk of the law HideMakes.
-/
import Derived.Test.YtcjcjaeaoianfaaDoorG14
import Derived.Test.YtcjcjaeaoianfaaDoorG16
import Derived.Test.YtcjcjaeaoianfaaDoorG28
import Derived.Test.YtcjcjaeaoianfaaDoorG29
namespace Go.Proofs.YtcjcjaeaoianfaaDoor
open Go.RowKit
set_option linter.unusedVariables false

/-- Are two lists of lists one? -/
def sameL : List (List Int) → List (List Int) → Bool
  | [], [] => true
  | x :: r, y :: s => if sameB x y = true then sameL r s else false
  | _, _ => false
theorem sameL_iff : ∀ (p q : List (List Int)), sameL p q = true ↔ p = q
  | [], [] => by simp [sameL]
  | [], _ :: _ => by simp [sameL]
  | _ :: _, [] => by simp [sameL]
  | x :: r, y :: s => by
    unfold sameL
    by_cases h : sameB x y = true
    · rw [if_pos h, sameL_iff r s]
      have : x = y := by simpa [sameB] using h
      simp [this]
    · rw [if_neg h]
      have : ¬ x = y := fun e => h (by simp [sameB, e])
      simp [this]
theorem sameL_len {p q : List (List Int)} (h : ¬ p.length = q.length) : false = sameL p q := by
  cases e : sameL p q with
  | false => rfl
  | true => exact absurd (by rw [(sameL_iff p q).1 e]) h
theorem dropL {p : List (List Int)} {k : Nat} {x : List Int} (h : p[k]? = some x) : p.drop k = x :: p.drop (k + 1) := by
  obtain ⟨h1, h2⟩ := List.getElem?_eq_some_iff.1 h
  rw [List.drop_eq_getElem_cons h1, h2]
theorem sameL_no {k : Nat} {p q : List (List Int)} {x y : List Int} {t : Bool} (hx : Hid (p[k]? = some x)) (hy : Hid (q[k]? = some y)) (e : Hid (t = sameL (p.drop k) (q.drop k))) (hn : Hid (sameB x y = false)) : false = t := by
  rw [e.out, dropL hx.out, dropL hy.out, sameL, if_neg (by rw [hn.out]; simp)]
theorem sameL_yes {k : Nat} {p q : List (List Int)} {x y : List Int} {t : Bool} (hx : Hid (p[k]? = some x)) (hy : Hid (q[k]? = some y)) (e : Hid (t = sameL (p.drop k) (q.drop k))) (hn : Hid (sameB x y = true)) : Hid (t = sameL (p.drop (k + 1)) (q.drop (k + 1))) := by
  show t = _
  rw [e.out, dropL hx.out, dropL hy.out, sameL, if_pos hn.out]
theorem sameL_end {k : Nat} {p q : List (List Int)} {t : Bool} (h : ¬ k < p.length) (hl : p.length = q.length) (e : Hid (t = sameL (p.drop k) (q.drop k))) : true = t := by
  rw [e.out, List.drop_eq_nil_of_le (by omega), List.drop_eq_nil_of_le (by omega)]; rfl

set_option maxHeartbeats 400000 in
theorem rows_ne (a b : Option Addr) (ca cb : Nat) (xs ys : List (List Int)) (w : World) (hne : ¬ xs.length = ys.length) (hl : xs.length ≤ 9223372036854775807) (hm : ys.length ≤ 9223372036854775807) :
    Calls Tryd.prog 35 #[.slice a xs.length ca, .slice b ys.length cb] w fun e w' => e = .returned (.bool (sameL xs ys)) ∧ ∃ q, w' = w.drewN q := by
  have hb : ((xs.length : Int) != (ys.length : Int)) = true := by rw [bne_iff_ne]; omega
  go_enter Tryd.func35, Tryd.ntmps35
  go_wp2
  go_ret
  exact ⟨ret_bool (sameL_len hne), 0, rfl⟩

/-- What a slice of slices has in a place. -/
def CellsL (w : World) (b off : Nat) (LL : List (List Int)) : Prop := ∀ (k : Nat) (xs : List Int), LL[k]? = some xs → ∃ a' c', w.cell? ⟨b, off + k, none⟩ = some (.slice a' xs.length c') ∧ At w a' xs ∧ xs.length ≤ maxLen

set_option maxHeartbeats 2000000 in
theorem rows_eq (ba oa ca bb ob cb : Nat) (xs ys : List (List Int)) (w : World) (hlen : Hid (xs.length = ys.length)) (hl : xs.length ≤ 9223372036854775807) (hca : Hid (CellsL w ba oa xs)) (hcb : Hid (CellsL w bb ob ys)) :
    Calls Tryd.prog 35 #[.slice (some ⟨ba, oa, none⟩) xs.length ca, .slice (some ⟨bb, ob, none⟩) ys.length cb] w fun e w' => e = .returned (.bool (sameL xs ys)) ∧ ∃ q, w' = w.drewN q := by
  have hm : ys.length ≤ 9223372036854775807 := by have := hlen.out; omega
  have hb : ((xs.length : Int) != (ys.length : Int)) = false := by have := hlen.out; simp; omega
  go_enter Tryd.func35, Tryd.ntmps35
  go_wp2
  go_loopw [5] (fun i wr => ∃ k q : Nat, k ≤ xs.length ∧ i = .int .i64 k ∧ wr = w.drewN q ∧ Hid (sameL xs ys = sameL (xs.drop k) (ys.drop k))) (fun i _ => xs.length - (intOf i).toNat)
  case atStart => exact ⟨0, 0, Nat.zero_le _, rfl, rfl, by show _ = _; simp⟩
  case round =>
    obtain ⟨k, q, hk, rfl, rfl, he⟩ := hrel
    by_cases hlt : k < xs.length
    · have hlt2 : k < ys.length := by have := hlen.out; omega
      obtain ⟨x, HX⟩ : ∃ x, Hid (xs[k]? = some x) := ⟨_, List.getElem?_eq_getElem hlt⟩
      obtain ⟨y, HY⟩ : ∃ y, Hid (ys[k]? = some y) := ⟨_, List.getElem?_eq_getElem hlt2⟩
      obtain ⟨xa, xc, cx, ax, lx⟩ := hca.out k x HX.out
      obtain ⟨ya, yc, cy, ay, ly⟩ := hcb.out k y HY.out
      obtain ⟨V, HV⟩ : ∃ V, Hid (V = w.drewN q) := ⟨_, rfl⟩
      replace cx : V.cell? ⟨ba, oa + k, none⟩ = some (.slice xa x.length xc) := by rw [HV.out]; exact cx
      replace cy : V.cell? ⟨bb, ob + k, none⟩ = some (.slice ya y.length yc) := by rw [HV.out]; exact cy
      replace ax : At V xa x := by rw [HV.out]; exact At.drewN ax q
      replace ay : At V ya y := by rw [HV.out]; exact At.drewN ay q
      rw [← HV.out]
      have KEY : Hid (∀ n, Calls Tryd.prog 18 #[.slice xa x.length xc, .slice ya y.length yc] (V.drewN n) fun e w' => e = .returned (.bool (sameB x y)) ∧ ∃ r, w' = (V.drewN n).drewN r) := fun n => same_any xa ya xc yc x y _ (At.drewN ax n) (At.drewN ay n) lx ly
      clear ax ay lx ly
      by_cases hxy : sameB x y = true
      · have HXY : Hid (sameB x y = true) := hxy
        rw [hxy] at KEY
        clear hxy
        go_wp2_with fail
        go_quiet (first | (go_at_call 18; exact Calls.quiet_of (KEY.out _)))
        go_wp2
        go_roundw
        case rel => exact ⟨k + 1, _, by omega, by go_num, by rw [HV.out, World.drewN_drewN], sameL_yes HX HY he HXY⟩
        case measure => simp [intOf]; omega
      · have hxy : sameB x y = false := by simpa using hxy
        have HXY : Hid (sameB x y = false) := hxy
        rw [hxy] at KEY
        clear hxy
        go_wp2_with fail
        go_quiet (first | (go_at_call 18; exact Calls.quiet_of (KEY.out _)))
        go_wp2
        go_ret
        exact ⟨ret_bool (sameL_no HX HY he HXY), _, by rw [HV.out, World.drewN_drewN]⟩
    · go_wp2
      go_ret
      exact ⟨ret_bool (sameL_end hlt hlen.out he), q, rfl⟩

set_option maxHeartbeats 400000 in
theorem rows_nil (a b : Option Addr) (ca cb : Nat) (w : World) :
    Calls Tryd.prog 35 #[.slice a 0 ca, .slice b 0 cb] w fun e w' => e = .returned (.bool true) ∧ ∃ q, w' = w.drewN q := by
  go_enter Tryd.func35, Tryd.ntmps35
  go_wp2
  refine wp_loop_rounds 1 ?_
  rw [rounds_succ]
  go_wp2
  go_ret
  exact ⟨rfl, 0, rfl⟩

theorem rows_any (a b : Option Addr) (ca cb : Nat) (xs ys : List (List Int)) (w : World) (hs : At2 w a xs) (ht : At2 w b ys) (hl : xs.length ≤ maxLen) (hm : ys.length ≤ maxLen) :
    Calls Tryd.prog 35 #[.slice a xs.length ca, .slice b ys.length cb] w fun e w' => e = .returned (.bool (sameL xs ys)) ∧ ∃ q, w' = w.drewN q := by
  by_cases hne : xs.length = ys.length
  · rcases hs with rfl | ⟨ba, oa, rfl, -, hca⟩
    · have : ys = [] := List.eq_nil_of_length_eq_zero (by simpa using hne.symm)
      subst this
      exact rows_nil a b ca cb w
    · rcases ht with rfl | ⟨bb, ob, rfl, -, hcb⟩
      · have : xs = [] := List.eq_nil_of_length_eq_zero (by simpa using hne)
        subst this
        exact rows_nil _ b ca cb w
      · exact rows_eq ba oa ca bb ob cb xs ys w hne hl (Hid.of hca) (Hid.of hcb)
  · exact rows_ne a b ca cb xs ys w hne hl hm

end Go.Proofs.YtcjcjaeaoianfaaDoor
namespace Go.Proofs.YtcjcjaeaoianfaaDoor
open Go.RowKit
set_option linter.unusedVariables false

/-- What Hide answers. -/
def hideOut (m : Mach) (seen : List Int) : Mach × Int := if mayB m = false ∨ rowB m.ev seen = false then (m0, 2) else if (hAll m seen m.st.toNat).length ≤ 4096 then (hideM m seen, 0) else (m0, 1)
theorem hidePost_out {w w' : World} {m : Mach} {seen : List Int} {e : Ending} (h : HidePost w m seen e w') : ∃ L, e = .returned (.tuple #[mval (hideOut m seen).1 L, .int .i64 (hideOut m seen).2]) ∧ MAt w' (hideOut m seen).1 L ∧ Below w.heap.size w w' := by
  unfold HidePost at h
  unfold hideOut
  by_cases h1 : mayB m = false ∨ rowB m.ev seen = false
  · rw [if_pos h1] at h ⊢
    exact ⟨ml0, h.1, mat0 _, h.2⟩
  · rw [if_neg h1] at h ⊢
    by_cases h2 : (hAll m seen m.st.toNat).length ≤ 4096
    · rw [if_pos h2] at h ⊢
      exact h
    · rw [if_neg h2] at h ⊢
      exact ⟨ml0, h.1, mat0 _, h.2⟩

set_option maxRecDepth 100000 in
set_option maxHeartbeats 4000000 in
theorem htells_any (m : Mach) (l : ML) (sa wa : Option Addr) (sc wc : Nat) (seen word : List Int) (w : World) (hT : Hid (Tab w)) (h : Hid (MAt w m l)) (hs : Hid (At w sa seen)) (hsl : Hid (seen.length ≤ 17592186044416)) (hw : Hid (At w wa word)) (hwl : Hid (word.length ≤ 17592186044416)) :
    Calls Tryd.prog 7 #[mval m l, .slice sa seen.length sc, .slice wa word.length wc] w fun e w' => e = .returned (.bool true) ∧ Below w.heap.size w w' := by
  have hsl2 : Hid (seen.length ≤ maxLen) := Nat.le_trans hsl.out (by decide)
  have B0 : Hid (Below w.heap.size w (w.alloc (.cells (mcells m l) 25))) := (Below.refl _ _).alloc (Nat.le_refl _) _
  have K0 : Hid (Blk (w.alloc (.cells (mcells m l) 25)) w.heap.size 25 (mcells m l)) := Blk.new w _ _
  go_enter Tryd.func7, Tryd.ntmps7
  go_wp2_with fail
  revert B0 K0
  generalize w.alloc (.cells (mcells m l) 25) = V0
  intro B0 K0
  refine (pSeen_any wa sa wc sc word seen _ (hw.out.below B0.out (Nat.le_refl _)) hwl.out (hs.out.below B0.out (Nat.le_refl _)) hsl.out).mono ?_
  rintro e w1 ⟨v1, rfl, o1, hb1⟩
  have B1 := Hid.of (B0.out.trans (hb1.mono B0.out.size))
  have K1 := Hid.of (K0.out.below hb1 K0.out.lt)
  obtain ⟨s1, c1, rfl, at1, l1, l2, -⟩ := o1.at2
  have A1 := Hid.of at1
  have LN1 : Hid ((seenL seen word).length ≤ maxLen) := Nat.le_trans l1 l2
  clear hb1 B0 K0 o1 at1 l1 l2
  go_wp2_with fail
  refine (refSeen_any wa sa wc sc word seen _ (hw.out.below B1.out (Nat.le_refl _)) hwl.out (hs.out.below B1.out (Nat.le_refl _)) hsl2.out).mono ?_
  rintro e w2 ⟨s2, c2, rfl, at2, l2, hb2⟩
  have B2 := Hid.of (B1.out.trans (hb2.mono B1.out.size))
  have K2 := Hid.of (K1.out.below hb2 K1.out.lt)
  have A2 := Hid.of at2
  have A1' := Hid.of (A1.out.below hb2 (Nat.le_refl _))
  clear hb2 B1 K1 A1 at2 l2
  go_wp2_with fail
  refine (same_any s1 s2 c1 c2 (seenL seen word) (seenL seen word) _ A1'.out A2.out LN1.out LN1.out).mono ?_
  rintro e w3 ⟨rfl, q, rfl⟩
  rw [sameB_self]
  have B3 := Hid.of (below_drewN B2.out q)
  have K3 : Hid (Blk (w2.drewN q) w.heap.size 25 (mcells m l)) := K2.out
  clear B2 K2 A1' A2 LN1
  revert B3 K3
  generalize w2.drewN q = U
  intro B3 K3
  obtain ⟨x0, x1, x2, x3, x4⟩ := mcell_at K3.out
  go_wp2_with fail
  refine (great_any m l _).mono ?_
  rintro e w4 ⟨⟨bb, rfl⟩, hb4⟩
  have B4 := Hid.of (B3.out.trans (hb4.mono B3.out.size))
  have K4 := Hid.of (K3.out.below hb4 K3.out.lt)
  clear hb4 B3 K3 x0 x1 x2 x3 x4
  obtain ⟨x0, x1, x2, x3, x4⟩ := mcell_at K4.out
  cases bb with
  | true =>
    go_wp2_with fail
    go_ret
    exact ⟨rfl, B4.out⟩
  | false =>
    go_wp2_with fail
    refine (pHide_any m l sa sc seen _ (h.out.below B4.out (Nat.le_refl _)) (hs.out.below B4.out (Nat.le_refl _)) hsl2.out (hT.out.below B4.out hT.out.lt)).mono ?_
    intro e w5 h5
    obtain ⟨L, rfl, mt5, hb5⟩ := hidePost_out h5
    clear h5
    obtain ⟨M, c, HR⟩ : ∃ M c, Hid (hideOut m seen = (M, c)) := ⟨_, _, rfl⟩
    rw [HR.out] at mt5 ⊢
    dsimp only at mt5 ⊢
    have B5 := Hid.of (B4.out.trans (hb5.mono B4.out.size))
    have b6 : Below w5.heap.size w5 (w5.alloc (.cells (mcells M L) 25)) := (Below.refl _ _).alloc (Nat.le_refl _) _
    have B6 := Hid.of (B5.out.trans (b6.mono B5.out.size))
    have K6 := Hid.of ((K4.out.below hb5 K4.out.lt).below b6 (K4.out.below hb5 K4.out.lt).lt)
    have N6 := Hid.of (Blk.new w5 25 (mcells M L))
    have MT6 := Hid.of (mt5.below b6 (Nat.le_refl _))
    clear hb5 b6 mt5 x0 x1 x2 x3 x4 B4 K4 B5
    obtain ⟨x0, x1, x2, x3, x4⟩ := mcell_at K6.out
    go_wp2_with fail
    revert B6 K6 N6 MT6
    show Hid (Below w.heap.size w (w5.alloc (.cells #[.int .i64 M.st, .int .i64 M.ev, .slice L.a1 M.starts.length L.c1, .slice L.a2 M.arrows.length L.c2, .slice L.a3 M.ends.length L.c3] 25))) → _
    generalize w5.alloc (.cells #[.int .i64 M.st, .int .i64 M.ev, .slice L.a1 M.starts.length L.c1, .slice L.a2 M.arrows.length L.c2, .slice L.a3 M.ends.length L.c3] 25) = w6
    intro B6 K6 N6 MT6
    refine (rHide_any m l sa sc seen _ (h.out.below B6.out (Nat.le_refl _)) (hs.out.below B6.out (Nat.le_refl _)) hsl2.out).mono ?_
    intro e w7 h7
    obtain ⟨L', rfl, mt7, hb7⟩ := hidePost_out h7
    clear h7
    rw [HR.out] at mt7 ⊢
    dsimp only at mt7 ⊢
    have B7 := Hid.of (B6.out.trans (hb7.mono B6.out.size))
    have b8 : Below w7.heap.size w7 (w7.alloc (.cells (mcells M L') 25)) := (Below.refl _ _).alloc (Nat.le_refl _) _
    have B8 := Hid.of (B7.out.trans (b8.mono B7.out.size))
    have N8 := Hid.of ((N6.out.below hb7 N6.out.lt).below b8 (N6.out.below hb7 N6.out.lt).lt)
    have P8 := Hid.of (Blk.new w7 25 (mcells M L'))
    have MT8 := Hid.of ((MT6.out.below hb7 (Nat.le_refl _)).below b8 (Nat.le_refl _))
    have MU8 := Hid.of (mt7.below b8 (Nat.le_refl _))
    clear hb7 b8 mt7 B6 K6 N6 MT6 B7
    try clear x0 x1 x2 x3 x4
    obtain ⟨x0, x1, x2, x3, x4⟩ := mcell_at N8.out
    obtain ⟨y0, y1, y2, y3, y4⟩ := mcell_at P8.out
    go_wp2_with fail
    revert B8 N8 P8 MT8 MU8
    show Hid (Below w.heap.size w (w7.alloc (.cells #[.int .i64 M.st, .int .i64 M.ev, .slice L'.a1 M.starts.length L'.c1, .slice L'.a2 M.arrows.length L'.c2, .slice L'.a3 M.ends.length L'.c3] 25))) → _
    generalize w7.alloc (.cells #[.int .i64 M.st, .int .i64 M.ev, .slice L'.a1 M.starts.length L'.c1, .slice L'.a2 M.arrows.length L'.c2, .slice L'.a3 M.ends.length L'.c3] 25) = w8
    intro B8 N8 P8 MT8 MU8
    refine (machines_any M M L L' _ MT8.out MU8.out).mono ?_
    rintro e w9 ⟨rfl, hb9⟩
    rw [sameM_self]
    have B9 := Hid.of (B8.out.trans (hb9.mono B8.out.size))
    clear hb9 B8 N8 P8 MT8 MU8
    try clear x0 x1 x2 x3 x4
    try clear y0 y1 y2 y3 y4
    go_wp2_with fail
    go_ret
    exact ⟨rfl, B9.out⟩

end Go.Proofs.YtcjcjaeaoianfaaDoor
