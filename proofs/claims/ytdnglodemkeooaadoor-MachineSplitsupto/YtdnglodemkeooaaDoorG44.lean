/-
  The walk of jalousiekeep.same.
  The walk of the law MachineSplits, at words of bounded length.
-/
import Derived.Test.YtdnglodemkeooaaDoorG07
import Derived.Test.YtdnglodemkeooaaDoorCPAfter
import Derived.Test.YtdnglodemkeooaaDoorCAppInts
namespace Go.Proofs.YtdnglodemkeooaaDoor
open Go.RowKit
set_option linter.unusedVariables false

set_option maxHeartbeats 400000 in
theorem ksame_ne (a b : Option Addr) (ca cb : Nat) (xs ys : List Int) (w : World) (hne : ¬ xs.length = ys.length) (hl : xs.length ≤ 9223372036854775807) (hm : ys.length ≤ 9223372036854775807) :
    Calls Tryd.prog 24 #[.slice a xs.length ca, .slice b ys.length cb] w fun e w' => e = .returned (.bool (sameB xs ys)) ∧ ∃ q, w' = w.drewN q := by
  have hb : ((xs.length : Int) != (ys.length : Int)) = true := by rw [bne_iff_ne]; omega
  go_enter Tryd.func24, Tryd.ntmps24
  go_wp2
  go_ret
  exact ⟨ret_bool (same_len hne), 0, rfl⟩

set_option maxHeartbeats 1000000 in
theorem ksame_eq (ba oa ca bb ob cb : Nat) (xs ys : List Int) (w : World) (hlen : Hid (xs.length = ys.length)) (hl : xs.length ≤ 9223372036854775807) (hca : Cells w ba oa xs) (hcb : Cells w bb ob ys) :
    Calls Tryd.prog 24 #[.slice (some ⟨ba, oa, none⟩) xs.length ca, .slice (some ⟨bb, ob, none⟩) ys.length cb] w fun e w' => e = .returned (.bool (sameB xs ys)) ∧ ∃ q, w' = w.drewN q := by
  have hm : ys.length ≤ 9223372036854775807 := by have := hlen.out; omega
  have hb : ((xs.length : Int) != (ys.length : Int)) = false := by have := hlen.out; simp; omega
  go_enter Tryd.func24, Tryd.ntmps24
  go_wp2
  go_loopw [5] (fun i wr => ∃ k q : Nat, k ≤ xs.length ∧ i = .int .i64 k ∧ wr = w.drewN q ∧ Hid (xs.take k = ys.take k)) (fun i _ => xs.length - (intOf i).toNat)
  case atStart => exact ⟨0, 0, Nat.zero_le _, rfl, rfl, rfl⟩
  case round =>
    obtain ⟨k, q, hk, rfl, rfl, he⟩ := hrel
    by_cases hlt : k < xs.length
    · have hlt2 : k < ys.length := by have := hlen.out; omega
      obtain ⟨x, HX, hcx⟩ := hca.at hlt
      obtain ⟨y, HY, hcy⟩ := hcb.at hlt2
      by_cases hxy : x = y
      · have HXY : Hid (x = y) := hxy
        have d : (x != y) = false := by simp [hxy]
        clear hxy
        go_wp2
        go_quiet (fail)
        go_wp2
        go_roundw
        case rel => exact ⟨k + 1, _, by omega, by go_num, rfl, same_yes hlt hlt2 HX HY HXY.out he⟩
        case measure => simp [intOf]; omega
      · have d : (x != y) = true := by simp [hxy]
        go_wp2
        go_quiet (fail)
        go_wp2
        go_ret
        exact ⟨ret_bool (same_no HX HY hxy), _, World.drewN_drewN _ _ _⟩
    · go_wp2
      go_ret
      exact ⟨ret_bool (same_end hlen.out hlt he), q, rfl⟩

set_option maxHeartbeats 400000 in
theorem ksame_nil (a b : Option Addr) (ca cb : Nat) (w : World) :
    Calls Tryd.prog 24 #[.slice a 0 ca, .slice b 0 cb] w fun e w' => e = .returned (.bool true) ∧ ∃ q, w' = w.drewN q := by
  go_enter Tryd.func24, Tryd.ntmps24
  go_wp2
  refine wp_loop_rounds 1 ?_
  rw [rounds_succ]
  go_wp2
  go_ret
  exact ⟨rfl, 0, rfl⟩

theorem ksame_any (a b : Option Addr) (ca cb : Nat) (xs ys : List Int) (w : World) (hs : At w a xs) (ht : At w b ys) (hl : xs.length ≤ maxLen) (hm : ys.length ≤ maxLen) :
    Calls Tryd.prog 24 #[.slice a xs.length ca, .slice b ys.length cb] w fun e w' => e = .returned (.bool (sameB xs ys)) ∧ ∃ q, w' = w.drewN q := by
  by_cases hne : xs.length = ys.length
  · rcases hs with rfl | ⟨ba, oa, rfl, -, hca⟩
    · have : ys = [] := List.eq_nil_of_length_eq_zero (by simpa using hne.symm)
      subst this
      exact ksame_nil a b ca cb w
    · rcases ht with rfl | ⟨bb, ob, rfl, -, hcb⟩
      · have : xs = [] := List.eq_nil_of_length_eq_zero (by simpa using hne)
        subst this
        exact ksame_nil _ b ca cb w
      · exact ksame_eq ba oa ca bb ob cb xs ys w hne hl hca hcb
  · exact ksame_ne a b ca cb xs ys w hne hl hm

end Go.Proofs.YtdnglodemkeooaaDoor
namespace Go.Proofs.YtdnglodemkeooaaDoor
open Go.RowKit
set_option linter.unusedVariables false

theorem sameB_refl2 : ∀ xs : List Int, sameB xs xs = true := by intro xs; simp [sameB]

theorem wordB_append (ev : Int) : ∀ a b : List Int, wordB ev (a ++ b) = (wordB ev a && wordB ev b)
  | [], b => by simp [wordB]
  | x :: r, b => by
    have e : ∀ l, wordB ev (x :: l) = if x < 0 ∨ ev ≤ x then false else wordB ev l := fun _ => rfl
    rw [List.cons_append, e, e]
    by_cases h : x < 0 ∨ ev ≤ x
    · rw [if_pos h, if_pos h]; rfl
    · rw [if_neg h, if_neg h]; exact wordB_append ev r b

theorem afterL_append (ars : List Arr) (ss a b : List Int) : afterL ars ss (a ++ b) = afterL ars (afterL ars ss a) b := by
  unfold afterL; rw [List.foldl_append]

theorem row_afterL {m : Mach} (hm : mayB m = true) : ∀ (word : List Int) {ss : List Int}, rowB m.st ss = true → rowB m.st (afterL m.arrows ss word) = true
  | [], _, h => h
  | e :: r, ss, _ => by
    refine row_afterL hm r (ss := stepL m.arrows ss e) ((goIs_iff _ _ _).2 ⟨inc_srt _, fun x hx => ?_⟩)
    obtain ⟨a, ha, -, -, rfl⟩ := (mem_stepL _ _ _ _).1 hx
    have h1 := arrsFrom_in (mayB_arrs hm) a ha
    have h2 := mayB_size hm
    unfold sizeOk at h2
    unfold arrIn at h1
    omega

/-- The machine of one state, and where its slices lie. -/
abbrev m1 : Mach := ⟨1, 0, [], [], []⟩
abbrev l1 : ML := ⟨none, 0, none, 0, none, 0⟩
theorem may1 : mayB m1 = true := by decide
theorem row1 : rowB 1 [0] = true := by decide
theorem mat1 (W : World) : MAt W m1 l1 := ⟨.inl rfl, .inl rfl, .inl rfl, Nat.le_refl _, Nat.zero_le _, fun _ => rfl, Nat.le_refl _, Nat.zero_le _, fun _ => rfl, Nat.le_refl _, Nat.zero_le _, fun _ => rfl⟩

theorem known_any (W : World) (b : Nat) (hs : At W (some ⟨b, 0, none⟩) [0]) (hT : Tab W) :
    Calls Tryd.prog 16 #[.agg #[.int .i64 1, .int .i64 0, .slice none 0 0, .slice none 0 0, .slice none 0 0], .slice (some ⟨b, 0, none⟩) 1 1, .slice none 0 0] W fun e w' => ∃ a cap, e = .returned (.tuple #[.slice a 1 cap, .int .i64 0]) ∧ Below W.heap.size W w' := by
  have h1 : [(0 : Int)].length ≤ maxLen := by unfold maxLen; simp
  have h := pAfter_ok m1 l1 (some ⟨b, 0, none⟩) none 1 0 [0] [] W (mat1 W) (Hid.of hT) (Hid.of may1) (Hid.of hs) (Hid.of h1) (Hid.of row1) (Hid.of (.inl rfl)) (Hid.of (Nat.zero_le _)) (Hid.of rfl)
  refine Calls.mono h ?_
  rintro e w' ⟨a, cap, he, -, -, hb⟩
  exact ⟨a, cap, he, hb⟩

set_option maxRecDepth 100000 in
set_option maxHeartbeats 4000000 in
theorem splits_no (m : Mach) (l : ML) (sa aa ba : Option Addr) (sc ac bc : Nat) (ss us bs : List Int) (w : World) (hT : Hid (Tab w)) (h : Hid (MAt w m l)) (hs : Hid (At w sa ss)) (hsl : Hid (ss.length ≤ maxLen)) (ha : Hid (At w aa us)) (hna : Hid (aa = none → ac = 0)) (hb' : Hid (At w ba bs)) (hnb : Hid (ba = none → bc = 0)) (la : us.length ≤ 1048576) (lb : bs.length ≤ 1048576) (hm : Hid (mayB m = false)) :
    Calls Tryd.prog 4 #[mval m l, .slice sa ss.length sc, .slice aa us.length ac, .slice ba bs.length bc] w fun e w' => e = .returned (.bool true) ∧ Below w.heap.size w w' := by
  obtain ⟨i0, hi, hz0, hz1, hz2⟩ := info_parts Tryd.infoInt
  have B0 : Hid (Below w.heap.size w ((w.alloc (.cells (mcells m l) 25)).alloc (.cells #[.int .i64 0] 3))) := ((Below.refl _ _).alloc (Nat.le_refl _) _).alloc (by simp) _
  have K0 := Hid.of ((Blk.new w 25 (mcells m l)).alloc (.cells #[.int .i64 0] 3))
  have hk : Hid (At ((w.alloc (.cells (mcells m l) 25)).alloc (.cells #[.int .i64 0] 3)) (some ⟨w.heap.size + 1, 0, none⟩) [0]) := by
    refine .inr ⟨w.heap.size + 1, 0, rfl, by simp, fun j hj => ?_⟩
    have hj0 : j = 0 := by simpa using hj
    subst hj0
    have := (Boxed.new (w.alloc (.cells (mcells m l) 25)) 3 (.int .i64 0)).cell
    rw [World.size_alloc] at this
    exact this
  go_enter Tryd.func4, Tryd.ntmps4
  go_wp2_with fail
  refine (known_any _ (w.heap.size + 1) hk.out (hT.out.below B0.out hT.out.lt)).mono ?_
  rintro e w1 ⟨ka, kc, rfl, hb⟩
  clear hk
  have B1 := Hid.of (B0.out.trans (hb.mono B0.out.size))
  have K1 := Hid.of (K0.out.below hb K0.out.lt)
  try clear x0 x1 x2 x3 x4
  obtain ⟨x0, x1, x2, x3, x4⟩ := mcell_of K1.out
  clear hb
  go_wp2_with fail
  refine (pAfter_err m l sa aa sc ac ss us 2 _ rfl (Hid.of (fun W hW => after_form1 m l sa aa sc ac ss us W (h.out.below (B1.out.trans (hW.mono B1.out.size)) (Nat.le_refl _)) hm))).mono ?_
  rintro e w2 ⟨rfl, hb⟩
  have B2 := Hid.of (B1.out.trans (hb.mono B1.out.size))
  have K2 := Hid.of (K1.out.below hb K1.out.lt)
  try clear x0 x1 x2 x3 x4
  obtain ⟨x0, x1, x2, x3, x4⟩ := mcell_of K2.out
  clear hb
  have o0 := own_empty w2
  have b0 : Below w2.heap.size w2 (w2.alloc (.cells #[] 3)) := (Below.refl _ _).alloc (Nat.le_refl _) _
  have at1 : At (w2.alloc (.cells #[] 3)) aa us := (ha.out.below B2.out (Nat.le_refl _)).below b0 (Nat.le_trans (by exact Nat.le_refl _) (Nat.le_refl _))
  go_wp2_with (at_builtin; refine wpList_append_ints _ rfl (.tmp 34) (.tmp 35) 22 rfl w2.heap.size i0 Tryd.underlying22 hi hz0 hz1 hz2 _ [] rfl o0 aa ac us rfl at1 hna.out (by simp only [List.length_nil]; omega) (by simp) ?_)
  intro v1 u1 o1 b1 z1
  have bb1 : Below w2.heap.size w2 u1 := b0.trans b1
  have at2 : At u1 ba bs := (hb'.out.below B2.out (Nat.le_refl _)).below bb1 (Nat.le_refl _)
  clear o0 at1 b1 b0
  go_wp2_with (at_builtin; refine wpList_append_ints _ rfl (.tmp 36) (.tmp 37) 22 rfl w2.heap.size i0 Tryd.underlying22 hi hz0 hz1 hz2 _ us rfl o1 ba bc bs rfl at2 hnb.out (by omega) z1 ?_)
  intro v2 w3 o2 b2 z2
  have hb : Below w2.heap.size w2 w3 := bb1.trans b2
  clear o1 at2 b2 bb1 z1 z2
  obtain ⟨va, vc, rfl, h3, l3⟩ := o2.at
  clear o2
  generalize hz : us ++ bs = zs at *
  have HZ := Hid.of hz
  clear hz
  have HV := Hid.of h3
  have HVL := Hid.of l3
  clear h3 l3
  have B3 := Hid.of (B2.out.trans (hb.mono B2.out.size))
  have K3 := Hid.of (K2.out.below hb K2.out.lt)
  try clear x0 x1 x2 x3 x4
  obtain ⟨x0, x1, x2, x3, x4⟩ := mcell_of K3.out
  clear hb
  go_wp2_with fail
  refine (pAfter_err m l sa va sc vc ss zs 2 _ rfl (Hid.of (fun W hW => after_form1 m l sa va sc vc ss zs W (h.out.below (B3.out.trans (hW.mono B3.out.size)) (Nat.le_refl _)) hm))).mono ?_
  rintro e w4 ⟨rfl, hb⟩
  have B4 := Hid.of (B3.out.trans (hb.mono B3.out.size))
  have K4 := Hid.of (K3.out.below hb K3.out.lt)
  try clear x0 x1 x2 x3 x4
  obtain ⟨x0, x1, x2, x3, x4⟩ := mcell_of K4.out
  clear hb
  go_wp2_with fail
  refine (pMay_any m l _ (h.out.below B4.out (Nat.le_refl _))).mono ?_
  rintro e w5 ⟨rfl, hb⟩
  rw [hm.out]
  have B5 := Hid.of (B4.out.trans (hb.mono B4.out.size))
  have K5 := Hid.of (K4.out.below hb K4.out.lt)
  try clear x0 x1 x2 x3 x4
  obtain ⟨x0, x1, x2, x3, x4⟩ := mcell_of K5.out
  clear hb
  go_wp2
  go_ret
  exact ⟨rfl, B5.out⟩

set_option maxRecDepth 100000 in
set_option maxHeartbeats 4000000 in
theorem splits_row (m : Mach) (l : ML) (sa aa ba : Option Addr) (sc ac bc : Nat) (ss us bs : List Int) (w : World) (hT : Hid (Tab w)) (h : Hid (MAt w m l)) (hs : Hid (At w sa ss)) (hsl : Hid (ss.length ≤ maxLen)) (ha : Hid (At w aa us)) (hna : Hid (aa = none → ac = 0)) (hb' : Hid (At w ba bs)) (hnb : Hid (ba = none → bc = 0)) (la : us.length ≤ 1048576) (lb : bs.length ≤ 1048576) (hm : Hid (mayB m = true)) (hr : Hid (rowB m.st ss = false)) :
    Calls Tryd.prog 4 #[mval m l, .slice sa ss.length sc, .slice aa us.length ac, .slice ba bs.length bc] w fun e w' => e = .returned (.bool true) ∧ Below w.heap.size w w' := by
  obtain ⟨i0, hi, hz0, hz1, hz2⟩ := info_parts Tryd.infoInt
  have B0 : Hid (Below w.heap.size w ((w.alloc (.cells (mcells m l) 25)).alloc (.cells #[.int .i64 0] 3))) := ((Below.refl _ _).alloc (Nat.le_refl _) _).alloc (by simp) _
  have K0 := Hid.of ((Blk.new w 25 (mcells m l)).alloc (.cells #[.int .i64 0] 3))
  have hk : Hid (At ((w.alloc (.cells (mcells m l) 25)).alloc (.cells #[.int .i64 0] 3)) (some ⟨w.heap.size + 1, 0, none⟩) [0]) := by
    refine .inr ⟨w.heap.size + 1, 0, rfl, by simp, fun j hj => ?_⟩
    have hj0 : j = 0 := by simpa using hj
    subst hj0
    have := (Boxed.new (w.alloc (.cells (mcells m l) 25)) 3 (.int .i64 0)).cell
    rw [World.size_alloc] at this
    exact this
  go_enter Tryd.func4, Tryd.ntmps4
  go_wp2_with fail
  refine (known_any _ (w.heap.size + 1) hk.out (hT.out.below B0.out hT.out.lt)).mono ?_
  rintro e w1 ⟨ka, kc, rfl, hb⟩
  clear hk
  have B1 := Hid.of (B0.out.trans (hb.mono B0.out.size))
  have K1 := Hid.of (K0.out.below hb K0.out.lt)
  try clear x0 x1 x2 x3 x4
  obtain ⟨x0, x1, x2, x3, x4⟩ := mcell_of K1.out
  clear hb
  go_wp2_with fail
  refine (pAfter_err m l sa aa sc ac ss us 2 _ rfl (Hid.of (fun W hW => after_form2 m l sa aa sc ac ss us W (h.out.below (B1.out.trans (hW.mono B1.out.size)) (Nat.le_refl _)) hm (Hid.of (hs.out.below (B1.out.trans (hW.mono B1.out.size)) (Nat.le_refl _))) hsl hr))).mono ?_
  rintro e w2 ⟨rfl, hb⟩
  have B2 := Hid.of (B1.out.trans (hb.mono B1.out.size))
  have K2 := Hid.of (K1.out.below hb K1.out.lt)
  try clear x0 x1 x2 x3 x4
  obtain ⟨x0, x1, x2, x3, x4⟩ := mcell_of K2.out
  clear hb
  have o0 := own_empty w2
  have b0 : Below w2.heap.size w2 (w2.alloc (.cells #[] 3)) := (Below.refl _ _).alloc (Nat.le_refl _) _
  have at1 : At (w2.alloc (.cells #[] 3)) aa us := (ha.out.below B2.out (Nat.le_refl _)).below b0 (Nat.le_trans (by exact Nat.le_refl _) (Nat.le_refl _))
  go_wp2_with (at_builtin; refine wpList_append_ints _ rfl (.tmp 34) (.tmp 35) 22 rfl w2.heap.size i0 Tryd.underlying22 hi hz0 hz1 hz2 _ [] rfl o0 aa ac us rfl at1 hna.out (by simp only [List.length_nil]; omega) (by simp) ?_)
  intro v1 u1 o1 b1 z1
  have bb1 : Below w2.heap.size w2 u1 := b0.trans b1
  have at2 : At u1 ba bs := (hb'.out.below B2.out (Nat.le_refl _)).below bb1 (Nat.le_refl _)
  clear o0 at1 b1 b0
  go_wp2_with (at_builtin; refine wpList_append_ints _ rfl (.tmp 36) (.tmp 37) 22 rfl w2.heap.size i0 Tryd.underlying22 hi hz0 hz1 hz2 _ us rfl o1 ba bc bs rfl at2 hnb.out (by omega) z1 ?_)
  intro v2 w3 o2 b2 z2
  have hb : Below w2.heap.size w2 w3 := bb1.trans b2
  clear o1 at2 b2 bb1 z1 z2
  obtain ⟨va, vc, rfl, h3, l3⟩ := o2.at
  clear o2
  generalize hz : us ++ bs = zs at *
  have HZ := Hid.of hz
  clear hz
  have HV := Hid.of h3
  have HVL := Hid.of l3
  clear h3 l3
  have B3 := Hid.of (B2.out.trans (hb.mono B2.out.size))
  have K3 := Hid.of (K2.out.below hb K2.out.lt)
  try clear x0 x1 x2 x3 x4
  obtain ⟨x0, x1, x2, x3, x4⟩ := mcell_of K3.out
  clear hb
  go_wp2_with fail
  refine (pAfter_err m l sa va sc vc ss zs 2 _ rfl (Hid.of (fun W hW => after_form2 m l sa va sc vc ss zs W (h.out.below (B3.out.trans (hW.mono B3.out.size)) (Nat.le_refl _)) hm (Hid.of (hs.out.below (B3.out.trans (hW.mono B3.out.size)) (Nat.le_refl _))) hsl hr))).mono ?_
  rintro e w4 ⟨rfl, hb⟩
  have B4 := Hid.of (B3.out.trans (hb.mono B3.out.size))
  have K4 := Hid.of (K3.out.below hb K3.out.lt)
  try clear x0 x1 x2 x3 x4
  obtain ⟨x0, x1, x2, x3, x4⟩ := mcell_of K4.out
  clear hb
  go_wp2_with fail
  refine (pMay_any m l _ (h.out.below B4.out (Nat.le_refl _))).mono ?_
  rintro e w5 ⟨rfl, hb⟩
  rw [hm.out]
  have B5 := Hid.of (B4.out.trans (hb.mono B4.out.size))
  have K5 := Hid.of (K4.out.below hb K4.out.lt)
  try clear x0 x1 x2 x3 x4
  obtain ⟨x0, x1, x2, x3, x4⟩ := mcell_of K5.out
  clear hb
  go_wp2_with fail
  refine (rowIs_any sa sc ss m.st _ (hs.out.below B5.out (Nat.le_refl _)) hsl.out).mono ?_
  rintro e w6 ⟨rfl, rfl⟩
  rw [hr.out]
  go_wp2
  go_ret
  exact ⟨rfl, B5.out⟩

set_option maxRecDepth 100000 in
set_option maxHeartbeats 4000000 in
theorem splits_a (m : Mach) (l : ML) (sa aa ba : Option Addr) (sc ac bc : Nat) (ss us bs : List Int) (w : World) (hT : Hid (Tab w)) (h : Hid (MAt w m l)) (hs : Hid (At w sa ss)) (hsl : Hid (ss.length ≤ maxLen)) (ha : Hid (At w aa us)) (hna : Hid (aa = none → ac = 0)) (hb' : Hid (At w ba bs)) (hnb : Hid (ba = none → bc = 0)) (la : us.length ≤ 1048576) (lb : bs.length ≤ 1048576) (hm : Hid (mayB m = true)) (hr : Hid (rowB m.st ss = true)) (hwa : Hid (wordB m.ev us = false)) :
    Calls Tryd.prog 4 #[mval m l, .slice sa ss.length sc, .slice aa us.length ac, .slice ba bs.length bc] w fun e w' => e = .returned (.bool true) ∧ Below w.heap.size w w' := by
  obtain ⟨i0, hi, hz0, hz1, hz2⟩ := info_parts Tryd.infoInt
  have B0 : Hid (Below w.heap.size w ((w.alloc (.cells (mcells m l) 25)).alloc (.cells #[.int .i64 0] 3))) := ((Below.refl _ _).alloc (Nat.le_refl _) _).alloc (by simp) _
  have K0 := Hid.of ((Blk.new w 25 (mcells m l)).alloc (.cells #[.int .i64 0] 3))
  have hk : Hid (At ((w.alloc (.cells (mcells m l) 25)).alloc (.cells #[.int .i64 0] 3)) (some ⟨w.heap.size + 1, 0, none⟩) [0]) := by
    refine .inr ⟨w.heap.size + 1, 0, rfl, by simp, fun j hj => ?_⟩
    have hj0 : j = 0 := by simpa using hj
    subst hj0
    have := (Boxed.new (w.alloc (.cells (mcells m l) 25)) 3 (.int .i64 0)).cell
    rw [World.size_alloc] at this
    exact this
  go_enter Tryd.func4, Tryd.ntmps4
  go_wp2_with fail
  refine (known_any _ (w.heap.size + 1) hk.out (hT.out.below B0.out hT.out.lt)).mono ?_
  rintro e w1 ⟨ka, kc, rfl, hb⟩
  clear hk
  have B1 := Hid.of (B0.out.trans (hb.mono B0.out.size))
  have K1 := Hid.of (K0.out.below hb K0.out.lt)
  try clear x0 x1 x2 x3 x4
  obtain ⟨x0, x1, x2, x3, x4⟩ := mcell_of K1.out
  clear hb
  have hwab : Hid (wordB m.ev (us ++ bs) = false) := by show _ = _; rw [wordB_append, hwa.out]; rfl
  have hla : Hid (us.length ≤ maxLen) := by show _ ≤ _; unfold maxLen; omega
  go_wp2_with fail
  refine (pAfter_err m l sa aa sc ac ss us 6 _ rfl (Hid.of (fun W hW => after_range m l sa aa sc ac ss us W (h.out.below (B1.out.trans (hW.mono B1.out.size)) (Nat.le_refl _)) hm (Hid.of (hs.out.below (B1.out.trans (hW.mono B1.out.size)) (Nat.le_refl _))) hsl hr (Hid.of (ha.out.below (B1.out.trans (hW.mono B1.out.size)) (Nat.le_refl _))) hla hwa))).mono ?_
  rintro e w2 ⟨rfl, hb⟩
  have B2 := Hid.of (B1.out.trans (hb.mono B1.out.size))
  have K2 := Hid.of (K1.out.below hb K1.out.lt)
  try clear x0 x1 x2 x3 x4
  obtain ⟨x0, x1, x2, x3, x4⟩ := mcell_of K2.out
  clear hb
  have o0 := own_empty w2
  have b0 : Below w2.heap.size w2 (w2.alloc (.cells #[] 3)) := (Below.refl _ _).alloc (Nat.le_refl _) _
  have at1 : At (w2.alloc (.cells #[] 3)) aa us := (ha.out.below B2.out (Nat.le_refl _)).below b0 (Nat.le_trans (by exact Nat.le_refl _) (Nat.le_refl _))
  go_wp2_with (at_builtin; refine wpList_append_ints _ rfl (.tmp 34) (.tmp 35) 22 rfl w2.heap.size i0 Tryd.underlying22 hi hz0 hz1 hz2 _ [] rfl o0 aa ac us rfl at1 hna.out (by simp only [List.length_nil]; omega) (by simp) ?_)
  intro v1 u1 o1 b1 z1
  have bb1 : Below w2.heap.size w2 u1 := b0.trans b1
  have at2 : At u1 ba bs := (hb'.out.below B2.out (Nat.le_refl _)).below bb1 (Nat.le_refl _)
  clear o0 at1 b1 b0
  go_wp2_with (at_builtin; refine wpList_append_ints _ rfl (.tmp 36) (.tmp 37) 22 rfl w2.heap.size i0 Tryd.underlying22 hi hz0 hz1 hz2 _ us rfl o1 ba bc bs rfl at2 hnb.out (by omega) z1 ?_)
  intro v2 w3 o2 b2 z2
  have hb : Below w2.heap.size w2 w3 := bb1.trans b2
  clear o1 at2 b2 bb1 z1 z2
  obtain ⟨va, vc, rfl, h3, l3⟩ := o2.at
  clear o2
  generalize hz : us ++ bs = zs at *
  have HZ := Hid.of hz
  clear hz
  have HV := Hid.of h3
  have HVL := Hid.of l3
  clear h3 l3
  have B3 := Hid.of (B2.out.trans (hb.mono B2.out.size))
  have K3 := Hid.of (K2.out.below hb K2.out.lt)
  try clear x0 x1 x2 x3 x4
  obtain ⟨x0, x1, x2, x3, x4⟩ := mcell_of K3.out
  clear hb
  go_wp2_with fail
  refine (pAfter_err m l sa va sc vc ss zs 6 _ rfl (Hid.of (fun W hW => after_range m l sa va sc vc ss zs W (h.out.below (B3.out.trans (hW.mono B3.out.size)) (Nat.le_refl _)) hm (Hid.of (hs.out.below (B3.out.trans (hW.mono B3.out.size)) (Nat.le_refl _))) hsl hr (Hid.of (HV.out.below hW (Nat.le_refl _))) HVL hwab))).mono ?_
  rintro e w4 ⟨rfl, hb⟩
  have B4 := Hid.of (B3.out.trans (hb.mono B3.out.size))
  have K4 := Hid.of (K3.out.below hb K3.out.lt)
  try clear x0 x1 x2 x3 x4
  obtain ⟨x0, x1, x2, x3, x4⟩ := mcell_of K4.out
  clear hb
  go_wp2_with fail
  refine (pMay_any m l _ (h.out.below B4.out (Nat.le_refl _))).mono ?_
  rintro e w5 ⟨rfl, hb⟩
  rw [hm.out]
  have B5 := Hid.of (B4.out.trans (hb.mono B4.out.size))
  have K5 := Hid.of (K4.out.below hb K4.out.lt)
  try clear x0 x1 x2 x3 x4
  obtain ⟨x0, x1, x2, x3, x4⟩ := mcell_of K5.out
  clear hb
  go_wp2
  go_ret
  exact ⟨rfl, B5.out⟩

set_option maxRecDepth 100000 in
set_option maxHeartbeats 4000000 in
theorem splits_b (m : Mach) (l : ML) (sa aa ba : Option Addr) (sc ac bc : Nat) (ss us bs : List Int) (w : World) (hT : Hid (Tab w)) (h : Hid (MAt w m l)) (hs : Hid (At w sa ss)) (hsl : Hid (ss.length ≤ maxLen)) (ha : Hid (At w aa us)) (hna : Hid (aa = none → ac = 0)) (hb' : Hid (At w ba bs)) (hnb : Hid (ba = none → bc = 0)) (la : us.length ≤ 1048576) (lb : bs.length ≤ 1048576) (hm : Hid (mayB m = true)) (hr : Hid (rowB m.st ss = true)) (hwa : Hid (wordB m.ev us = true)) (hwb : Hid (wordB m.ev bs = false)) :
    Calls Tryd.prog 4 #[mval m l, .slice sa ss.length sc, .slice aa us.length ac, .slice ba bs.length bc] w fun e w' => e = .returned (.bool true) ∧ Below w.heap.size w w' := by
  obtain ⟨i0, hi, hz0, hz1, hz2⟩ := info_parts Tryd.infoInt
  have B0 : Hid (Below w.heap.size w ((w.alloc (.cells (mcells m l) 25)).alloc (.cells #[.int .i64 0] 3))) := ((Below.refl _ _).alloc (Nat.le_refl _) _).alloc (by simp) _
  have K0 := Hid.of ((Blk.new w 25 (mcells m l)).alloc (.cells #[.int .i64 0] 3))
  have hk : Hid (At ((w.alloc (.cells (mcells m l) 25)).alloc (.cells #[.int .i64 0] 3)) (some ⟨w.heap.size + 1, 0, none⟩) [0]) := by
    refine .inr ⟨w.heap.size + 1, 0, rfl, by simp, fun j hj => ?_⟩
    have hj0 : j = 0 := by simpa using hj
    subst hj0
    have := (Boxed.new (w.alloc (.cells (mcells m l) 25)) 3 (.int .i64 0)).cell
    rw [World.size_alloc] at this
    exact this
  go_enter Tryd.func4, Tryd.ntmps4
  go_wp2_with fail
  refine (known_any _ (w.heap.size + 1) hk.out (hT.out.below B0.out hT.out.lt)).mono ?_
  rintro e w1 ⟨ka, kc, rfl, hb⟩
  clear hk
  have B1 := Hid.of (B0.out.trans (hb.mono B0.out.size))
  have K1 := Hid.of (K0.out.below hb K0.out.lt)
  try clear x0 x1 x2 x3 x4
  obtain ⟨x0, x1, x2, x3, x4⟩ := mcell_of K1.out
  clear hb
  have hla : Hid (us.length ≤ maxLen) := by show _ ≤ _; unfold maxLen; omega
  have hlb : Hid (bs.length ≤ maxLen) := by show _ ≤ _; unfold maxLen; omega
  have hr1 := Hid.of (row_afterL hm.out us hr.out)
  have hwab : Hid (wordB m.ev (us ++ bs) = false) := by show _ = _; rw [wordB_append, hwa.out, hwb.out]; rfl
  go_wp2_with fail
  refine (pAfter_ok m l sa aa sc ac ss us _ (h.out.below B1.out (Nat.le_refl _)) (Hid.of (hT.out.below B1.out hT.out.lt)) hm (Hid.of (hs.out.below B1.out (Nat.le_refl _))) hsl hr (Hid.of (ha.out.below B1.out (Nat.le_refl _))) hla hwa).mono ?_
  rintro e w2 ⟨ya, yc, rfl, hat, hll, hb⟩
  have B2 := Hid.of (B1.out.trans (hb.mono B1.out.size))
  have K2 := Hid.of (K1.out.below hb K1.out.lt)
  have Hy := Hid.of hat
  have HyN := Hid.of hll
  clear hat hll
  try clear x0 x1 x2 x3 x4
  obtain ⟨x0, x1, x2, x3, x4⟩ := mcell_of K2.out
  clear hb
  have o0 := own_empty w2
  have b0 : Below w2.heap.size w2 (w2.alloc (.cells #[] 3)) := (Below.refl _ _).alloc (Nat.le_refl _) _
  have at1 : At (w2.alloc (.cells #[] 3)) aa us := (ha.out.below B2.out (Nat.le_refl _)).below b0 (Nat.le_trans (by exact Nat.le_refl _) (Nat.le_refl _))
  go_wp2_with (at_builtin; refine wpList_append_ints _ rfl (.tmp 34) (.tmp 35) 22 rfl w2.heap.size i0 Tryd.underlying22 hi hz0 hz1 hz2 _ [] rfl o0 aa ac us rfl at1 hna.out (by simp only [List.length_nil]; omega) (by simp) ?_)
  intro v1 u1 o1 b1 z1
  have bb1 : Below w2.heap.size w2 u1 := b0.trans b1
  have at2 : At u1 ba bs := (hb'.out.below B2.out (Nat.le_refl _)).below bb1 (Nat.le_refl _)
  clear o0 at1 b1 b0
  go_wp2_with (at_builtin; refine wpList_append_ints _ rfl (.tmp 36) (.tmp 37) 22 rfl w2.heap.size i0 Tryd.underlying22 hi hz0 hz1 hz2 _ us rfl o1 ba bc bs rfl at2 hnb.out (by omega) z1 ?_)
  intro v2 w3 o2 b2 z2
  have hb : Below w2.heap.size w2 w3 := bb1.trans b2
  clear o1 at2 b2 bb1 z1 z2
  obtain ⟨va, vc, rfl, h3, l3⟩ := o2.at
  clear o2
  generalize hz : us ++ bs = zs at *
  have HZ := Hid.of hz
  clear hz
  have HV := Hid.of h3
  have HVL := Hid.of l3
  clear h3 l3
  have B3 := Hid.of (B2.out.trans (hb.mono B2.out.size))
  have K3 := Hid.of (K2.out.below hb K2.out.lt)
  have Hy := Hid.of (Hy.out.below hb (Nat.le_refl _))
  try clear x0 x1 x2 x3 x4
  obtain ⟨x0, x1, x2, x3, x4⟩ := mcell_of K3.out
  clear hb
  go_wp2_with fail
  refine (pAfter_err m l sa va sc vc ss zs 6 _ rfl (Hid.of (fun W hW => after_range m l sa va sc vc ss zs W (h.out.below (B3.out.trans (hW.mono B3.out.size)) (Nat.le_refl _)) hm (Hid.of (hs.out.below (B3.out.trans (hW.mono B3.out.size)) (Nat.le_refl _))) hsl hr (Hid.of (HV.out.below hW (Nat.le_refl _))) HVL hwab))).mono ?_
  rintro e w4 ⟨rfl, hb⟩
  have B4 := Hid.of (B3.out.trans (hb.mono B3.out.size))
  have K4 := Hid.of (K3.out.below hb K3.out.lt)
  have Hy := Hid.of (Hy.out.below hb (Nat.le_refl _))
  try clear x0 x1 x2 x3 x4
  obtain ⟨x0, x1, x2, x3, x4⟩ := mcell_of K4.out
  clear hb
  go_wp2_with fail
  refine (pAfter_err m l ya ba yc bc (afterL m.arrows ss us) bs 6 _ rfl (Hid.of (fun W hW => after_range m l ya ba yc bc (afterL m.arrows ss us) bs W (h.out.below (B4.out.trans (hW.mono B4.out.size)) (Nat.le_refl _)) hm (Hid.of (Hy.out.below hW (Nat.le_refl _))) HyN hr1 (Hid.of (hb'.out.below (B4.out.trans (hW.mono B4.out.size)) (Nat.le_refl _))) hlb hwb))).mono ?_
  rintro e w5 ⟨rfl, hb⟩
  have B5 := Hid.of (B4.out.trans (hb.mono B4.out.size))
  have K5 := Hid.of (K4.out.below hb K4.out.lt)
  try clear x0 x1 x2 x3 x4
  obtain ⟨x0, x1, x2, x3, x4⟩ := mcell_of K5.out
  clear hb
  go_wp2_with fail
  refine (ksame_any none none 0 0 [] [] _ (.inl rfl) (.inl rfl) (Nat.zero_le _) (Nat.zero_le _)).mono ?_
  rintro e w6 ⟨rfl, q6, rfl⟩
  rw [sameB_refl2]
  have B6 := Hid.of (below_drewN B5.out q6)
  go_wp2
  go_ret
  exact ⟨rfl, B6.out⟩

set_option maxRecDepth 100000 in
set_option maxHeartbeats 4000000 in
theorem splits_ok (m : Mach) (l : ML) (sa aa ba : Option Addr) (sc ac bc : Nat) (ss us bs : List Int) (w : World) (hT : Hid (Tab w)) (h : Hid (MAt w m l)) (hs : Hid (At w sa ss)) (hsl : Hid (ss.length ≤ maxLen)) (ha : Hid (At w aa us)) (hna : Hid (aa = none → ac = 0)) (hb' : Hid (At w ba bs)) (hnb : Hid (ba = none → bc = 0)) (la : us.length ≤ 1048576) (lb : bs.length ≤ 1048576) (hm : Hid (mayB m = true)) (hr : Hid (rowB m.st ss = true)) (hwa : Hid (wordB m.ev us = true)) (hwb : Hid (wordB m.ev bs = true)) :
    Calls Tryd.prog 4 #[mval m l, .slice sa ss.length sc, .slice aa us.length ac, .slice ba bs.length bc] w fun e w' => e = .returned (.bool true) ∧ Below w.heap.size w w' := by
  obtain ⟨i0, hi, hz0, hz1, hz2⟩ := info_parts Tryd.infoInt
  have B0 : Hid (Below w.heap.size w ((w.alloc (.cells (mcells m l) 25)).alloc (.cells #[.int .i64 0] 3))) := ((Below.refl _ _).alloc (Nat.le_refl _) _).alloc (by simp) _
  have K0 := Hid.of ((Blk.new w 25 (mcells m l)).alloc (.cells #[.int .i64 0] 3))
  have hk : Hid (At ((w.alloc (.cells (mcells m l) 25)).alloc (.cells #[.int .i64 0] 3)) (some ⟨w.heap.size + 1, 0, none⟩) [0]) := by
    refine .inr ⟨w.heap.size + 1, 0, rfl, by simp, fun j hj => ?_⟩
    have hj0 : j = 0 := by simpa using hj
    subst hj0
    have := (Boxed.new (w.alloc (.cells (mcells m l) 25)) 3 (.int .i64 0)).cell
    rw [World.size_alloc] at this
    exact this
  go_enter Tryd.func4, Tryd.ntmps4
  go_wp2_with fail
  refine (known_any _ (w.heap.size + 1) hk.out (hT.out.below B0.out hT.out.lt)).mono ?_
  rintro e w1 ⟨ka, kc, rfl, hb⟩
  clear hk
  have B1 := Hid.of (B0.out.trans (hb.mono B0.out.size))
  have K1 := Hid.of (K0.out.below hb K0.out.lt)
  try clear x0 x1 x2 x3 x4
  obtain ⟨x0, x1, x2, x3, x4⟩ := mcell_of K1.out
  clear hb
  have hla : Hid (us.length ≤ maxLen) := by show _ ≤ _; unfold maxLen; omega
  have hlb : Hid (bs.length ≤ maxLen) := by show _ ≤ _; unfold maxLen; omega
  have hr1 := Hid.of (row_afterL hm.out us hr.out)
  have hwab : Hid (wordB m.ev (us ++ bs) = true) := by show _ = _; rw [wordB_append, hwa.out, hwb.out]; rfl
  go_wp2_with fail
  refine (pAfter_ok m l sa aa sc ac ss us _ (h.out.below B1.out (Nat.le_refl _)) (Hid.of (hT.out.below B1.out hT.out.lt)) hm (Hid.of (hs.out.below B1.out (Nat.le_refl _))) hsl hr (Hid.of (ha.out.below B1.out (Nat.le_refl _))) hla hwa).mono ?_
  rintro e w2 ⟨ya, yc, rfl, hat, hll, hb⟩
  have B2 := Hid.of (B1.out.trans (hb.mono B1.out.size))
  have K2 := Hid.of (K1.out.below hb K1.out.lt)
  have Hy := Hid.of hat
  have HyN := Hid.of hll
  clear hat hll
  try clear x0 x1 x2 x3 x4
  obtain ⟨x0, x1, x2, x3, x4⟩ := mcell_of K2.out
  clear hb
  have o0 := own_empty w2
  have b0 : Below w2.heap.size w2 (w2.alloc (.cells #[] 3)) := (Below.refl _ _).alloc (Nat.le_refl _) _
  have at1 : At (w2.alloc (.cells #[] 3)) aa us := (ha.out.below B2.out (Nat.le_refl _)).below b0 (Nat.le_trans (by exact Nat.le_refl _) (Nat.le_refl _))
  go_wp2_with (at_builtin; refine wpList_append_ints _ rfl (.tmp 34) (.tmp 35) 22 rfl w2.heap.size i0 Tryd.underlying22 hi hz0 hz1 hz2 _ [] rfl o0 aa ac us rfl at1 hna.out (by simp only [List.length_nil]; omega) (by simp) ?_)
  intro v1 u1 o1 b1 z1
  have bb1 : Below w2.heap.size w2 u1 := b0.trans b1
  have at2 : At u1 ba bs := (hb'.out.below B2.out (Nat.le_refl _)).below bb1 (Nat.le_refl _)
  clear o0 at1 b1 b0
  go_wp2_with (at_builtin; refine wpList_append_ints _ rfl (.tmp 36) (.tmp 37) 22 rfl w2.heap.size i0 Tryd.underlying22 hi hz0 hz1 hz2 _ us rfl o1 ba bc bs rfl at2 hnb.out (by omega) z1 ?_)
  intro v2 w3 o2 b2 z2
  have hb : Below w2.heap.size w2 w3 := bb1.trans b2
  clear o1 at2 b2 bb1 z1 z2
  obtain ⟨va, vc, rfl, h3, l3⟩ := o2.at
  clear o2
  generalize hz : us ++ bs = zs at *
  have HZ := Hid.of hz
  clear hz
  have HV := Hid.of h3
  have HVL := Hid.of l3
  clear h3 l3
  have B3 := Hid.of (B2.out.trans (hb.mono B2.out.size))
  have K3 := Hid.of (K2.out.below hb K2.out.lt)
  have Hy := Hid.of (Hy.out.below hb (Nat.le_refl _))
  try clear x0 x1 x2 x3 x4
  obtain ⟨x0, x1, x2, x3, x4⟩ := mcell_of K3.out
  clear hb
  go_wp2_with fail
  refine (pAfter_ok m l sa va sc vc ss zs _ (h.out.below B3.out (Nat.le_refl _)) (Hid.of (hT.out.below B3.out hT.out.lt)) hm (Hid.of (hs.out.below B3.out (Nat.le_refl _))) hsl hr HV HVL hwab).mono ?_
  rintro e w4 ⟨xa, xc, rfl, hat, hll, hb⟩
  have B4 := Hid.of (B3.out.trans (hb.mono B3.out.size))
  have K4 := Hid.of (K3.out.below hb K3.out.lt)
  have Hx := Hid.of hat
  have HxN := Hid.of hll
  clear hat hll
  have Hy := Hid.of (Hy.out.below hb (Nat.le_refl _))
  try clear x0 x1 x2 x3 x4
  obtain ⟨x0, x1, x2, x3, x4⟩ := mcell_of K4.out
  clear hb
  go_wp2_with fail
  refine (pAfter_ok m l ya ba yc bc (afterL m.arrows ss us) bs _ (h.out.below B4.out (Nat.le_refl _)) (Hid.of (hT.out.below B4.out hT.out.lt)) hm Hy HyN hr1 (Hid.of (hb'.out.below B4.out (Nat.le_refl _))) hlb hwb).mono ?_
  rintro e w5 ⟨za, zc, rfl, hat, hll, hb⟩
  have B5 := Hid.of (B4.out.trans (hb.mono B4.out.size))
  have K5 := Hid.of (K4.out.below hb K4.out.lt)
  have Hz := Hid.of hat
  have HzN := Hid.of hll
  clear hat hll
  have Hx := Hid.of (Hx.out.below hb (Nat.le_refl _))
  try clear x0 x1 x2 x3 x4
  obtain ⟨x0, x1, x2, x3, x4⟩ := mcell_of K5.out
  clear hb
  have HE : Hid (afterL m.arrows ss zs = afterL m.arrows (afterL m.arrows ss us) bs) := by show _ = _; rw [← HZ.out]; exact afterL_append _ _ _ _
  go_wp2_with fail
  refine (ksame_any xa za xc zc _ _ _ Hx.out Hz.out HxN.out HzN.out).mono ?_
  rintro e w6 ⟨rfl, q6, rfl⟩
  rw [HE.out, sameB_refl2]
  have B6 := Hid.of (below_drewN B5.out q6)
  go_wp2
  go_ret
  exact ⟨rfl, B6.out⟩

theorem splits_any (m : Mach) (l : ML) (sa aa ba : Option Addr) (sc ac bc : Nat) (ss us bs : List Int) (w : World) (hT : Hid (Tab w)) (h : Hid (MAt w m l)) (hs : Hid (At w sa ss)) (hsl : Hid (ss.length ≤ maxLen)) (ha : Hid (At w aa us)) (hna : Hid (aa = none → ac = 0)) (hb' : Hid (At w ba bs)) (hnb : Hid (ba = none → bc = 0)) (la : us.length ≤ 1048576) (lb : bs.length ≤ 1048576) :
    Calls Tryd.prog 4 #[mval m l, .slice sa ss.length sc, .slice aa us.length ac, .slice ba bs.length bc] w fun e w' => e = .returned (.bool true) ∧ Below w.heap.size w w' := by
  cases hm : mayB m with
  | false => exact splits_no m l sa aa ba sc ac bc ss us bs w hT h hs hsl ha hna hb' hnb la lb hm
  | true =>
    cases hr : rowB m.st ss with
    | false => exact splits_row m l sa aa ba sc ac bc ss us bs w hT h hs hsl ha hna hb' hnb la lb hm hr
    | true =>
      cases hwa : wordB m.ev us with
      | false => exact splits_a m l sa aa ba sc ac bc ss us bs w hT h hs hsl ha hna hb' hnb la lb hm hr hwa
      | true =>
        cases hwb : wordB m.ev bs with
        | false => exact splits_b m l sa aa ba sc ac bc ss us bs w hT h hs hsl ha hna hb' hnb la lb hm hr hwa hwb
        | true => exact splits_ok m l sa aa ba sc ac bc ss us bs w hT h hs hsl ha hna hb' hnb la lb hm hr hwa hwb

end Go.Proofs.YtdnglodemkeooaaDoor
