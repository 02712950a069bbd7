/-
  The walk of jalousiekeep.same.
  The walk of machine.Accepts.
  The walks of machine.After and machine.Accepts.
  machine.Accepts and machine.After, of what may be and any word.
  The walk of the law DetermineSame.
-/
import Derived.Test.YtbdkaobbfmgnhaaDoorH09
import Derived.Test.YtbdkaobbfmgnhaaDoorDAfterOk
import Derived.Test.YtbdkaobbfmgnhaaDoorH13
import Derived.Test.YtbdkaobbfmgnhaaDoorH19
import Derived.Test.YtbdkaobbfmgnhaaDoorH18
namespace Go.Proofs.YtbdkaobbfmgnhaaDoor
open Go.RowKit
set_option linter.unusedVariables false

set_option maxHeartbeats 400000 in
theorem ksame_ne (a b : Option Addr) (ca cb : Nat) (xs ys : List Int) (w : World) (hne : ¬ xs.length = ys.length) (hl : xs.length ≤ 9223372036854775807) (hm : ys.length ≤ 9223372036854775807) :
    Calls Tryd.prog 38 #[.slice a xs.length ca, .slice b ys.length cb] w fun e w' => e = .returned (.bool (sameB xs ys)) ∧ ∃ q, w' = w.drewN q := by
  have hb : ((xs.length : Int) != (ys.length : Int)) = true := by rw [bne_iff_ne]; omega
  go_enter Tryd.func38, Tryd.ntmps38
  go_wp2
  go_ret
  exact ⟨ret_bool (same_len hne), 0, rfl⟩

set_option maxHeartbeats 1000000 in
theorem ksame_eq (ba oa ca bb ob cb : Nat) (xs ys : List Int) (w : World) (hlen : Hid (xs.length = ys.length)) (hl : xs.length ≤ 9223372036854775807) (hca : Cells w ba oa xs) (hcb : Cells w bb ob ys) :
    Calls Tryd.prog 38 #[.slice (some ⟨ba, oa, none⟩) xs.length ca, .slice (some ⟨bb, ob, none⟩) ys.length cb] w fun e w' => e = .returned (.bool (sameB xs ys)) ∧ ∃ q, w' = w.drewN q := by
  have hm : ys.length ≤ 9223372036854775807 := by have := hlen.out; omega
  have hb : ((xs.length : Int) != (ys.length : Int)) = false := by have := hlen.out; simp; omega
  go_enter Tryd.func38, Tryd.ntmps38
  go_wp2
  go_loopw [5] (fun i wr => ∃ k q : Nat, k ≤ xs.length ∧ i = .int .i64 k ∧ wr = w.drewN q ∧ Hid (xs.take k = ys.take k)) (fun i _ => xs.length - (intOf i).toNat)
  case atStart => exact ⟨0, 0, Nat.zero_le _, rfl, rfl, rfl⟩
  case round =>
    obtain ⟨k, q, hk, rfl, rfl, he⟩ := hrel
    by_cases hlt : k < xs.length
    · have hlt2 : k < ys.length := by have := hlen.out; omega
      obtain ⟨x, HX, hcx⟩ := hca.at hlt
      obtain ⟨y, HY, hcy⟩ := hcb.at hlt2
      by_cases hxy : x = y
      · have HXY : Hid (x = y) := hxy
        have d : (x != y) = false := by simp [hxy]
        clear hxy
        go_wp2
        go_quiet (fail)
        go_wp2
        go_roundw
        case rel => exact ⟨k + 1, _, by omega, by go_num, rfl, same_yes hlt hlt2 HX HY HXY.out he⟩
        case measure => simp [intOf]; omega
      · have d : (x != y) = true := by simp [hxy]
        go_wp2
        go_quiet (fail)
        go_wp2
        go_ret
        exact ⟨ret_bool (same_no HX HY hxy), _, World.drewN_drewN _ _ _⟩
    · go_wp2
      go_ret
      exact ⟨ret_bool (same_end hlen.out hlt he), q, rfl⟩

set_option maxHeartbeats 400000 in
theorem ksame_nil (a b : Option Addr) (ca cb : Nat) (w : World) :
    Calls Tryd.prog 38 #[.slice a 0 ca, .slice b 0 cb] w fun e w' => e = .returned (.bool true) ∧ ∃ q, w' = w.drewN q := by
  go_enter Tryd.func38, Tryd.ntmps38
  go_wp2
  refine wp_loop_rounds 1 ?_
  rw [rounds_succ]
  go_wp2
  go_ret
  exact ⟨rfl, 0, rfl⟩

theorem ksame_any (a b : Option Addr) (ca cb : Nat) (xs ys : List Int) (w : World) (hs : At w a xs) (ht : At w b ys) (hl : xs.length ≤ maxLen) (hm : ys.length ≤ maxLen) :
    Calls Tryd.prog 38 #[.slice a xs.length ca, .slice b ys.length cb] w fun e w' => e = .returned (.bool (sameB xs ys)) ∧ ∃ q, w' = w.drewN q := by
  by_cases hne : xs.length = ys.length
  · rcases hs with rfl | ⟨ba, oa, rfl, -, hca⟩
    · have : ys = [] := List.eq_nil_of_length_eq_zero (by simpa using hne.symm)
      subst this
      exact ksame_nil a b ca cb w
    · rcases ht with rfl | ⟨bb, ob, rfl, -, hcb⟩
      · have : xs = [] := List.eq_nil_of_length_eq_zero (by simpa using hne)
        subst this
        exact ksame_nil _ b ca cb w
      · exact ksame_eq ba oa ca bb ob cb xs ys w hne hl hca hcb
  · exact ksame_ne a b ca cb xs ys w hne hl hm

end Go.Proofs.YtbdkaobbfmgnhaaDoor
namespace Go.Proofs.YtbdkaobbfmgnhaaDoor
open Go.RowKit
set_option linter.unusedVariables false

set_option maxRecDepth 100000 in
set_option maxHeartbeats 4000000 in
theorem pAccepts_err (m : Mach) (l : ML) (wa : Option Addr) (wc : Nat) (word : List Int) (c : Int) (w : World) (hc : (c == 0) = false)
    (H : Hid (∀ W, Below w.heap.size w W → Calls Tryd.prog 49 #[mval m l, .slice l.a1 m.starts.length l.c1, .slice wa word.length wc] W fun e w' => e = .returned (.tuple #[sval zeroS, .int .i64 c]) ∧ Below W.heap.size W w')) :
    Calls Tryd.prog 18 #[mval m l, .slice wa word.length wc] w fun e w' => e = .returned (.tuple #[.bool false, .int .i64 c]) ∧ Below w.heap.size w w' := by
  have B0 : Hid (Below w.heap.size w (w.alloc (.cells (mcells m l) 25))) := (Below.refl _ _).alloc (Nat.le_refl _) _
  have hc' : (c != 0) = true := by simp only [bne, hc]; rfl
  have hc2 : ¬ c = 0 := by simpa using hc
  go_enter Tryd.func18, Tryd.ntmps18
  go_wp2_with fail
  refine (H.out _ B0.out).mono ?_
  rintro e w1 ⟨rfl, hb1⟩
  have HB := Hid.of (B0.out.trans (hb1.mono B0.out.size))
  clear hb1
  go_wp2
  refine bodyPost_ret (results_tmp2 rfl _ _ _) rfl ?_
  exact ⟨rfl, HB.out.alloc HB.out.size _⟩

set_option maxRecDepth 100000 in
set_option maxHeartbeats 4000000 in
theorem pAccepts_ok (m : Mach) (l : ML) (wa : Option Addr) (wc : Nat) (word : List Int) (w : World) (h : MAt w m l) (hT : Hid (Tab w)) (hm : Hid (mayB m = true)) (hv : Hid (At w wa word)) (hwl : Hid (word.length ≤ maxLen)) (hwd : Hid (wordB m.ev word = true)) :
    Calls Tryd.prog 18 #[mval m l, .slice wa word.length wc] w fun e w' => e = .returned (.tuple #[.bool (acceptsB m word), .int .i64 0]) ∧ Below w.heap.size w w' := by
  have b0 : Below w.heap.size w (w.alloc (.cells (mcells m l) 25)) := (Below.refl _ _).alloc (Nat.le_refl _) _
  have h' := h.below b0 (Nat.le_refl _)
  have l1 : m.starts.length ≤ maxLen := Nat.le_trans h.s1 h.s2
  have l3 : Hid (m.ends.length ≤ maxLen) := Nat.le_trans h.e1 h.e2
  have hcall := Hid.of (after_ok m l l.a1 wa l.c1 wc m.starts word _ h' (Hid.of (hT.out.below b0 hT.out.lt)) hm (Hid.of h'.s) (Hid.of l1) (Hid.of (mayB_starts hm.out)) (Hid.of (hv.out.below b0 (Nat.le_refl _))) hwl hwd)
  have B0 := Hid.of b0
  have HM := Hid.of h
  have K1 := Hid.of (Blk.new w 25 (mcells m l))
  clear b0 h h' l1
  go_enter Tryd.func18, Tryd.ntmps18
  go_wp2_with fail
  refine hcall.out.mono ?_
  rintro e w1 ⟨S, hS, rfl, hb1⟩
  have HB := Hid.of (B0.out.trans (hb1.mono B0.out.size))
  have HS := Hid.of hS
  have k2 := (K1.out.below hb1 K1.out.lt).alloc (.cells (scells S) 62)
  have k3 := Blk.new w1 62 (scells S)
  have KM := Hid.of k2
  have KS := Hid.of k3
  have HB2 : Hid (Below w.heap.size w (w1.alloc (.cells (scells S) 62))) := HB.out.alloc HB.out.size _
  clear hb1 hS hcall k2 k3
  go_wp2_with fail
  revert KM KS HB2
  generalize w1.alloc (.cells (scells S) 62) = V
  intro KM KS HB2
  obtain ⟨c0, c1, c2, c3⟩ := SB.cells KS.out
  have e4 : V.cell? ⟨w.heap.size, 4, none⟩ = some (.slice l.a3 m.ends.length l.c3) := KM.out.cell 4 rfl
  have hle := Hid.of (HM.out.below HB2.out.drew (Nat.le_refl _)).e
  have hbd : Hid (∀ x ∈ m.ends, 0 ≤ x ∧ x < 256) := fun x hx => by
    have h1 := ((goIs_iff _ _ _).1 (mayB_ends hm.out)).2 x hx
    have h2 := mayB_size hm.out
    unfold sizeOk at h2
    omega
  have hE : Hid (Rep (ofS m.ends) m.ends) := by
    have := rep_of hbd.out m.ends.length
    rwa [List.take_of_length_le (Nat.le_refl _)] at this
  go_region_held3 (fun w' => w'.cell? ⟨w1.heap.size, 0, none⟩ = some (.int .u64 (S 0)) ∧ w'.cell? ⟨w1.heap.size, 1, none⟩ = some (.int .u64 (S 1)) ∧ w'.cell? ⟨w1.heap.size, 2, none⟩ = some (.int .u64 (S 2)) ∧ w'.cell? ⟨w1.heap.size, 3, none⟩ = some (.int .u64 (S 3)) ∧ w'.cell? ⟨w.heap.size, 4, none⟩ = some (.slice l.a3 m.ends.length l.c3)) (go_keep) (first | (go_at_call 52; refine (of_any l.a3 l.c3 m.ends _ hle.out l3.out hbd.out).mono ?_; rintro e wO ⟨rfl, hbO⟩; have HBO := Hid.of (HB2.out.drew.trans (hbO.mono HB2.out.size)); have KSO := Hid.of (Blk.below (Blk.drew KS.out) hbO KS.out.lt); have KMO := Hid.of (Blk.below (Blk.drew KM.out) hbO KM.out.lt); obtain ⟨d0, d1, d2, d3⟩ := SB.cells KSO.out; have d4 : wO.cell? ⟨w.heap.size, 4, none⟩ = some (.slice l.a3 m.ends.length l.c3) := KMO.out.cell 4 rfl; clear hbO) | (go_at_call 51; refine (meets_any S (ofS m.ends) _ HS.out.ok hE.out.ok).mono ?_; rintro e wM ⟨rfl, hbM⟩; have HBM := Hid.of (HBO.out.trans (hbM.mono HBO.out.size)); obtain ⟨g0, g1, g2, g3⟩ := SB.cells (Blk.below KSO.out hbM KSO.out.lt); have g4 : wM.cell? ⟨w.heap.size, 4, none⟩ = some (.slice l.a3 m.ends.length l.c3) := (Blk.below KMO.out hbM KMO.out.lt).cell 4 rfl; clear hbM))
  have HF : Hid (meetB S (ofS m.ends) = acceptsB m word) := meet_iff HS.out hE.out
  go_wp2
  refine bodyPost_ret (results_tmp2 rfl _ _ _) rfl ?_
  exact ⟨by rw [← HF.out]; rfl, HBM.out⟩

end Go.Proofs.YtbdkaobbfmgnhaaDoor
namespace Go.Proofs.YtbdkaobbfmgnhaaDoor
open Go.RowKit
set_option linter.unusedVariables false

theorem inc_afterL {ars : List Arr} : ∀ (word : List Int) {ss : List Int}, Inc ss → Inc (afterL ars ss word)
  | [], _, h => h
  | e :: r, ss, _ => inc_afterL r (show Inc (stepL ars ss e) from inc_srt _)

/-- What machine.After leaves where nothing is wrong. -/
def AftGives (w : World) (L : List Int) (e : Ending) (w' : World) : Prop := ∃ a cap, e = .returned (.tuple #[.slice a L.length cap, .int .i64 0]) ∧ At w' a L ∧ L.length ≤ maxLen ∧ Below w.heap.size w w'

set_option maxRecDepth 100000 in
set_option maxHeartbeats 4000000 in
theorem pAfter_err (m : Mach) (l : ML) (sa wa : Option Addr) (sc wc : Nat) (ss word : List Int) (c : Int) (w : World) (hc : (c == 0) = false)
    (H : Hid (∀ W, Below w.heap.size w W → Calls Tryd.prog 49 #[mval m l, .slice sa ss.length sc, .slice wa word.length wc] W fun e w' => e = .returned (.tuple #[sval zeroS, .int .i64 c]) ∧ Below W.heap.size W w')) :
    Calls Tryd.prog 17 #[mval m l, .slice sa ss.length sc, .slice wa word.length wc] w fun e w' => e = .returned (.tuple #[.slice none 0 0, .int .i64 c]) ∧ Below w.heap.size w w' := by
  have B0 : Hid (Below w.heap.size w (w.alloc (.cells (mcells m l) 25))) := (Below.refl _ _).alloc (Nat.le_refl _) _
  have hc' : (c != 0) = true := by simp only [bne, hc]; rfl
  have hc2 : ¬ c = 0 := by simpa using hc
  go_enter Tryd.func17, Tryd.ntmps17
  go_wp2_with fail
  refine (H.out _ B0.out).mono ?_
  rintro e w1 ⟨rfl, hb1⟩
  have HB := Hid.of (B0.out.trans (hb1.mono B0.out.size))
  clear hb1
  go_wp2
  refine bodyPost_ret (results_tmp2 rfl _ _ _) rfl ?_
  exact ⟨rfl, HB.out.alloc HB.out.size _⟩

set_option maxRecDepth 100000 in
set_option maxHeartbeats 4000000 in
theorem pAfter_ok (m : Mach) (l : ML) (sa wa : Option Addr) (sc wc : Nat) (ss word : List Int) (w : World) (h : MAt w m l) (hT : Hid (Tab w)) (hm : Hid (mayB m = true)) (hs : Hid (At w sa ss)) (hl : Hid (ss.length ≤ maxLen)) (hr : Hid (rowB m.st ss = true)) (hv : Hid (At w wa word)) (hwl : Hid (word.length ≤ maxLen)) (hwd : Hid (wordB m.ev word = true)) :
    Calls Tryd.prog 17 #[mval m l, .slice sa ss.length sc, .slice wa word.length wc] w fun e w' => AftGives w (afterL m.arrows ss word) e w' := by
  have b0 : Below w.heap.size w (w.alloc (.cells (mcells m l) 25)) := (Below.refl _ _).alloc (Nat.le_refl _) _
  have hcall := Hid.of (after_ok m l sa wa sc wc ss word _ (h.below b0 (Nat.le_refl _)) (Hid.of (hT.out.below b0 hT.out.lt)) hm (Hid.of (hs.out.below b0 (Nat.le_refl _))) hl hr (Hid.of (hv.out.below b0 (Nat.le_refl _))) hwl hwd)
  have B0 := Hid.of b0
  clear b0 h
  go_enter Tryd.func17, Tryd.ntmps17
  go_wp2_with fail
  refine hcall.out.mono ?_
  rintro e w1 ⟨S, hS, rfl, hb1⟩
  have HB := Hid.of (B0.out.trans (hb1.mono B0.out.size))
  have HS := Hid.of hS
  have HB2 : Hid (Below w.heap.size w (w1.alloc (.cells (scells S) 62))) := HB.out.alloc HB.out.size _
  have hrow := Hid.of (row_any S (w1.alloc (.cells (scells S) 62)) hS.ok (hT.out.below HB2.out hT.out.lt))
  clear hb1 hS hcall
  go_wp2_with fail
  refine hrow.out.mono ?_
  rintro e w2 ⟨a, cap, rfl, hat, hlen, hb2⟩
  have HE : Hid (rowS S = afterL m.arrows ss word) := rep_row HS.out (inc_afterL word (rowB_inc hr.out))
  rw [HE.out] at hat hlen ⊢
  have HAT := Hid.of hat
  have HLN := Hid.of hlen
  have HB3 := Hid.of (HB2.out.trans (hb2.mono HB2.out.size))
  clear hat hlen hb2
  go_wp2
  refine bodyPost_ret (results_tmp2 rfl _ _ _) rfl ?_
  exact ⟨a, cap, rfl, HAT.out, HLN.out, HB3.out⟩

end Go.Proofs.YtbdkaobbfmgnhaaDoor
namespace Go.Proofs.YtbdkaobbfmgnhaaDoor
open Go.RowKit
set_option linter.unusedVariables false

theorem accepts_yes (m : Mach) (l : ML) (wa : Option Addr) (wc : Nat) (word : List Int) (w : World) (h : MAt w m l) (hT : Tab w) (hm : mayB m = true) (hv : At w wa word) (hwl : word.length ≤ maxLen) (hw : wordB m.ev word = true) :
    Calls Tryd.prog 18 #[mval m l, .slice wa word.length wc] w fun e w' => e = .returned (.tuple #[.bool (acceptsB m word), .int .i64 0]) ∧ Below w.heap.size w w' := pAccepts_ok m l wa wc word w h hT hm hv hwl hw
theorem accepts_no (m : Mach) (l : ML) (wa : Option Addr) (wc : Nat) (word : List Int) (w : World) (h : MAt w m l) (hm : mayB m = true) (hv : At w wa word) (hwl : word.length ≤ maxLen) (hw : wordB m.ev word = false) :
    Calls Tryd.prog 18 #[mval m l, .slice wa word.length wc] w fun e w' => e = .returned (.tuple #[.bool false, .int .i64 6]) ∧ Below w.heap.size w w' := pAccepts_err m l wa wc word 6 w rfl (fun W hW => after_range m l l.a1 wa l.c1 wc m.starts word W (h.below hW (Nat.le_refl _)) hm (h.below hW (Nat.le_refl _)).s (Nat.le_trans h.s1 h.s2) (mayB_starts hm) (hv.below hW (Nat.le_refl _)) hwl hw)
theorem after_no (m : Mach) (l : ML) (sa wa : Option Addr) (sc wc : Nat) (ss word : List Int) (w : World) (h : MAt w m l) (hm : mayB m = true) (hs : At w sa ss) (hl : ss.length ≤ maxLen) (hr : rowB m.st ss = true) (hv : At w wa word) (hwl : word.length ≤ maxLen) (hw : wordB m.ev word = false) :
    Calls Tryd.prog 17 #[mval m l, .slice sa ss.length sc, .slice wa word.length wc] w fun e w' => e = .returned (.tuple #[.slice none 0 0, .int .i64 6]) ∧ Below w.heap.size w w' :=
  pAfter_err m l sa wa sc wc ss word 6 w rfl (fun W hW => after_range m l sa wa sc wc ss word W (h.below hW (Nat.le_refl _)) hm (hs.below hW (Nat.le_refl _)) hl hr (hv.below hW (Nat.le_refl _)) hwl hw)

end Go.Proofs.YtbdkaobbfmgnhaaDoor
namespace Go.Proofs.YtbdkaobbfmgnhaaDoor
open Go.RowKit
set_option linter.unusedVariables false

set_option maxRecDepth 100000 in
set_option maxHeartbeats 4000000 in
theorem dsame_err (m : Mach) (l : ML) (wa : Option Addr) (wc : Nat) (word : List Int) (w : World) (hT : Hid (Tab w)) (h : Hid (MAt w m l)) (c : Int) (hc : c = 1 ∨ c = 2) (hd : Hid (detOut m = (m0, [], c))) :
    Calls Tryd.prog 8 #[mval m l, .slice wa word.length wc] w fun e w' => e = .returned (.bool true) ∧ Below w.heap.size w w' := by
  have hc0 : (c != 0) = true := by rw [bne_iff_ne]; omega
  clear hc
  have B0 : Hid (Below w.heap.size w (w.alloc (.cells (mcells m l) 25))) := (Below.refl _ _).alloc (Nat.le_refl _) _
  go_enter Tryd.func8, Tryd.ntmps8
  go_wp2_with fail
  revert B0
  generalize w.alloc (.cells (mcells m l) 25) = V0
  intro B0
  refine (dMake_any m l _ (h.out.below B0.out (Nat.le_refl _)) (hT.out.below B0.out hT.out.lt)).mono ?_
  intro e w1 hp
  unfold MakePost at hp
  rw [hd.out] at hp
  obtain ⟨L, va, vc, rfl, -, -, -, hb1⟩ := hp
  have B1 := Hid.of (B0.out.trans (hb1.mono B0.out.size))
  have B2 := Hid.of (B1.out.alloc B1.out.size (.cells (mcells m0 L) 25))
  clear hb1 B0
  go_wp2
  go_ret
  exact ⟨rfl, B2.out⟩

set_option maxRecDepth 100000 in
set_option maxHeartbeats 8000000 in
theorem dsame_yes (m : Mach) (l : ML) (wa : Option Addr) (wc : Nat) (word : List Int) (w : World) (hT : Hid (Tab w)) (h : Hid (MAt w m l)) (hw : Hid (At w wa word)) (hwl : Hid (word.length ≤ maxLen)) (hm : Hid (mayB m = true)) (s : DS) (hd : Hid (detS m = some s)) (hwd : Hid (wordB m.ev word = true)) :
    Calls Tryd.prog 8 #[mval m l, .slice wa word.length wc] w fun e w' => e = .returned (.bool true) ∧ Below w.heap.size w w' := by
  have HDO := Hid.of (detOut_some hm.out hd.out)
  have HMD := Hid.of (may_det hm.out hd.out)
  have HDD := Hid.of (det_det hm.out hd.out)
  have H256 := Hid.of (detS_di hm.out hd.out).2
  have HEV : Hid ((detM m s).ev = m.ev) := rfl
  have HACC := Hid.of (det_accepts hm.out hd.out hwd.out)
  obtain ⟨t, ht1, ht2⟩ := det_after hm.out hd.out word hwd.out (detS_di hm.out hd.out).1.hd
  have HT1 : Hid (afterL (detM m s).arrows (detM m s).starts word = [(t : Int)]) := ht1
  have HT2 := Hid.of ht2
  clear ht1 ht2
  have HST : Hid ((((s.sets.length : Nat) : Int) != (detM m s).st) = false) := by
    show ((s.sets.length : Int) != (s.sets.length : Int)) = false
    simp
  have B0 : Hid (Below w.heap.size w (w.alloc (.cells (mcells m l) 25))) := (Below.refl _ _).alloc (Nat.le_refl _) _
  have K0 : Hid (Blk (w.alloc (.cells (mcells m l) 25)) w.heap.size 25 (mcells m l)) := Blk.new w _ _
  go_enter Tryd.func8, Tryd.ntmps8
  go_wp2_with fail
  revert B0 K0
  generalize w.alloc (.cells (mcells m l) 25) = V0
  intro B0 K0
  refine (dMake_any m l _ (h.out.below B0.out (Nat.le_refl _)) (hT.out.below B0.out hT.out.lt)).mono ?_
  intro e w1 hp
  unfold MakePost at hp
  rw [HDO.out] at hp
  dsimp only at hp
  obtain ⟨L, va, vc, rfl, mt1, at1, -, hb1⟩ := hp
  obtain ⟨M, HM⟩ : ∃ M, Hid (M = detM m s) := ⟨_, rfl⟩
  rw [← HM.out] at mt1 HMD HDD HEV HACC HT1 HST ⊢
  have B1 := Hid.of (B0.out.trans (hb1.mono B0.out.size))
  have b2 : Below w1.heap.size w1 (w1.alloc (.cells (mcells M L) 25)) := (Below.refl _ _).alloc (Nat.le_refl _) _
  have B2 := Hid.of (B1.out.trans (b2.mono B1.out.size))
  have K2 := Hid.of ((K0.out.below hb1 K0.out.lt).below b2 (K0.out.below hb1 K0.out.lt).lt)
  have N2 := Hid.of (Blk.new w1 25 (mcells M L))
  have MT2 := Hid.of (mt1.below b2 (Nat.le_refl _))
  have AT2 := Hid.of (at1.below b2 (Nat.le_refl _))
  clear hb1 b2 mt1 at1 B0 K0 B1
  have hst := HST.out
  go_wp2_with fail
  revert B2 K2 N2 MT2 AT2
  show Hid (Below w.heap.size w (w1.alloc (.cells #[.int .i64 M.st, .int .i64 M.ev, .slice L.a1 M.starts.length L.c1, .slice L.a2 M.arrows.length L.c2, .slice L.a3 M.ends.length L.c3] 25))) → _
  generalize w1.alloc (.cells #[.int .i64 M.st, .int .i64 M.ev, .slice L.a1 M.starts.length L.c1, .slice L.a2 M.arrows.length L.c2, .slice L.a3 M.ends.length L.c3] 25) = w2
  intro B2 K2 N2 MT2 AT2
  obtain ⟨bd, hbd⟩ : ∃ bd, Hid (bd = w1.heap.size) := ⟨_, rfl⟩
  rw [← hbd.out] at N2 ⊢
  refine (detIs_any M L _ MT2).mono ?_
  rintro e w3 ⟨rfl, hb3⟩
  rw [HDD.out]
  have B3 := Hid.of (B2.out.trans (hb3.mono B2.out.size))
  have K3 := Hid.of (K2.out.below hb3 K2.out.lt)
  have N3 := Hid.of (N2.out.below hb3 N2.out.lt)
  have MT3 := Hid.of (MT2.out.below hb3 (Nat.le_refl _))
  have AT3 := Hid.of (AT2.out.below hb3 (Nat.le_refl _))
  clear hb3 B2 K2 N2 MT2 AT2
  obtain ⟨x0, x1, x2, x3, x4⟩ := mcell_at K3.out
  obtain ⟨y0, y1, y2, y3, y4⟩ := mcell_at N3.out
  go_wp2_with fail
  clear hst
  refine (accepts_yes m l wa wc word _ (h.out.below B3.out (Nat.le_refl _)) (hT.out.below B3.out hT.out.lt) hm.out (hw.out.below B3.out (Nat.le_refl _)) hwl.out hwd.out).mono ?_
  rintro e w4 ⟨rfl, hb4⟩
  have B4 := Hid.of (B3.out.trans (hb4.mono B3.out.size))
  have K4 := Hid.of (K3.out.below hb4 K3.out.lt)
  have N4 := Hid.of (N3.out.below hb4 N3.out.lt)
  have MT4 := Hid.of (MT3.out.below hb4 (Nat.le_refl _))
  have AT4 := Hid.of (AT3.out.below hb4 (Nat.le_refl _))
  clear hb4 B3 K3 N3 MT3 AT3 y0 y1 y2 y3 y4 x0 x1 x2 x3 x4
  obtain ⟨y0, y1, y2, y3, y4⟩ := mcell_at N4.out
  go_wp2_with fail
  refine (accepts_yes M L wa wc word _ MT4.out (hT.out.below B4.out hT.out.lt) HMD.out (hw.out.below B4.out (Nat.le_refl _)) hwl.out (by rw [HEV.out]; exact hwd.out)).mono ?_
  rintro e w5 ⟨rfl, hb5⟩
  have B5 := Hid.of (B4.out.trans (hb5.mono B4.out.size))
  have K5 := Hid.of (K4.out.below hb5 K4.out.lt)
  have N5 := Hid.of (N4.out.below hb5 N4.out.lt)
  have MT5 := Hid.of (MT4.out.below hb5 (Nat.le_refl _))
  have AT5 := Hid.of (AT4.out.below hb5 (Nat.le_refl _))
  clear hb5 B4 K4 N4 MT4 AT4 y0 y1 y2 y3 y4
  obtain ⟨y0, y1, y2, y3, y4⟩ := mcell_at N5.out
  go_wp2_with fail
  refine (pAfter_ok M L L.a1 wa L.c1 wc M.starts word _ MT5.out (Hid.of (hT.out.below B5.out hT.out.lt)) HMD (Hid.of MT5.out.s) (Hid.of (Nat.le_trans MT5.out.s1 MT5.out.s2)) (Hid.of (mayB_starts HMD.out)) (Hid.of (hw.out.below B5.out (Nat.le_refl _))) hwl (Hid.of (by rw [HEV.out]; exact hwd.out))).mono ?_
  rintro e w6 ⟨ta, tc, rfl, at6, ln6, hb6⟩
  have B6 := Hid.of (B5.out.trans (hb6.mono B5.out.size))
  have K6 := Hid.of (K5.out.below hb6 K5.out.lt)
  have AT6 := Hid.of (AT5.out.below hb6 (Nat.le_refl _))
  rw [HT1.out] at at6
  rw [HT1.out, HACC.out]
  have TO6 := Hid.of at6
  clear hb6 B5 K5 N5 MT5 AT5 at6 ln6 y0 y1 y2 y3 y4
  have htl : t < s.sets.length := (List.getElem?_eq_some_iff.1 HT2.out).1
  have htI : (t : Int) < (s.sets.length : Int) := by omega
  have ht0 : (0 : Int) ≤ (t : Int) := by omega
  obtain ⟨tb, to, hta, htb, htc⟩ : ∃ b off, ta = some ⟨b, off, none⟩ ∧ b < w6.heap.size ∧ Cells w6 b off [(t : Int)] := by
    rcases TO6.out with h0 | h0
    · cases h0
    · exact h0
  subst hta
  have c0 : w6.cell? ⟨tb, to, none⟩ = some (.int .i64 t) := htc 0 (by simp)
  have HTB := Hid.of htb
  clear htc htb
  obtain ⟨x0, x1, x2, x3, x4⟩ := mcell_at K6.out
  go_wp2_with fail
  refine (pAfter_ok m l l.a1 wa l.c1 wc m.starts word _ (h.out.below B6.out (Nat.le_refl _)) (Hid.of (hT.out.below B6.out hT.out.lt)) hm (Hid.of (h.out.below B6.out (Nat.le_refl _)).s) (Hid.of (Nat.le_trans h.out.s1 h.out.s2)) (Hid.of (mayB_starts hm.out)) (Hid.of (hw.out.below B6.out (Nat.le_refl _))) hwl hwd).mono ?_
  rintro e w7 ⟨xa, xc, rfl, at7, ln7, hb7⟩
  have B7 := Hid.of (B6.out.trans (hb7.mono B6.out.size))
  have AT7 := Hid.of (AT6.out.below hb7 (Nat.le_refl _))
  have c7 := (hb7.cell (p := ⟨tb, to, none⟩) HTB.out).trans c0
  have A7 := Hid.of at7
  have LN7 := Hid.of ln7
  clear hb7 B6 K6 AT6 TO6 c0 at7 ln7 x0 x1 x2 x3 x4
  obtain ⟨lb, lo, hva, hlb, hlc⟩ : ∃ b off, va = some ⟨b, off, none⟩ ∧ b < w7.heap.size ∧ CellsL w7 b off s.sets := by
    rcases AT7.out with h0 | h0
    · rw [h0] at htl; simp at htl
    · exact h0
  subst hva
  obtain ⟨ya, yc, cy, ay, ly⟩ := hlc t _ HT2.out
  have AY := Hid.of ay
  clear hlc hlb ay
  obtain ⟨X, HX⟩ : ∃ X, Hid (X = afterL m.arrows m.starts word) := ⟨_, rfl⟩
  rw [← HX.out] at cy AY ly A7 LN7 ⊢
  go_wp2_with fail
  refine (ksame_any ya xa yc xc X X _ AY.out A7.out ly LN7.out).mono ?_
  rintro e w8 ⟨rfl, q, rfl⟩
  rw [sameB_self]
  go_wp2
  go_ret
  exact ⟨rfl, below_drewN B7.out q⟩

set_option maxRecDepth 100000 in
set_option maxHeartbeats 8000000 in
theorem dsame_no (m : Mach) (l : ML) (wa : Option Addr) (wc : Nat) (word : List Int) (w : World) (hT : Hid (Tab w)) (h : Hid (MAt w m l)) (hw : Hid (At w wa word)) (hwl : Hid (word.length ≤ maxLen)) (hm : Hid (mayB m = true)) (s : DS) (hd : Hid (detS m = some s)) (hwd : Hid (wordB m.ev word = false)) :
    Calls Tryd.prog 8 #[mval m l, .slice wa word.length wc] w fun e w' => e = .returned (.bool true) ∧ Below w.heap.size w w' := by
  have HDO := Hid.of (detOut_some hm.out hd.out)
  have HMD := Hid.of (may_det hm.out hd.out)
  have HDD := Hid.of (det_det hm.out hd.out)
  have H256 := Hid.of (detS_di hm.out hd.out).2
  have HEV : Hid ((detM m s).ev = m.ev) := rfl
  have HST : Hid ((((s.sets.length : Nat) : Int) != (detM m s).st) = false) := by
    show ((s.sets.length : Int) != (s.sets.length : Int)) = false
    simp
  have B0 : Hid (Below w.heap.size w (w.alloc (.cells (mcells m l) 25))) := (Below.refl _ _).alloc (Nat.le_refl _) _
  have K0 : Hid (Blk (w.alloc (.cells (mcells m l) 25)) w.heap.size 25 (mcells m l)) := Blk.new w _ _
  go_enter Tryd.func8, Tryd.ntmps8
  go_wp2_with fail
  revert B0 K0
  generalize w.alloc (.cells (mcells m l) 25) = V0
  intro B0 K0
  refine (dMake_any m l _ (h.out.below B0.out (Nat.le_refl _)) (hT.out.below B0.out hT.out.lt)).mono ?_
  intro e w1 hp
  unfold MakePost at hp
  rw [HDO.out] at hp
  dsimp only at hp
  obtain ⟨L, va, vc, rfl, mt1, at1, -, hb1⟩ := hp
  obtain ⟨M, HM⟩ : ∃ M, Hid (M = detM m s) := ⟨_, rfl⟩
  rw [← HM.out] at mt1 HMD HDD HEV HST ⊢
  have B1 := Hid.of (B0.out.trans (hb1.mono B0.out.size))
  have b2 : Below w1.heap.size w1 (w1.alloc (.cells (mcells M L) 25)) := (Below.refl _ _).alloc (Nat.le_refl _) _
  have B2 := Hid.of (B1.out.trans (b2.mono B1.out.size))
  have K2 := Hid.of ((K0.out.below hb1 K0.out.lt).below b2 (K0.out.below hb1 K0.out.lt).lt)
  have N2 := Hid.of (Blk.new w1 25 (mcells M L))
  have MT2 := Hid.of (mt1.below b2 (Nat.le_refl _))
  have AT2 := Hid.of (at1.below b2 (Nat.le_refl _))
  clear hb1 b2 mt1 at1 B0 K0 B1
  have hst := HST.out
  go_wp2_with fail
  revert B2 K2 N2 MT2 AT2
  show Hid (Below w.heap.size w (w1.alloc (.cells #[.int .i64 M.st, .int .i64 M.ev, .slice L.a1 M.starts.length L.c1, .slice L.a2 M.arrows.length L.c2, .slice L.a3 M.ends.length L.c3] 25))) → _
  generalize w1.alloc (.cells #[.int .i64 M.st, .int .i64 M.ev, .slice L.a1 M.starts.length L.c1, .slice L.a2 M.arrows.length L.c2, .slice L.a3 M.ends.length L.c3] 25) = w2
  intro B2 K2 N2 MT2 AT2
  obtain ⟨bd, hbd⟩ : ∃ bd, Hid (bd = w1.heap.size) := ⟨_, rfl⟩
  rw [← hbd.out] at N2 ⊢
  refine (detIs_any M L _ MT2).mono ?_
  rintro e w3 ⟨rfl, hb3⟩
  rw [HDD.out]
  have B3 := Hid.of (B2.out.trans (hb3.mono B2.out.size))
  have K3 := Hid.of (K2.out.below hb3 K2.out.lt)
  have N3 := Hid.of (N2.out.below hb3 N2.out.lt)
  have MT3 := Hid.of (MT2.out.below hb3 (Nat.le_refl _))
  have AT3 := Hid.of (AT2.out.below hb3 (Nat.le_refl _))
  clear hb3 B2 K2 N2 MT2 AT2
  obtain ⟨x0, x1, x2, x3, x4⟩ := mcell_at K3.out
  obtain ⟨y0, y1, y2, y3, y4⟩ := mcell_at N3.out
  go_wp2_with fail
  clear hst
  refine (accepts_no m l wa wc word _ (h.out.below B3.out (Nat.le_refl _)) hm.out (hw.out.below B3.out (Nat.le_refl _)) hwl.out hwd.out).mono ?_
  rintro e w4 ⟨rfl, hb4⟩
  have B4 := Hid.of (B3.out.trans (hb4.mono B3.out.size))
  have K4 := Hid.of (K3.out.below hb4 K3.out.lt)
  have N4 := Hid.of (N3.out.below hb4 N3.out.lt)
  have MT4 := Hid.of (MT3.out.below hb4 (Nat.le_refl _))
  have AT4 := Hid.of (AT3.out.below hb4 (Nat.le_refl _))
  clear hb4 B3 K3 N3 MT3 AT3 y0 y1 y2 y3 y4 x0 x1 x2 x3 x4
  obtain ⟨y0, y1, y2, y3, y4⟩ := mcell_at N4.out
  go_wp2_with fail
  refine (accepts_no M L wa wc word _ MT4.out HMD.out (hw.out.below B4.out (Nat.le_refl _)) hwl.out (by rw [HEV.out]; exact hwd.out)).mono ?_
  rintro e w5 ⟨rfl, hb5⟩
  have B5 := Hid.of (B4.out.trans (hb5.mono B4.out.size))
  have K5 := Hid.of (K4.out.below hb5 K4.out.lt)
  have N5 := Hid.of (N4.out.below hb5 N4.out.lt)
  have MT5 := Hid.of (MT4.out.below hb5 (Nat.le_refl _))
  have AT5 := Hid.of (AT4.out.below hb5 (Nat.le_refl _))
  clear hb5 B4 K4 N4 MT4 AT4 y0 y1 y2 y3 y4
  obtain ⟨y0, y1, y2, y3, y4⟩ := mcell_at N5.out
  go_wp2_with fail
  refine (after_no M L L.a1 wa L.c1 wc M.starts word _ MT5.out HMD.out MT5.out.s (Nat.le_trans MT5.out.s1 MT5.out.s2) (mayB_starts HMD.out) (hw.out.below B5.out (Nat.le_refl _)) hwl.out (by rw [HEV.out]; exact hwd.out)).mono ?_
  rintro e w6 ⟨rfl, hb6⟩
  have B6 := Hid.of (B5.out.trans (hb6.mono B5.out.size))
  clear hb6 B5 K5 N5 MT5 AT5 y0 y1 y2 y3 y4
  go_wp2
  go_ret
  exact ⟨rfl, B6.out⟩

theorem dsame_any (m : Mach) (l : ML) (wa : Option Addr) (wc : Nat) (word : List Int) (w : World) (hT : Tab w) (h : MAt w m l) (hw : At w wa word) (hwl : word.length ≤ maxLen) :
    Calls Tryd.prog 8 #[mval m l, .slice wa word.length wc] w fun e w' => e = .returned (.bool true) ∧ Below w.heap.size w w' := by
  cases hm : mayB m with
  | false => exact dsame_err m l wa wc word w (Hid.of hT) (Hid.of h) 2 (.inr rfl) (detOut_bad hm)
  | true =>
    cases hd : detS m with
    | none => exact dsame_err m l wa wc word w (Hid.of hT) (Hid.of h) 1 (.inl rfl) (detOut_none hm hd)
    | some s =>
      cases hwd : wordB m.ev word with
      | true => exact dsame_yes m l wa wc word w (Hid.of hT) (Hid.of h) (Hid.of hw) (Hid.of hwl) (Hid.of hm) s (Hid.of hd) (Hid.of hwd)
      | false => exact dsame_no m l wa wc word w (Hid.of hT) (Hid.of h) (Hid.of hw) (Hid.of hwl) (Hid.of hm) s (Hid.of hd) (Hid.of hwd)

end Go.Proofs.YtbdkaobbfmgnhaaDoor
