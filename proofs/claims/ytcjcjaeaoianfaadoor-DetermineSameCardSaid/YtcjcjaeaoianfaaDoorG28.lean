/-
  The walk of machine.Accepts.
  The walks of machine.After and machine.Accepts.
  machine.Accepts and machine.After, of what may be and any word.
  The walk of jalousiekeep.same.
  The walk of jalousielaw.rows: are two lists of lists one?
-/
import Derived.Test.YtcjcjaeaoianfaaDoorCAfterOk
import Derived.Test.YtcjcjaeaoianfaaDoorG12
import Derived.Test.YtcjcjaeaoianfaaDoorG22
import Derived.Test.YtcjcjaeaoianfaaDoorG07
namespace Go.Proofs.YtcjcjaeaoianfaaDoor
open Go.RowKit
set_option linter.unusedVariables false

set_option maxRecDepth 100000 in
set_option maxHeartbeats 4000000 in
theorem pAccepts_err (m : Mach) (l : ML) (wa : Option Addr) (wc : Nat) (word : List Int) (c : Int) (w : World) (hc : (c == 0) = false)
    (H : Hid (∀ W, Below w.heap.size w W → Calls Tryd.prog 38 #[mval m l, .slice l.a1 m.starts.length l.c1, .slice wa word.length wc] W fun e w' => e = .returned (.tuple #[sval zeroS, .int .i64 c]) ∧ Below W.heap.size W w')) :
    Calls Tryd.prog 14 #[mval m l, .slice wa word.length wc] w fun e w' => e = .returned (.tuple #[.bool false, .int .i64 c]) ∧ Below w.heap.size w w' := by
  have B0 : Hid (Below w.heap.size w (w.alloc (.cells (mcells m l) 25))) := (Below.refl _ _).alloc (Nat.le_refl _) _
  have hc' : (c != 0) = true := by simp only [bne, hc]; rfl
  have hc2 : ¬ c = 0 := by simpa using hc
  go_enter Tryd.func14, Tryd.ntmps14
  go_wp2_with fail
  refine (H.out _ B0.out).mono ?_
  rintro e w1 ⟨rfl, hb1⟩
  have HB := Hid.of (B0.out.trans (hb1.mono B0.out.size))
  clear hb1
  go_wp2
  refine bodyPost_ret (results_tmp2 rfl _ _ _) rfl ?_
  exact ⟨rfl, HB.out.alloc HB.out.size _⟩

set_option maxRecDepth 100000 in
set_option maxHeartbeats 4000000 in
theorem pAccepts_ok (m : Mach) (l : ML) (wa : Option Addr) (wc : Nat) (word : List Int) (w : World) (h : MAt w m l) (hT : Hid (Tab w)) (hm : Hid (mayB m = true)) (hv : Hid (At w wa word)) (hwl : Hid (word.length ≤ maxLen)) (hwd : Hid (wordB m.ev word = true)) :
    Calls Tryd.prog 14 #[mval m l, .slice wa word.length wc] w fun e w' => e = .returned (.tuple #[.bool (acceptsB m word), .int .i64 0]) ∧ Below w.heap.size w w' := by
  have b0 : Below w.heap.size w (w.alloc (.cells (mcells m l) 25)) := (Below.refl _ _).alloc (Nat.le_refl _) _
  have h' := h.below b0 (Nat.le_refl _)
  have l1 : m.starts.length ≤ maxLen := Nat.le_trans h.s1 h.s2
  have l3 : Hid (m.ends.length ≤ maxLen) := Nat.le_trans h.e1 h.e2
  have hcall := Hid.of (after_ok m l l.a1 wa l.c1 wc m.starts word _ h' (Hid.of (hT.out.below b0 hT.out.lt)) hm (Hid.of h'.s) (Hid.of l1) (Hid.of (mayB_starts hm.out)) (Hid.of (hv.out.below b0 (Nat.le_refl _))) hwl hwd)
  have B0 := Hid.of b0
  have HM := Hid.of h
  have K1 := Hid.of (Blk.new w 25 (mcells m l))
  clear b0 h h' l1
  go_enter Tryd.func14, Tryd.ntmps14
  go_wp2_with fail
  refine hcall.out.mono ?_
  rintro e w1 ⟨S, hS, rfl, hb1⟩
  have HB := Hid.of (B0.out.trans (hb1.mono B0.out.size))
  have HS := Hid.of hS
  have k2 := (K1.out.below hb1 K1.out.lt).alloc (.cells (scells S) 55)
  have k3 := Blk.new w1 55 (scells S)
  have KM := Hid.of k2
  have KS := Hid.of k3
  have HB2 : Hid (Below w.heap.size w (w1.alloc (.cells (scells S) 55))) := HB.out.alloc HB.out.size _
  clear hb1 hS hcall k2 k3
  go_wp2_with fail
  revert KM KS HB2
  generalize w1.alloc (.cells (scells S) 55) = V
  intro KM KS HB2
  obtain ⟨c0, c1, c2, c3⟩ := SB.cells KS.out
  have e4 : V.cell? ⟨w.heap.size, 4, none⟩ = some (.slice l.a3 m.ends.length l.c3) := KM.out.cell 4 rfl
  have hle := Hid.of (HM.out.below HB2.out.drew (Nat.le_refl _)).e
  have hbd : Hid (∀ x ∈ m.ends, 0 ≤ x ∧ x < 256) := fun x hx => by
    have h1 := ((goIs_iff _ _ _).1 (mayB_ends hm.out)).2 x hx
    have h2 := mayB_size hm.out
    unfold sizeOk at h2
    omega
  have hE : Hid (Rep (ofS m.ends) m.ends) := by
    have := rep_of hbd.out m.ends.length
    rwa [List.take_of_length_le (Nat.le_refl _)] at this
  go_region_held3 (fun w' => w'.cell? ⟨w1.heap.size, 0, none⟩ = some (.int .u64 (S 0)) ∧ w'.cell? ⟨w1.heap.size, 1, none⟩ = some (.int .u64 (S 1)) ∧ w'.cell? ⟨w1.heap.size, 2, none⟩ = some (.int .u64 (S 2)) ∧ w'.cell? ⟨w1.heap.size, 3, none⟩ = some (.int .u64 (S 3)) ∧ w'.cell? ⟨w.heap.size, 4, none⟩ = some (.slice l.a3 m.ends.length l.c3)) (go_keep) (first | (go_at_call 41; refine (of_any l.a3 l.c3 m.ends _ hle.out l3.out hbd.out).mono ?_; rintro e wO ⟨rfl, hbO⟩; have HBO := Hid.of (HB2.out.drew.trans (hbO.mono HB2.out.size)); have KSO := Hid.of (Blk.below (Blk.drew KS.out) hbO KS.out.lt); have KMO := Hid.of (Blk.below (Blk.drew KM.out) hbO KM.out.lt); obtain ⟨d0, d1, d2, d3⟩ := SB.cells KSO.out; have d4 : wO.cell? ⟨w.heap.size, 4, none⟩ = some (.slice l.a3 m.ends.length l.c3) := KMO.out.cell 4 rfl; clear hbO) | (go_at_call 40; refine (meets_any S (ofS m.ends) _ HS.out.ok hE.out.ok).mono ?_; rintro e wM ⟨rfl, hbM⟩; have HBM := Hid.of (HBO.out.trans (hbM.mono HBO.out.size)); obtain ⟨g0, g1, g2, g3⟩ := SB.cells (Blk.below KSO.out hbM KSO.out.lt); have g4 : wM.cell? ⟨w.heap.size, 4, none⟩ = some (.slice l.a3 m.ends.length l.c3) := (Blk.below KMO.out hbM KMO.out.lt).cell 4 rfl; clear hbM))
  have HF : Hid (meetB S (ofS m.ends) = acceptsB m word) := meet_iff HS.out hE.out
  go_wp2
  refine bodyPost_ret (results_tmp2 rfl _ _ _) rfl ?_
  exact ⟨by rw [← HF.out]; rfl, HBM.out⟩

end Go.Proofs.YtcjcjaeaoianfaaDoor
namespace Go.Proofs.YtcjcjaeaoianfaaDoor
open Go.RowKit
set_option linter.unusedVariables false

theorem inc_afterL {ars : List Arr} : ∀ (word : List Int) {ss : List Int}, Inc ss → Inc (afterL ars ss word)
  | [], _, h => h
  | e :: r, ss, _ => inc_afterL r (show Inc (stepL ars ss e) from inc_srt _)

/-- What machine.After leaves where nothing is wrong. -/
def AftGives (w : World) (L : List Int) (e : Ending) (w' : World) : Prop := ∃ a cap, e = .returned (.tuple #[.slice a L.length cap, .int .i64 0]) ∧ At w' a L ∧ L.length ≤ maxLen ∧ Below w.heap.size w w'

set_option maxRecDepth 100000 in
set_option maxHeartbeats 4000000 in
theorem pAfter_err (m : Mach) (l : ML) (sa wa : Option Addr) (sc wc : Nat) (ss word : List Int) (c : Int) (w : World) (hc : (c == 0) = false)
    (H : Hid (∀ W, Below w.heap.size w W → Calls Tryd.prog 38 #[mval m l, .slice sa ss.length sc, .slice wa word.length wc] W fun e w' => e = .returned (.tuple #[sval zeroS, .int .i64 c]) ∧ Below W.heap.size W w')) :
    Calls Tryd.prog 13 #[mval m l, .slice sa ss.length sc, .slice wa word.length wc] w fun e w' => e = .returned (.tuple #[.slice none 0 0, .int .i64 c]) ∧ Below w.heap.size w w' := by
  have B0 : Hid (Below w.heap.size w (w.alloc (.cells (mcells m l) 25))) := (Below.refl _ _).alloc (Nat.le_refl _) _
  have hc' : (c != 0) = true := by simp only [bne, hc]; rfl
  have hc2 : ¬ c = 0 := by simpa using hc
  go_enter Tryd.func13, Tryd.ntmps13
  go_wp2_with fail
  refine (H.out _ B0.out).mono ?_
  rintro e w1 ⟨rfl, hb1⟩
  have HB := Hid.of (B0.out.trans (hb1.mono B0.out.size))
  clear hb1
  go_wp2
  refine bodyPost_ret (results_tmp2 rfl _ _ _) rfl ?_
  exact ⟨rfl, HB.out.alloc HB.out.size _⟩

set_option maxRecDepth 100000 in
set_option maxHeartbeats 4000000 in
theorem pAfter_ok (m : Mach) (l : ML) (sa wa : Option Addr) (sc wc : Nat) (ss word : List Int) (w : World) (h : MAt w m l) (hT : Hid (Tab w)) (hm : Hid (mayB m = true)) (hs : Hid (At w sa ss)) (hl : Hid (ss.length ≤ maxLen)) (hr : Hid (rowB m.st ss = true)) (hv : Hid (At w wa word)) (hwl : Hid (word.length ≤ maxLen)) (hwd : Hid (wordB m.ev word = true)) :
    Calls Tryd.prog 13 #[mval m l, .slice sa ss.length sc, .slice wa word.length wc] w fun e w' => AftGives w (afterL m.arrows ss word) e w' := by
  have b0 : Below w.heap.size w (w.alloc (.cells (mcells m l) 25)) := (Below.refl _ _).alloc (Nat.le_refl _) _
  have hcall := Hid.of (after_ok m l sa wa sc wc ss word _ (h.below b0 (Nat.le_refl _)) (Hid.of (hT.out.below b0 hT.out.lt)) hm (Hid.of (hs.out.below b0 (Nat.le_refl _))) hl hr (Hid.of (hv.out.below b0 (Nat.le_refl _))) hwl hwd)
  have B0 := Hid.of b0
  clear b0 h
  go_enter Tryd.func13, Tryd.ntmps13
  go_wp2_with fail
  refine hcall.out.mono ?_
  rintro e w1 ⟨S, hS, rfl, hb1⟩
  have HB := Hid.of (B0.out.trans (hb1.mono B0.out.size))
  have HS := Hid.of hS
  have HB2 : Hid (Below w.heap.size w (w1.alloc (.cells (scells S) 55))) := HB.out.alloc HB.out.size _
  have hrow := Hid.of (row_any S (w1.alloc (.cells (scells S) 55)) hS.ok (hT.out.below HB2.out hT.out.lt))
  clear hb1 hS hcall
  go_wp2_with fail
  refine hrow.out.mono ?_
  rintro e w2 ⟨a, cap, rfl, hat, hlen, hb2⟩
  have HE : Hid (rowS S = afterL m.arrows ss word) := rep_row HS.out (inc_afterL word (rowB_inc hr.out))
  rw [HE.out] at hat hlen ⊢
  have HAT := Hid.of hat
  have HLN := Hid.of hlen
  have HB3 := Hid.of (HB2.out.trans (hb2.mono HB2.out.size))
  clear hat hlen hb2
  go_wp2
  refine bodyPost_ret (results_tmp2 rfl _ _ _) rfl ?_
  exact ⟨a, cap, rfl, HAT.out, HLN.out, HB3.out⟩

end Go.Proofs.YtcjcjaeaoianfaaDoor
namespace Go.Proofs.YtcjcjaeaoianfaaDoor
open Go.RowKit
set_option linter.unusedVariables false

theorem accepts_any (m : Mach) (l : ML) (wa : Option Addr) (wc : Nat) (word : List Int) (w : World) (h : MAt w m l) (hT : Tab w) (hm : mayB m = true) (hv : At w wa word) (hwl : word.length ≤ maxLen) :
    Calls Tryd.prog 14 #[mval m l, .slice wa word.length wc] w fun e w' => e = .returned (.tuple #[.bool (wordB m.ev word && acceptsB m word), .int .i64 (if wordB m.ev word = true then 0 else 6)]) ∧ Below w.heap.size w w' := by
  cases hw : wordB m.ev word with
  | true => simpa using pAccepts_ok m l wa wc word w h hT hm hv hwl hw
  | false => simpa using pAccepts_err m l wa wc word 6 w rfl (fun W hW => after_range m l l.a1 wa l.c1 wc m.starts word W (h.below hW (Nat.le_refl _)) hm (h.below hW (Nat.le_refl _)).s (Nat.le_trans h.s1 h.s2) (mayB_starts hm) (hv.below hW (Nat.le_refl _)) hwl hw)

/-- What machine.After answers. -/
def aftO (m : Mach) (ss word : List Int) : List Int := if wordB m.ev word = true then afterL m.arrows ss word else []
theorem after_any (m : Mach) (l : ML) (sa wa : Option Addr) (sc wc : Nat) (ss word : List Int) (w : World) (h : MAt w m l) (hT : Tab w) (hm : mayB m = true) (hs : At w sa ss) (hl : ss.length ≤ maxLen) (hr : rowB m.st ss = true) (hv : At w wa word) (hwl : word.length ≤ maxLen) :
    Calls Tryd.prog 13 #[mval m l, .slice sa ss.length sc, .slice wa word.length wc] w fun e w' => ∃ a cap, e = .returned (.tuple #[.slice a (aftO m ss word).length cap, .int .i64 (if wordB m.ev word = true then 0 else 6)]) ∧ At w' a (aftO m ss word) ∧ (aftO m ss word).length ≤ maxLen ∧ Below w.heap.size w w' := by
  unfold aftO
  cases hw : wordB m.ev word with
  | true =>
    refine (pAfter_ok m l sa wa sc wc ss word w h hT hm hs hl hr hv hwl hw).mono fun e w' h => ?_
    obtain ⟨a, cap, h1, h2, h3, h4⟩ := h
    exact ⟨a, cap, h1, h2, h3, h4⟩
  | false =>
    refine (pAfter_err m l sa wa sc wc ss word 6 w rfl (fun W hW => after_range m l sa wa sc wc ss word W (h.below hW (Nat.le_refl _)) hm (hs.below hW (Nat.le_refl _)) hl hr (hv.below hW (Nat.le_refl _)) hwl hw)).mono fun e w' h => ?_
    exact ⟨none, 0, h.1, .inl rfl, Nat.zero_le _, h.2⟩

theorem accepts_yes (m : Mach) (l : ML) (wa : Option Addr) (wc : Nat) (word : List Int) (w : World) (h : MAt w m l) (hT : Tab w) (hm : mayB m = true) (hv : At w wa word) (hwl : word.length ≤ maxLen) (hw : wordB m.ev word = true) :
    Calls Tryd.prog 14 #[mval m l, .slice wa word.length wc] w fun e w' => e = .returned (.tuple #[.bool (acceptsB m word), .int .i64 0]) ∧ Below w.heap.size w w' := pAccepts_ok m l wa wc word w h hT hm hv hwl hw
theorem accepts_no (m : Mach) (l : ML) (wa : Option Addr) (wc : Nat) (word : List Int) (w : World) (h : MAt w m l) (hm : mayB m = true) (hv : At w wa word) (hwl : word.length ≤ maxLen) (hw : wordB m.ev word = false) :
    Calls Tryd.prog 14 #[mval m l, .slice wa word.length wc] w fun e w' => e = .returned (.tuple #[.bool false, .int .i64 6]) ∧ Below w.heap.size w w' := pAccepts_err m l wa wc word 6 w rfl (fun W hW => after_range m l l.a1 wa l.c1 wc m.starts word W (h.below hW (Nat.le_refl _)) hm (h.below hW (Nat.le_refl _)).s (Nat.le_trans h.s1 h.s2) (mayB_starts hm) (hv.below hW (Nat.le_refl _)) hwl hw)
theorem after_no (m : Mach) (l : ML) (sa wa : Option Addr) (sc wc : Nat) (ss word : List Int) (w : World) (h : MAt w m l) (hm : mayB m = true) (hs : At w sa ss) (hl : ss.length ≤ maxLen) (hr : rowB m.st ss = true) (hv : At w wa word) (hwl : word.length ≤ maxLen) (hw : wordB m.ev word = false) :
    Calls Tryd.prog 13 #[mval m l, .slice sa ss.length sc, .slice wa word.length wc] w fun e w' => e = .returned (.tuple #[.slice none 0 0, .int .i64 6]) ∧ Below w.heap.size w w' :=
  pAfter_err m l sa wa sc wc ss word 6 w rfl (fun W hW => after_range m l sa wa sc wc ss word W (h.below hW (Nat.le_refl _)) hm (hs.below hW (Nat.le_refl _)) hl hr (hv.below hW (Nat.le_refl _)) hwl hw)

end Go.Proofs.YtcjcjaeaoianfaaDoor
namespace Go.Proofs.YtcjcjaeaoianfaaDoor
open Go.RowKit
set_option linter.unusedVariables false

set_option maxHeartbeats 400000 in
theorem ksame_ne (a b : Option Addr) (ca cb : Nat) (xs ys : List Int) (w : World) (hne : ¬ xs.length = ys.length) (hl : xs.length ≤ 9223372036854775807) (hm : ys.length ≤ 9223372036854775807) :
    Calls Tryd.prog 21 #[.slice a xs.length ca, .slice b ys.length cb] w fun e w' => e = .returned (.bool (sameB xs ys)) ∧ ∃ q, w' = w.drewN q := by
  have hb : ((xs.length : Int) != (ys.length : Int)) = true := by rw [bne_iff_ne]; omega
  go_enter Tryd.func21, Tryd.ntmps21
  go_wp2
  go_ret
  exact ⟨ret_bool (same_len hne), 0, rfl⟩

set_option maxHeartbeats 1000000 in
theorem ksame_eq (ba oa ca bb ob cb : Nat) (xs ys : List Int) (w : World) (hlen : Hid (xs.length = ys.length)) (hl : xs.length ≤ 9223372036854775807) (hca : Cells w ba oa xs) (hcb : Cells w bb ob ys) :
    Calls Tryd.prog 21 #[.slice (some ⟨ba, oa, none⟩) xs.length ca, .slice (some ⟨bb, ob, none⟩) ys.length cb] w fun e w' => e = .returned (.bool (sameB xs ys)) ∧ ∃ q, w' = w.drewN q := by
  have hm : ys.length ≤ 9223372036854775807 := by have := hlen.out; omega
  have hb : ((xs.length : Int) != (ys.length : Int)) = false := by have := hlen.out; simp; omega
  go_enter Tryd.func21, Tryd.ntmps21
  go_wp2
  go_loopw [5] (fun i wr => ∃ k q : Nat, k ≤ xs.length ∧ i = .int .i64 k ∧ wr = w.drewN q ∧ Hid (xs.take k = ys.take k)) (fun i _ => xs.length - (intOf i).toNat)
  case atStart => exact ⟨0, 0, Nat.zero_le _, rfl, rfl, rfl⟩
  case round =>
    obtain ⟨k, q, hk, rfl, rfl, he⟩ := hrel
    by_cases hlt : k < xs.length
    · have hlt2 : k < ys.length := by have := hlen.out; omega
      obtain ⟨x, HX, hcx⟩ := hca.at hlt
      obtain ⟨y, HY, hcy⟩ := hcb.at hlt2
      by_cases hxy : x = y
      · have HXY : Hid (x = y) := hxy
        have d : (x != y) = false := by simp [hxy]
        clear hxy
        go_wp2
        go_quiet (fail)
        go_wp2
        go_roundw
        case rel => exact ⟨k + 1, _, by omega, by go_num, rfl, same_yes hlt hlt2 HX HY HXY.out he⟩
        case measure => simp [intOf]; omega
      · have d : (x != y) = true := by simp [hxy]
        go_wp2
        go_quiet (fail)
        go_wp2
        go_ret
        exact ⟨ret_bool (same_no HX HY hxy), _, World.drewN_drewN _ _ _⟩
    · go_wp2
      go_ret
      exact ⟨ret_bool (same_end hlen.out hlt he), q, rfl⟩

set_option maxHeartbeats 400000 in
theorem ksame_nil (a b : Option Addr) (ca cb : Nat) (w : World) :
    Calls Tryd.prog 21 #[.slice a 0 ca, .slice b 0 cb] w fun e w' => e = .returned (.bool true) ∧ ∃ q, w' = w.drewN q := by
  go_enter Tryd.func21, Tryd.ntmps21
  go_wp2
  refine wp_loop_rounds 1 ?_
  rw [rounds_succ]
  go_wp2
  go_ret
  exact ⟨rfl, 0, rfl⟩

theorem ksame_any (a b : Option Addr) (ca cb : Nat) (xs ys : List Int) (w : World) (hs : At w a xs) (ht : At w b ys) (hl : xs.length ≤ maxLen) (hm : ys.length ≤ maxLen) :
    Calls Tryd.prog 21 #[.slice a xs.length ca, .slice b ys.length cb] w fun e w' => e = .returned (.bool (sameB xs ys)) ∧ ∃ q, w' = w.drewN q := by
  by_cases hne : xs.length = ys.length
  · rcases hs with rfl | ⟨ba, oa, rfl, -, hca⟩
    · have : ys = [] := List.eq_nil_of_length_eq_zero (by simpa using hne.symm)
      subst this
      exact ksame_nil a b ca cb w
    · rcases ht with rfl | ⟨bb, ob, rfl, -, hcb⟩
      · have : xs = [] := List.eq_nil_of_length_eq_zero (by simpa using hne)
        subst this
        exact ksame_nil _ b ca cb w
      · exact ksame_eq ba oa ca bb ob cb xs ys w hne hl hca hcb
  · exact ksame_ne a b ca cb xs ys w hne hl hm

end Go.Proofs.YtcjcjaeaoianfaaDoor
namespace Go.Proofs.YtcjcjaeaoianfaaDoor
open Go.RowKit
set_option linter.unusedVariables false

/-- Are two lists of lists one? -/
def sameL : List (List Int) → List (List Int) → Bool
  | [], [] => true
  | x :: r, y :: s => if sameB x y = true then sameL r s else false
  | _, _ => false
theorem sameL_iff : ∀ (p q : List (List Int)), sameL p q = true ↔ p = q
  | [], [] => by simp [sameL]
  | [], _ :: _ => by simp [sameL]
  | _ :: _, [] => by simp [sameL]
  | x :: r, y :: s => by
    unfold sameL
    by_cases h : sameB x y = true
    · rw [if_pos h, sameL_iff r s]
      have : x = y := by simpa [sameB] using h
      simp [this]
    · rw [if_neg h]
      have : ¬ x = y := fun e => h (by simp [sameB, e])
      simp [this]
theorem sameL_len {p q : List (List Int)} (h : ¬ p.length = q.length) : false = sameL p q := by
  cases e : sameL p q with
  | false => rfl
  | true => exact absurd (by rw [(sameL_iff p q).1 e]) h
theorem dropL {p : List (List Int)} {k : Nat} {x : List Int} (h : p[k]? = some x) : p.drop k = x :: p.drop (k + 1) := by
  obtain ⟨h1, h2⟩ := List.getElem?_eq_some_iff.1 h
  rw [List.drop_eq_getElem_cons h1, h2]
theorem sameL_no {k : Nat} {p q : List (List Int)} {x y : List Int} {t : Bool} (hx : Hid (p[k]? = some x)) (hy : Hid (q[k]? = some y)) (e : Hid (t = sameL (p.drop k) (q.drop k))) (hn : Hid (sameB x y = false)) : false = t := by
  rw [e.out, dropL hx.out, dropL hy.out, sameL, if_neg (by rw [hn.out]; simp)]
theorem sameL_yes {k : Nat} {p q : List (List Int)} {x y : List Int} {t : Bool} (hx : Hid (p[k]? = some x)) (hy : Hid (q[k]? = some y)) (e : Hid (t = sameL (p.drop k) (q.drop k))) (hn : Hid (sameB x y = true)) : Hid (t = sameL (p.drop (k + 1)) (q.drop (k + 1))) := by
  show t = _
  rw [e.out, dropL hx.out, dropL hy.out, sameL, if_pos hn.out]
theorem sameL_end {k : Nat} {p q : List (List Int)} {t : Bool} (h : ¬ k < p.length) (hl : p.length = q.length) (e : Hid (t = sameL (p.drop k) (q.drop k))) : true = t := by
  rw [e.out, List.drop_eq_nil_of_le (by omega), List.drop_eq_nil_of_le (by omega)]; rfl

set_option maxHeartbeats 400000 in
theorem rows_ne (a b : Option Addr) (ca cb : Nat) (xs ys : List (List Int)) (w : World) (hne : ¬ xs.length = ys.length) (hl : xs.length ≤ 9223372036854775807) (hm : ys.length ≤ 9223372036854775807) :
    Calls Tryd.prog 35 #[.slice a xs.length ca, .slice b ys.length cb] w fun e w' => e = .returned (.bool (sameL xs ys)) ∧ ∃ q, w' = w.drewN q := by
  have hb : ((xs.length : Int) != (ys.length : Int)) = true := by rw [bne_iff_ne]; omega
  go_enter Tryd.func35, Tryd.ntmps35
  go_wp2
  go_ret
  exact ⟨ret_bool (sameL_len hne), 0, rfl⟩

/-- What a slice of slices has in a place. -/
def CellsL (w : World) (b off : Nat) (LL : List (List Int)) : Prop := ∀ (k : Nat) (xs : List Int), LL[k]? = some xs → ∃ a' c', w.cell? ⟨b, off + k, none⟩ = some (.slice a' xs.length c') ∧ At w a' xs ∧ xs.length ≤ maxLen

set_option maxHeartbeats 2000000 in
theorem rows_eq (ba oa ca bb ob cb : Nat) (xs ys : List (List Int)) (w : World) (hlen : Hid (xs.length = ys.length)) (hl : xs.length ≤ 9223372036854775807) (hca : Hid (CellsL w ba oa xs)) (hcb : Hid (CellsL w bb ob ys)) :
    Calls Tryd.prog 35 #[.slice (some ⟨ba, oa, none⟩) xs.length ca, .slice (some ⟨bb, ob, none⟩) ys.length cb] w fun e w' => e = .returned (.bool (sameL xs ys)) ∧ ∃ q, w' = w.drewN q := by
  have hm : ys.length ≤ 9223372036854775807 := by have := hlen.out; omega
  have hb : ((xs.length : Int) != (ys.length : Int)) = false := by have := hlen.out; simp; omega
  go_enter Tryd.func35, Tryd.ntmps35
  go_wp2
  go_loopw [5] (fun i wr => ∃ k q : Nat, k ≤ xs.length ∧ i = .int .i64 k ∧ wr = w.drewN q ∧ Hid (sameL xs ys = sameL (xs.drop k) (ys.drop k))) (fun i _ => xs.length - (intOf i).toNat)
  case atStart => exact ⟨0, 0, Nat.zero_le _, rfl, rfl, by show _ = _; simp⟩
  case round =>
    obtain ⟨k, q, hk, rfl, rfl, he⟩ := hrel
    by_cases hlt : k < xs.length
    · have hlt2 : k < ys.length := by have := hlen.out; omega
      obtain ⟨x, HX⟩ : ∃ x, Hid (xs[k]? = some x) := ⟨_, List.getElem?_eq_getElem hlt⟩
      obtain ⟨y, HY⟩ : ∃ y, Hid (ys[k]? = some y) := ⟨_, List.getElem?_eq_getElem hlt2⟩
      obtain ⟨xa, xc, cx, ax, lx⟩ := hca.out k x HX.out
      obtain ⟨ya, yc, cy, ay, ly⟩ := hcb.out k y HY.out
      obtain ⟨V, HV⟩ : ∃ V, Hid (V = w.drewN q) := ⟨_, rfl⟩
      replace cx : V.cell? ⟨ba, oa + k, none⟩ = some (.slice xa x.length xc) := by rw [HV.out]; exact cx
      replace cy : V.cell? ⟨bb, ob + k, none⟩ = some (.slice ya y.length yc) := by rw [HV.out]; exact cy
      replace ax : At V xa x := by rw [HV.out]; exact At.drewN ax q
      replace ay : At V ya y := by rw [HV.out]; exact At.drewN ay q
      rw [← HV.out]
      have KEY : Hid (∀ n, Calls Tryd.prog 18 #[.slice xa x.length xc, .slice ya y.length yc] (V.drewN n) fun e w' => e = .returned (.bool (sameB x y)) ∧ ∃ r, w' = (V.drewN n).drewN r) := fun n => same_any xa ya xc yc x y _ (At.drewN ax n) (At.drewN ay n) lx ly
      clear ax ay lx ly
      by_cases hxy : sameB x y = true
      · have HXY : Hid (sameB x y = true) := hxy
        rw [hxy] at KEY
        clear hxy
        go_wp2_with fail
        go_quiet (first | (go_at_call 18; exact Calls.quiet_of (KEY.out _)))
        go_wp2
        go_roundw
        case rel => exact ⟨k + 1, _, by omega, by go_num, by rw [HV.out, World.drewN_drewN], sameL_yes HX HY he HXY⟩
        case measure => simp [intOf]; omega
      · have hxy : sameB x y = false := by simpa using hxy
        have HXY : Hid (sameB x y = false) := hxy
        rw [hxy] at KEY
        clear hxy
        go_wp2_with fail
        go_quiet (first | (go_at_call 18; exact Calls.quiet_of (KEY.out _)))
        go_wp2
        go_ret
        exact ⟨ret_bool (sameL_no HX HY he HXY), _, by rw [HV.out, World.drewN_drewN]⟩
    · go_wp2
      go_ret
      exact ⟨ret_bool (sameL_end hlt hlen.out he), q, rfl⟩

set_option maxHeartbeats 400000 in
theorem rows_nil (a b : Option Addr) (ca cb : Nat) (w : World) :
    Calls Tryd.prog 35 #[.slice a 0 ca, .slice b 0 cb] w fun e w' => e = .returned (.bool true) ∧ ∃ q, w' = w.drewN q := by
  go_enter Tryd.func35, Tryd.ntmps35
  go_wp2
  refine wp_loop_rounds 1 ?_
  rw [rounds_succ]
  go_wp2
  go_ret
  exact ⟨rfl, 0, rfl⟩

theorem rows_any (a b : Option Addr) (ca cb : Nat) (xs ys : List (List Int)) (w : World) (hs : At2 w a xs) (ht : At2 w b ys) (hl : xs.length ≤ maxLen) (hm : ys.length ≤ maxLen) :
    Calls Tryd.prog 35 #[.slice a xs.length ca, .slice b ys.length cb] w fun e w' => e = .returned (.bool (sameL xs ys)) ∧ ∃ q, w' = w.drewN q := by
  by_cases hne : xs.length = ys.length
  · rcases hs with rfl | ⟨ba, oa, rfl, -, hca⟩
    · have : ys = [] := List.eq_nil_of_length_eq_zero (by simpa using hne.symm)
      subst this
      exact rows_nil a b ca cb w
    · rcases ht with rfl | ⟨bb, ob, rfl, -, hcb⟩
      · have : xs = [] := List.eq_nil_of_length_eq_zero (by simpa using hne)
        subst this
        exact rows_nil _ b ca cb w
      · exact rows_eq ba oa ca bb ob cb xs ys w hne hl (Hid.of hca) (Hid.of hcb)
  · exact rows_ne a b ca cb xs ys w hne hl hm

end Go.Proofs.YtcjcjaeaoianfaaDoor
