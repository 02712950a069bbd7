/-
  The walks of machine.After and machine.Accepts.
  The walk of machine.Accepts.
  The walk of jalousieref2.ahead.
-/
import Derived.Test.YtcjcjaeaoianfaaDoorCAfterOk
import Derived.Test.YtcjcjaeaoianfaaDoorG09
import Derived.Test.YtcjcjaeaoianfaaDoorG03
namespace Go.Proofs.YtcjcjaeaoianfaaDoor
open Go.RowKit
set_option linter.unusedVariables false

theorem inc_afterL {ars : List Arr} : ∀ (word : List Int) {ss : List Int}, Inc ss → Inc (afterL ars ss word)
  | [], _, h => h
  | e :: r, ss, _ => inc_afterL r (show Inc (stepL ars ss e) from inc_srt _)

/-- What machine.After leaves where nothing is wrong. -/
def AftGives (w : World) (L : List Int) (e : Ending) (w' : World) : Prop := ∃ a cap, e = .returned (.tuple #[.slice a L.length cap, .int .i64 0]) ∧ At w' a L ∧ L.length ≤ maxLen ∧ Below w.heap.size w w'

set_option maxRecDepth 100000 in
set_option maxHeartbeats 4000000 in
theorem pAfter_err (m : Mach) (l : ML) (sa wa : Option Addr) (sc wc : Nat) (ss word : List Int) (c : Int) (w : World) (hc : (c == 0) = false)
    (H : Hid (∀ W, Below w.heap.size w W → Calls Tryd.prog 38 #[mval m l, .slice sa ss.length sc, .slice wa word.length wc] W fun e w' => e = .returned (.tuple #[sval zeroS, .int .i64 c]) ∧ Below W.heap.size W w')) :
    Calls Tryd.prog 13 #[mval m l, .slice sa ss.length sc, .slice wa word.length wc] w fun e w' => e = .returned (.tuple #[.slice none 0 0, .int .i64 c]) ∧ Below w.heap.size w w' := by
  have B0 : Hid (Below w.heap.size w (w.alloc (.cells (mcells m l) 25))) := (Below.refl _ _).alloc (Nat.le_refl _) _
  have hc' : (c != 0) = true := by simp only [bne, hc]; rfl
  have hc2 : ¬ c = 0 := by simpa using hc
  go_enter Tryd.func13, Tryd.ntmps13
  go_wp2_with fail
  refine (H.out _ B0.out).mono ?_
  rintro e w1 ⟨rfl, hb1⟩
  have HB := Hid.of (B0.out.trans (hb1.mono B0.out.size))
  clear hb1
  go_wp2
  refine bodyPost_ret (results_tmp2 rfl _ _ _) rfl ?_
  exact ⟨rfl, HB.out.alloc HB.out.size _⟩

set_option maxRecDepth 100000 in
set_option maxHeartbeats 4000000 in
theorem pAfter_ok (m : Mach) (l : ML) (sa wa : Option Addr) (sc wc : Nat) (ss word : List Int) (w : World) (h : MAt w m l) (hT : Hid (Tab w)) (hm : Hid (mayB m = true)) (hs : Hid (At w sa ss)) (hl : Hid (ss.length ≤ maxLen)) (hr : Hid (rowB m.st ss = true)) (hv : Hid (At w wa word)) (hwl : Hid (word.length ≤ maxLen)) (hwd : Hid (wordB m.ev word = true)) :
    Calls Tryd.prog 13 #[mval m l, .slice sa ss.length sc, .slice wa word.length wc] w fun e w' => AftGives w (afterL m.arrows ss word) e w' := by
  have b0 : Below w.heap.size w (w.alloc (.cells (mcells m l) 25)) := (Below.refl _ _).alloc (Nat.le_refl _) _
  have hcall := Hid.of (after_ok m l sa wa sc wc ss word _ (h.below b0 (Nat.le_refl _)) (Hid.of (hT.out.below b0 hT.out.lt)) hm (Hid.of (hs.out.below b0 (Nat.le_refl _))) hl hr (Hid.of (hv.out.below b0 (Nat.le_refl _))) hwl hwd)
  have B0 := Hid.of b0
  clear b0 h
  go_enter Tryd.func13, Tryd.ntmps13
  go_wp2_with fail
  refine hcall.out.mono ?_
  rintro e w1 ⟨S, hS, rfl, hb1⟩
  have HB := Hid.of (B0.out.trans (hb1.mono B0.out.size))
  have HS := Hid.of hS
  have HB2 : Hid (Below w.heap.size w (w1.alloc (.cells (scells S) 55))) := HB.out.alloc HB.out.size _
  have hrow := Hid.of (row_any S (w1.alloc (.cells (scells S) 55)) hS.ok (hT.out.below HB2.out hT.out.lt))
  clear hb1 hS hcall
  go_wp2_with fail
  refine hrow.out.mono ?_
  rintro e w2 ⟨a, cap, rfl, hat, hlen, hb2⟩
  have HE : Hid (rowS S = afterL m.arrows ss word) := rep_row HS.out (inc_afterL word (rowB_inc hr.out))
  rw [HE.out] at hat hlen ⊢
  have HAT := Hid.of hat
  have HLN := Hid.of hlen
  have HB3 := Hid.of (HB2.out.trans (hb2.mono HB2.out.size))
  clear hat hlen hb2
  go_wp2
  refine bodyPost_ret (results_tmp2 rfl _ _ _) rfl ?_
  exact ⟨a, cap, rfl, HAT.out, HLN.out, HB3.out⟩

end Go.Proofs.YtcjcjaeaoianfaaDoor
namespace Go.Proofs.YtcjcjaeaoianfaaDoor
open Go.RowKit
set_option linter.unusedVariables false

set_option maxRecDepth 100000 in
set_option maxHeartbeats 4000000 in
theorem pAccepts_err (m : Mach) (l : ML) (wa : Option Addr) (wc : Nat) (word : List Int) (c : Int) (w : World) (hc : (c == 0) = false)
    (H : Hid (∀ W, Below w.heap.size w W → Calls Tryd.prog 38 #[mval m l, .slice l.a1 m.starts.length l.c1, .slice wa word.length wc] W fun e w' => e = .returned (.tuple #[sval zeroS, .int .i64 c]) ∧ Below W.heap.size W w')) :
    Calls Tryd.prog 14 #[mval m l, .slice wa word.length wc] w fun e w' => e = .returned (.tuple #[.bool false, .int .i64 c]) ∧ Below w.heap.size w w' := by
  have B0 : Hid (Below w.heap.size w (w.alloc (.cells (mcells m l) 25))) := (Below.refl _ _).alloc (Nat.le_refl _) _
  have hc' : (c != 0) = true := by simp only [bne, hc]; rfl
  have hc2 : ¬ c = 0 := by simpa using hc
  go_enter Tryd.func14, Tryd.ntmps14
  go_wp2_with fail
  refine (H.out _ B0.out).mono ?_
  rintro e w1 ⟨rfl, hb1⟩
  have HB := Hid.of (B0.out.trans (hb1.mono B0.out.size))
  clear hb1
  go_wp2
  refine bodyPost_ret (results_tmp2 rfl _ _ _) rfl ?_
  exact ⟨rfl, HB.out.alloc HB.out.size _⟩

set_option maxRecDepth 100000 in
set_option maxHeartbeats 4000000 in
theorem pAccepts_ok (m : Mach) (l : ML) (wa : Option Addr) (wc : Nat) (word : List Int) (w : World) (h : MAt w m l) (hT : Hid (Tab w)) (hm : Hid (mayB m = true)) (hv : Hid (At w wa word)) (hwl : Hid (word.length ≤ maxLen)) (hwd : Hid (wordB m.ev word = true)) :
    Calls Tryd.prog 14 #[mval m l, .slice wa word.length wc] w fun e w' => e = .returned (.tuple #[.bool (acceptsB m word), .int .i64 0]) ∧ Below w.heap.size w w' := by
  have b0 : Below w.heap.size w (w.alloc (.cells (mcells m l) 25)) := (Below.refl _ _).alloc (Nat.le_refl _) _
  have h' := h.below b0 (Nat.le_refl _)
  have l1 : m.starts.length ≤ maxLen := Nat.le_trans h.s1 h.s2
  have l3 : Hid (m.ends.length ≤ maxLen) := Nat.le_trans h.e1 h.e2
  have hcall := Hid.of (after_ok m l l.a1 wa l.c1 wc m.starts word _ h' (Hid.of (hT.out.below b0 hT.out.lt)) hm (Hid.of h'.s) (Hid.of l1) (Hid.of (mayB_starts hm.out)) (Hid.of (hv.out.below b0 (Nat.le_refl _))) hwl hwd)
  have B0 := Hid.of b0
  have HM := Hid.of h
  have K1 := Hid.of (Blk.new w 25 (mcells m l))
  clear b0 h h' l1
  go_enter Tryd.func14, Tryd.ntmps14
  go_wp2_with fail
  refine hcall.out.mono ?_
  rintro e w1 ⟨S, hS, rfl, hb1⟩
  have HB := Hid.of (B0.out.trans (hb1.mono B0.out.size))
  have HS := Hid.of hS
  have k2 := (K1.out.below hb1 K1.out.lt).alloc (.cells (scells S) 55)
  have k3 := Blk.new w1 55 (scells S)
  have KM := Hid.of k2
  have KS := Hid.of k3
  have HB2 : Hid (Below w.heap.size w (w1.alloc (.cells (scells S) 55))) := HB.out.alloc HB.out.size _
  clear hb1 hS hcall k2 k3
  go_wp2_with fail
  revert KM KS HB2
  generalize w1.alloc (.cells (scells S) 55) = V
  intro KM KS HB2
  obtain ⟨c0, c1, c2, c3⟩ := SB.cells KS.out
  have e4 : V.cell? ⟨w.heap.size, 4, none⟩ = some (.slice l.a3 m.ends.length l.c3) := KM.out.cell 4 rfl
  have hle := Hid.of (HM.out.below HB2.out.drew (Nat.le_refl _)).e
  have hbd : Hid (∀ x ∈ m.ends, 0 ≤ x ∧ x < 256) := fun x hx => by
    have h1 := ((goIs_iff _ _ _).1 (mayB_ends hm.out)).2 x hx
    have h2 := mayB_size hm.out
    unfold sizeOk at h2
    omega
  have hE : Hid (Rep (ofS m.ends) m.ends) := by
    have := rep_of hbd.out m.ends.length
    rwa [List.take_of_length_le (Nat.le_refl _)] at this
  go_region_held3 (fun w' => w'.cell? ⟨w1.heap.size, 0, none⟩ = some (.int .u64 (S 0)) ∧ w'.cell? ⟨w1.heap.size, 1, none⟩ = some (.int .u64 (S 1)) ∧ w'.cell? ⟨w1.heap.size, 2, none⟩ = some (.int .u64 (S 2)) ∧ w'.cell? ⟨w1.heap.size, 3, none⟩ = some (.int .u64 (S 3)) ∧ w'.cell? ⟨w.heap.size, 4, none⟩ = some (.slice l.a3 m.ends.length l.c3)) (go_keep) (first | (go_at_call 41; refine (of_any l.a3 l.c3 m.ends _ hle.out l3.out hbd.out).mono ?_; rintro e wO ⟨rfl, hbO⟩; have HBO := Hid.of (HB2.out.drew.trans (hbO.mono HB2.out.size)); have KSO := Hid.of (Blk.below (Blk.drew KS.out) hbO KS.out.lt); have KMO := Hid.of (Blk.below (Blk.drew KM.out) hbO KM.out.lt); obtain ⟨d0, d1, d2, d3⟩ := SB.cells KSO.out; have d4 : wO.cell? ⟨w.heap.size, 4, none⟩ = some (.slice l.a3 m.ends.length l.c3) := KMO.out.cell 4 rfl; clear hbO) | (go_at_call 40; refine (meets_any S (ofS m.ends) _ HS.out.ok hE.out.ok).mono ?_; rintro e wM ⟨rfl, hbM⟩; have HBM := Hid.of (HBO.out.trans (hbM.mono HBO.out.size)); obtain ⟨g0, g1, g2, g3⟩ := SB.cells (Blk.below KSO.out hbM KSO.out.lt); have g4 : wM.cell? ⟨w.heap.size, 4, none⟩ = some (.slice l.a3 m.ends.length l.c3) := (Blk.below KMO.out hbM KMO.out.lt).cell 4 rfl; clear hbM))
  have HF : Hid (meetB S (ofS m.ends) = acceptsB m word) := meet_iff HS.out hE.out
  go_wp2
  refine bodyPost_ret (results_tmp2 rfl _ _ _) rfl ?_
  exact ⟨by rw [← HF.out]; rfl, HBM.out⟩

end Go.Proofs.YtcjcjaeaoianfaaDoor
namespace Go.Proofs.YtcjcjaeaoianfaaDoor
open Go.RowKit
set_option linter.unusedVariables false

set_option maxHeartbeats 400000 in
theorem refAhead_any (a b : Arr) (w : World) :
    Calls Tryd.prog 37 #[.agg #[.int .i64 a.f, .int .i64 a.e, .int .i64 a.t], .agg #[.int .i64 b.f, .int .i64 b.e, .int .i64 b.t]] w fun e w' => e = .returned (.bool (aheadB a b)) ∧ Below w.heap.size w w' := by
  obtain ⟨af, ae, at'⟩ := a
  obtain ⟨bf, be, bt⟩ := b
  by_cases h1 : af = bf
  · have d1 : (af != bf) = false := by simp [h1]
    have H1 : Hid (af = bf) := h1
    clear h1
    by_cases h2 : ae = be
    · have d2 : (ae != be) = false := by simp [h2]
      have H2 : Hid (ae = be) := h2
      clear h2
      go_enter Tryd.func37, Tryd.ntmps37
      go_wp2
      go_ret
      exact ⟨ret_bool (by simp [aheadB, H1.out, H2.out]), ((Below.refl _ _).alloc (Nat.le_refl _) _).alloc (by simp) _⟩
    · have d2 : (ae != be) = true := by simp [h2]
      go_enter Tryd.func37, Tryd.ntmps37
      go_wp2
      go_ret
      exact ⟨ret_bool (by simp [aheadB, H1.out, h2]), ((Below.refl _ _).alloc (Nat.le_refl _) _).alloc (by simp) _⟩
  · have d1 : (af != bf) = true := by simp [h1]
    go_enter Tryd.func37, Tryd.ntmps37
    go_wp2
    go_ret
    exact ⟨ret_bool (by simp [aheadB, h1]), ((Below.refl _ _).alloc (Nat.le_refl _) _).alloc (by simp) _⟩

theorem below_call {B n : Nat} {W0 wr w1 : World} {o : Obj} (h : Below B W0 wr) (hB : B ≤ wr.heap.size) (h1 : Below n ((wr.alloc o).drew) w1) (hn : B ≤ n) : Below B W0 w1 :=
  (h.alloc hB o).drew.trans (h1.mono hn)

end Go.Proofs.YtcjcjaeaoianfaaDoor
