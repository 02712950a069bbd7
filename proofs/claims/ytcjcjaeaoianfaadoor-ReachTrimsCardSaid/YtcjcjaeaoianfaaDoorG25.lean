/-
  The walk of machine.Accepts.
  The walk of the law ReachTrims.
-/
import Derived.Test.YtcjcjaeaoianfaaDoorCAfterOk
import Derived.Test.YtcjcjaeaoianfaaDoorG11
import Derived.Test.YtcjcjaeaoianfaaDoorG19
namespace Go.Proofs.YtcjcjaeaoianfaaDoor
open Go.RowKit
set_option linter.unusedVariables false

set_option maxRecDepth 100000 in
set_option maxHeartbeats 4000000 in
theorem pAccepts_err (m : Mach) (l : ML) (wa : Option Addr) (wc : Nat) (word : List Int) (c : Int) (w : World) (hc : (c == 0) = false)
    (H : Hid (∀ W, Below w.heap.size w W → Calls Tryd.prog 38 #[mval m l, .slice l.a1 m.starts.length l.c1, .slice wa word.length wc] W fun e w' => e = .returned (.tuple #[sval zeroS, .int .i64 c]) ∧ Below W.heap.size W w')) :
    Calls Tryd.prog 14 #[mval m l, .slice wa word.length wc] w fun e w' => e = .returned (.tuple #[.bool false, .int .i64 c]) ∧ Below w.heap.size w w' := by
  have B0 : Hid (Below w.heap.size w (w.alloc (.cells (mcells m l) 25))) := (Below.refl _ _).alloc (Nat.le_refl _) _
  have hc' : (c != 0) = true := by simp only [bne, hc]; rfl
  have hc2 : ¬ c = 0 := by simpa using hc
  go_enter Tryd.func14, Tryd.ntmps14
  go_wp2_with fail
  refine (H.out _ B0.out).mono ?_
  rintro e w1 ⟨rfl, hb1⟩
  have HB := Hid.of (B0.out.trans (hb1.mono B0.out.size))
  clear hb1
  go_wp2
  refine bodyPost_ret (results_tmp2 rfl _ _ _) rfl ?_
  exact ⟨rfl, HB.out.alloc HB.out.size _⟩

set_option maxRecDepth 100000 in
set_option maxHeartbeats 4000000 in
theorem pAccepts_ok (m : Mach) (l : ML) (wa : Option Addr) (wc : Nat) (word : List Int) (w : World) (h : MAt w m l) (hT : Hid (Tab w)) (hm : Hid (mayB m = true)) (hv : Hid (At w wa word)) (hwl : Hid (word.length ≤ maxLen)) (hwd : Hid (wordB m.ev word = true)) :
    Calls Tryd.prog 14 #[mval m l, .slice wa word.length wc] w fun e w' => e = .returned (.tuple #[.bool (acceptsB m word), .int .i64 0]) ∧ Below w.heap.size w w' := by
  have b0 : Below w.heap.size w (w.alloc (.cells (mcells m l) 25)) := (Below.refl _ _).alloc (Nat.le_refl _) _
  have h' := h.below b0 (Nat.le_refl _)
  have l1 : m.starts.length ≤ maxLen := Nat.le_trans h.s1 h.s2
  have l3 : Hid (m.ends.length ≤ maxLen) := Nat.le_trans h.e1 h.e2
  have hcall := Hid.of (after_ok m l l.a1 wa l.c1 wc m.starts word _ h' (Hid.of (hT.out.below b0 hT.out.lt)) hm (Hid.of h'.s) (Hid.of l1) (Hid.of (mayB_starts hm.out)) (Hid.of (hv.out.below b0 (Nat.le_refl _))) hwl hwd)
  have B0 := Hid.of b0
  have HM := Hid.of h
  have K1 := Hid.of (Blk.new w 25 (mcells m l))
  clear b0 h h' l1
  go_enter Tryd.func14, Tryd.ntmps14
  go_wp2_with fail
  refine hcall.out.mono ?_
  rintro e w1 ⟨S, hS, rfl, hb1⟩
  have HB := Hid.of (B0.out.trans (hb1.mono B0.out.size))
  have HS := Hid.of hS
  have k2 := (K1.out.below hb1 K1.out.lt).alloc (.cells (scells S) 55)
  have k3 := Blk.new w1 55 (scells S)
  have KM := Hid.of k2
  have KS := Hid.of k3
  have HB2 : Hid (Below w.heap.size w (w1.alloc (.cells (scells S) 55))) := HB.out.alloc HB.out.size _
  clear hb1 hS hcall k2 k3
  go_wp2_with fail
  revert KM KS HB2
  generalize w1.alloc (.cells (scells S) 55) = V
  intro KM KS HB2
  obtain ⟨c0, c1, c2, c3⟩ := SB.cells KS.out
  have e4 : V.cell? ⟨w.heap.size, 4, none⟩ = some (.slice l.a3 m.ends.length l.c3) := KM.out.cell 4 rfl
  have hle := Hid.of (HM.out.below HB2.out.drew (Nat.le_refl _)).e
  have hbd : Hid (∀ x ∈ m.ends, 0 ≤ x ∧ x < 256) := fun x hx => by
    have h1 := ((goIs_iff _ _ _).1 (mayB_ends hm.out)).2 x hx
    have h2 := mayB_size hm.out
    unfold sizeOk at h2
    omega
  have hE : Hid (Rep (ofS m.ends) m.ends) := by
    have := rep_of hbd.out m.ends.length
    rwa [List.take_of_length_le (Nat.le_refl _)] at this
  go_region_held3 (fun w' => w'.cell? ⟨w1.heap.size, 0, none⟩ = some (.int .u64 (S 0)) ∧ w'.cell? ⟨w1.heap.size, 1, none⟩ = some (.int .u64 (S 1)) ∧ w'.cell? ⟨w1.heap.size, 2, none⟩ = some (.int .u64 (S 2)) ∧ w'.cell? ⟨w1.heap.size, 3, none⟩ = some (.int .u64 (S 3)) ∧ w'.cell? ⟨w.heap.size, 4, none⟩ = some (.slice l.a3 m.ends.length l.c3)) (go_keep) (first | (go_at_call 41; refine (of_any l.a3 l.c3 m.ends _ hle.out l3.out hbd.out).mono ?_; rintro e wO ⟨rfl, hbO⟩; have HBO := Hid.of (HB2.out.drew.trans (hbO.mono HB2.out.size)); have KSO := Hid.of (Blk.below (Blk.drew KS.out) hbO KS.out.lt); have KMO := Hid.of (Blk.below (Blk.drew KM.out) hbO KM.out.lt); obtain ⟨d0, d1, d2, d3⟩ := SB.cells KSO.out; have d4 : wO.cell? ⟨w.heap.size, 4, none⟩ = some (.slice l.a3 m.ends.length l.c3) := KMO.out.cell 4 rfl; clear hbO) | (go_at_call 40; refine (meets_any S (ofS m.ends) _ HS.out.ok hE.out.ok).mono ?_; rintro e wM ⟨rfl, hbM⟩; have HBM := Hid.of (HBO.out.trans (hbM.mono HBO.out.size)); obtain ⟨g0, g1, g2, g3⟩ := SB.cells (Blk.below KSO.out hbM KSO.out.lt); have g4 : wM.cell? ⟨w.heap.size, 4, none⟩ = some (.slice l.a3 m.ends.length l.c3) := (Blk.below KMO.out hbM KMO.out.lt).cell 4 rfl; clear hbM))
  have HF : Hid (meetB S (ofS m.ends) = acceptsB m word) := meet_iff HS.out hE.out
  go_wp2
  refine bodyPost_ret (results_tmp2 rfl _ _ _) rfl ?_
  exact ⟨by rw [← HF.out]; rfl, HBM.out⟩

end Go.Proofs.YtcjcjaeaoianfaaDoor
namespace Go.Proofs.YtcjcjaeaoianfaaDoor
open Go.RowKit
set_option linter.unusedVariables false

/-- What Accepts answers of a machine that may be, and of whatever word. -/
def accB (m : Mach) (word : List Int) : Bool := wordB m.ev word && acceptsB m word
def accC (m : Mach) (word : List Int) : Int := if wordB m.ev word = true then 0 else 6
theorem pAcc_any (m : Mach) (l : ML) (wa : Option Addr) (wc : Nat) (word : List Int) (w : World) (h : MAt w m l) (hT : Tab w) (hm : mayB m = true) (hv : At w wa word) (hwl : word.length ≤ maxLen) :
    Calls Tryd.prog 14 #[mval m l, .slice wa word.length wc] w fun e w' => e = .returned (.tuple #[.bool (accB m word), .int .i64 (accC m word)]) ∧ Below w.heap.size w w' := by
  unfold accB accC
  cases hw : wordB m.ev word with
  | true => exact pAccepts_ok m l wa wc word w h hT hm hv hwl hw
  | false =>
    exact pAccepts_err m l wa wc word 6 w rfl (fun W hW => after_range m l l.a1 wa l.c1 wc m.starts word W (h.below hW (Nat.le_refl _)) hm (h.below hW (Nat.le_refl _)).s (Nat.le_trans h.s1 h.s2) (mayB_starts hm) (hv.below hW (Nat.le_refl _)) hwl hw)
theorem acc_trim {m : Mach} (hm : mayB m = true) (word : List Int) : accB (trimM m) word = accB m word ∧ accC (trimM m) word = accC m word := by
  unfold accB accC
  rw [trim_accepts hm word]
  exact ⟨rfl, rfl⟩
theorem trim_st {m : Mach} (hm : mayB m = true) : 0 < (trimM m).st := by
  have := mayB_size (may_trim hm)
  unfold sizeOk at this
  omega

set_option maxRecDepth 100000 in
set_option maxHeartbeats 4000000 in
theorem rtrims_no (m : Mach) (l : ML) (wa : Option Addr) (wc : Nat) (word : List Int) (w : World) (h : Hid (MAt w m l)) (hm : Hid (mayB m = false)) :
    Calls Tryd.prog 5 #[mval m l, .slice wa word.length wc] w fun e w' => e = .returned (.bool true) ∧ Below w.heap.size w w' := by
  have B0 : Hid (Below w.heap.size w (w.alloc (.cells (mcells m l) 25))) := (Below.refl _ _).alloc (Nat.le_refl _) _
  have K0 := Hid.of (Blk.new w 25 (mcells m l))
  go_enter Tryd.func5, Tryd.ntmps5
  go_wp2_with fail
  refine (pTrim_err m l _ (h.out.below B0.out (Nat.le_refl _)) hm.out).mono ?_
  rintro e w1 ⟨rfl, hb⟩
  have B1 := Hid.of (B0.out.trans (hb.mono B0.out.size))
  have K1 := Hid.of (K0.out.below hb K0.out.lt)
  have B2 : Hid (Below w.heap.size w (w1.alloc (.cells (mcells m0 ml0) 25))) := B1.out.alloc B1.out.size _
  have kl := K1.out.lt
  clear hb
  obtain ⟨x0, x1, x2, x3, x4⟩ := mcell_at K1.out
  go_wp2_with fail
  refine (pMay_any m l _ (h.out.below B2.out (Nat.le_refl _))).mono ?_
  rintro e w3 ⟨rfl, hb⟩
  have B3 := Hid.of (B2.out.trans (hb.mono B2.out.size))
  clear hb
  rw [hm.out]
  go_wp2_with fail
  go_ret
  exact ⟨rfl, B3.out⟩

set_option maxRecDepth 100000 in
set_option maxHeartbeats 4000000 in
theorem rtrims_yes (m : Mach) (l : ML) (wa : Option Addr) (wc : Nat) (word : List Int) (w : World) (hT : Hid (Tab w)) (h : Hid (MAt w m l)) (hv : Hid (At w wa word)) (hwl : Hid (word.length ≤ maxLen)) (hm : Hid (mayB m = true)) :
    Calls Tryd.prog 5 #[mval m l, .slice wa word.length wc] w fun e w' => e = .returned (.bool true) ∧ Below w.heap.size w w' := by
  have B0 : Hid (Below w.heap.size w (w.alloc (.cells (mcells m l) 25))) := (Below.refl _ _).alloc (Nat.le_refl _) _
  have K0 := Hid.of (Blk.new w 25 (mcells m l))
  go_enter Tryd.func5, Tryd.ntmps5
  go_wp2_with fail
  refine (pTrim_ok m l _ (h.out.below B0.out (Nat.le_refl _)) hm.out (hT.out.below B0.out hT.out.lt)).mono ?_
  rintro e w1 ⟨L, ba, bc, rfl, mt1, -, -, hb⟩
  have B1 := Hid.of (B0.out.trans (hb.mono B0.out.size))
  have K1 := Hid.of (K0.out.below hb K0.out.lt)
  have kl := K1.out.lt
  have b2 : Below w1.heap.size w1 (w1.alloc (.cells (mcells (trimM m) L) 25)) := (Below.refl _ _).alloc (Nat.le_refl _) _
  have B2 := Hid.of (B1.out.trans (b2.mono B1.out.size))
  have N2 := Hid.of (Blk.new w1 25 (mcells (trimM m) L))
  have M2 := Hid.of (mt1.below b2 (Nat.le_refl _))
  clear hb b2 mt1
  obtain ⟨x0, x1, x2, x3, x4⟩ := mcell_at K1.out
  go_wp2_with fail
  revert B2 N2 M2
  show Hid (Below w.heap.size w (w1.alloc (.cells #[.int .i64 (trimM m).st, .int .i64 (trimM m).ev, .slice L.a1 (trimM m).starts.length L.c1, .slice L.a2 (trimM m).arrows.length L.c2, .slice L.a3 (trimM m).ends.length L.c3] 25))) → _
  generalize w1.alloc (.cells #[.int .i64 (trimM m).st, .int .i64 (trimM m).ev, .slice L.a1 (trimM m).starts.length L.c1, .slice L.a2 (trimM m).arrows.length L.c2, .slice L.a3 (trimM m).ends.length L.c3] 25) = w2
  intro B2 N2 M2
  refine (pAcc_any m l wa wc word _ (h.out.below B2.out (Nat.le_refl _)) (hT.out.below B2.out hT.out.lt) hm.out (hv.out.below B2.out (Nat.le_refl _)) hwl.out).mono ?_
  rintro e w3 ⟨rfl, hb⟩
  have B3 := Hid.of (B2.out.trans (hb.mono B2.out.size))
  have N3 := Hid.of (N2.out.below hb N2.out.lt)
  have M3 := Hid.of (M2.out.below hb (Nat.le_refl _))
  clear hb x0 x1 x2 x3 x4
  obtain ⟨x0, x1, x2, x3, x4⟩ := mcell_at N3.out
  go_wp2_with fail
  refine (pAcc_any (trimM m) L wa wc word _ M3.out (hT.out.below B3.out hT.out.lt) (may_trim hm.out) (hv.out.below B3.out (Nat.le_refl _)) hwl.out).mono ?_
  rintro e w4 ⟨rfl, hb⟩
  have B4 := Hid.of (B3.out.trans (hb.mono B3.out.size))
  have N4 := Hid.of (N3.out.below hb N3.out.lt)
  clear hb x0 x1 x2 x3 x4
  have n0 : w4.cell? ⟨w1.heap.size, 0, none⟩ = some (.int .i64 (trimM m).st) := N4.out.cell 0 rfl
  have ht := trim_st hm.out
  rw [(acc_trim hm.out word).1, (acc_trim hm.out word).2]
  go_wp2_with fail
  go_ret
  exact ⟨rfl, B4.out⟩

theorem rtrims_any (m : Mach) (l : ML) (wa : Option Addr) (wc : Nat) (word : List Int) (w : World) (hT : Tab w) (h : MAt w m l) (hv : At w wa word) (hwl : word.length ≤ maxLen) :
    Calls Tryd.prog 5 #[mval m l, .slice wa word.length wc] w fun e w' => e = .returned (.bool true) ∧ Below w.heap.size w w' := by
  cases hm : mayB m with
  | false => exact rtrims_no m l wa wc word w h hm
  | true => exact rtrims_yes m l wa wc word w hT h hv hwl hm

end Go.Proofs.YtcjcjaeaoianfaaDoor
