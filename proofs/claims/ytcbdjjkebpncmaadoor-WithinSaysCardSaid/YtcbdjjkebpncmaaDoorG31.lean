/-
  The walk of machine.Accepts.
  The walks of machine.After and machine.Accepts.
  machine.Accepts and machine.After, of what may be and any word.
  The walk of jalousiekeep.lesser: which of two lists is the lesser one (G1).
  The walk of the law WithinSays.
-/
import Derived.Test.YtcbdjjkebpncmaaDoorCAfterOk
import Derived.Test.YtcbdjjkebpncmaaDoorG19
import Derived.Test.YtcbdjjkebpncmaaDoorG06
import Derived.Test.YtcbdjjkebpncmaaDoorG05
import Derived.Test.YtcbdjjkebpncmaaDoorG04
import Derived.Deep.QuietTactic
import Derived.BigQuiet
import Derived.Test.YtcbdjjkebpncmaaDoorG29
namespace Go.Proofs.YtcbdjjkebpncmaaDoor
open Go.RowKit
set_option linter.unusedVariables false

set_option maxRecDepth 100000 in
set_option maxHeartbeats 4000000 in
theorem pAccepts_err (m : Mach) (l : ML) (wa : Option Addr) (wc : Nat) (word : List Int) (c : Int) (w : World) (hc : (c == 0) = false)
    (H : Hid (∀ W, Below w.heap.size w W → Calls Tryd.prog 33 #[mval m l, .slice l.a1 m.starts.length l.c1, .slice wa word.length wc] W fun e w' => e = .returned (.tuple #[sval zeroS, .int .i64 c]) ∧ Below W.heap.size W w')) :
    Calls Tryd.prog 13 #[mval m l, .slice wa word.length wc] w fun e w' => e = .returned (.tuple #[.bool false, .int .i64 c]) ∧ Below w.heap.size w w' := by
  have B0 : Hid (Below w.heap.size w (w.alloc (.cells (mcells m l) 25))) := (Below.refl _ _).alloc (Nat.le_refl _) _
  have hc' : (c != 0) = true := by simp only [bne, hc]; rfl
  have hc2 : ¬ c = 0 := by simpa using hc
  go_enter Tryd.func13, Tryd.ntmps13
  go_wp2_with fail
  refine (H.out _ B0.out).mono ?_
  rintro e w1 ⟨rfl, hb1⟩
  have HB := Hid.of (B0.out.trans (hb1.mono B0.out.size))
  clear hb1
  go_wp2
  refine bodyPost_ret (results_tmp2 rfl _ _ _) rfl ?_
  exact ⟨rfl, HB.out.alloc HB.out.size _⟩

set_option maxRecDepth 100000 in
set_option maxHeartbeats 4000000 in
theorem pAccepts_ok (m : Mach) (l : ML) (wa : Option Addr) (wc : Nat) (word : List Int) (w : World) (h : MAt w m l) (hT : Hid (Tab w)) (hm : Hid (mayB m = true)) (hv : Hid (At w wa word)) (hwl : Hid (word.length ≤ maxLen)) (hwd : Hid (wordB m.ev word = true)) :
    Calls Tryd.prog 13 #[mval m l, .slice wa word.length wc] w fun e w' => e = .returned (.tuple #[.bool (acceptsB m word), .int .i64 0]) ∧ Below w.heap.size w w' := by
  have b0 : Below w.heap.size w (w.alloc (.cells (mcells m l) 25)) := (Below.refl _ _).alloc (Nat.le_refl _) _
  have h' := h.below b0 (Nat.le_refl _)
  have l1 : m.starts.length ≤ maxLen := Nat.le_trans h.s1 h.s2
  have l3 : Hid (m.ends.length ≤ maxLen) := Nat.le_trans h.e1 h.e2
  have hcall := Hid.of (after_ok m l l.a1 wa l.c1 wc m.starts word _ h' (Hid.of (hT.out.below b0 hT.out.lt)) hm (Hid.of h'.s) (Hid.of l1) (Hid.of (mayB_starts hm.out)) (Hid.of (hv.out.below b0 (Nat.le_refl _))) hwl hwd)
  have B0 := Hid.of b0
  have HM := Hid.of h
  have K1 := Hid.of (Blk.new w 25 (mcells m l))
  clear b0 h h' l1
  go_enter Tryd.func13, Tryd.ntmps13
  go_wp2_with fail
  refine hcall.out.mono ?_
  rintro e w1 ⟨S, hS, rfl, hb1⟩
  have HB := Hid.of (B0.out.trans (hb1.mono B0.out.size))
  have HS := Hid.of hS
  have k2 := (K1.out.below hb1 K1.out.lt).alloc (.cells (scells S) 56)
  have k3 := Blk.new w1 56 (scells S)
  have KM := Hid.of k2
  have KS := Hid.of k3
  have HB2 : Hid (Below w.heap.size w (w1.alloc (.cells (scells S) 56))) := HB.out.alloc HB.out.size _
  clear hb1 hS hcall k2 k3
  go_wp2_with fail
  revert KM KS HB2
  generalize w1.alloc (.cells (scells S) 56) = V
  intro KM KS HB2
  obtain ⟨c0, c1, c2, c3⟩ := SB.cells KS.out
  have e4 : V.cell? ⟨w.heap.size, 4, none⟩ = some (.slice l.a3 m.ends.length l.c3) := KM.out.cell 4 rfl
  have hle := Hid.of (HM.out.below HB2.out.drew (Nat.le_refl _)).e
  have hbd : Hid (∀ x ∈ m.ends, 0 ≤ x ∧ x < 256) := fun x hx => by
    have h1 := ((goIs_iff _ _ _).1 (mayB_ends hm.out)).2 x hx
    have h2 := mayB_size hm.out
    unfold sizeOk at h2
    omega
  have hE : Hid (Rep (ofS m.ends) m.ends) := by
    have := rep_of hbd.out m.ends.length
    rwa [List.take_of_length_le (Nat.le_refl _)] at this
  go_region_held3 (fun w' => w'.cell? ⟨w1.heap.size, 0, none⟩ = some (.int .u64 (S 0)) ∧ w'.cell? ⟨w1.heap.size, 1, none⟩ = some (.int .u64 (S 1)) ∧ w'.cell? ⟨w1.heap.size, 2, none⟩ = some (.int .u64 (S 2)) ∧ w'.cell? ⟨w1.heap.size, 3, none⟩ = some (.int .u64 (S 3)) ∧ w'.cell? ⟨w.heap.size, 4, none⟩ = some (.slice l.a3 m.ends.length l.c3)) (go_keep) (first | (go_at_call 36; refine (of_any l.a3 l.c3 m.ends _ hle.out l3.out hbd.out).mono ?_; rintro e wO ⟨rfl, hbO⟩; have HBO := Hid.of (HB2.out.drew.trans (hbO.mono HB2.out.size)); have KSO := Hid.of (Blk.below (Blk.drew KS.out) hbO KS.out.lt); have KMO := Hid.of (Blk.below (Blk.drew KM.out) hbO KM.out.lt); obtain ⟨d0, d1, d2, d3⟩ := SB.cells KSO.out; have d4 : wO.cell? ⟨w.heap.size, 4, none⟩ = some (.slice l.a3 m.ends.length l.c3) := KMO.out.cell 4 rfl; clear hbO) | (go_at_call 35; refine (meets_any S (ofS m.ends) _ HS.out.ok hE.out.ok).mono ?_; rintro e wM ⟨rfl, hbM⟩; have HBM := Hid.of (HBO.out.trans (hbM.mono HBO.out.size)); obtain ⟨g0, g1, g2, g3⟩ := SB.cells (Blk.below KSO.out hbM KSO.out.lt); have g4 : wM.cell? ⟨w.heap.size, 4, none⟩ = some (.slice l.a3 m.ends.length l.c3) := (Blk.below KMO.out hbM KMO.out.lt).cell 4 rfl; clear hbM))
  have HF : Hid (meetB S (ofS m.ends) = acceptsB m word) := meet_iff HS.out hE.out
  go_wp2
  refine bodyPost_ret (results_tmp2 rfl _ _ _) rfl ?_
  exact ⟨by rw [← HF.out]; rfl, HBM.out⟩

end Go.Proofs.YtcbdjjkebpncmaaDoor
namespace Go.Proofs.YtcbdjjkebpncmaaDoor
open Go.RowKit
set_option linter.unusedVariables false

theorem inc_afterL {ars : List Arr} : ∀ (word : List Int) {ss : List Int}, Inc ss → Inc (afterL ars ss word)
  | [], _, h => h
  | e :: r, ss, _ => inc_afterL r (show Inc (stepL ars ss e) from inc_srt _)

/-- What machine.After leaves where nothing is wrong. -/
def AftGives (w : World) (L : List Int) (e : Ending) (w' : World) : Prop := ∃ a cap, e = .returned (.tuple #[.slice a L.length cap, .int .i64 0]) ∧ At w' a L ∧ L.length ≤ maxLen ∧ Below w.heap.size w w'

set_option maxRecDepth 100000 in
set_option maxHeartbeats 4000000 in
theorem pAfter_err (m : Mach) (l : ML) (sa wa : Option Addr) (sc wc : Nat) (ss word : List Int) (c : Int) (w : World) (hc : (c == 0) = false)
    (H : Hid (∀ W, Below w.heap.size w W → Calls Tryd.prog 33 #[mval m l, .slice sa ss.length sc, .slice wa word.length wc] W fun e w' => e = .returned (.tuple #[sval zeroS, .int .i64 c]) ∧ Below W.heap.size W w')) :
    Calls Tryd.prog 12 #[mval m l, .slice sa ss.length sc, .slice wa word.length wc] w fun e w' => e = .returned (.tuple #[.slice none 0 0, .int .i64 c]) ∧ Below w.heap.size w w' := by
  have B0 : Hid (Below w.heap.size w (w.alloc (.cells (mcells m l) 25))) := (Below.refl _ _).alloc (Nat.le_refl _) _
  have hc' : (c != 0) = true := by simp only [bne, hc]; rfl
  have hc2 : ¬ c = 0 := by simpa using hc
  go_enter Tryd.func12, Tryd.ntmps12
  go_wp2_with fail
  refine (H.out _ B0.out).mono ?_
  rintro e w1 ⟨rfl, hb1⟩
  have HB := Hid.of (B0.out.trans (hb1.mono B0.out.size))
  clear hb1
  go_wp2
  refine bodyPost_ret (results_tmp2 rfl _ _ _) rfl ?_
  exact ⟨rfl, HB.out.alloc HB.out.size _⟩

set_option maxRecDepth 100000 in
set_option maxHeartbeats 4000000 in
theorem pAfter_ok (m : Mach) (l : ML) (sa wa : Option Addr) (sc wc : Nat) (ss word : List Int) (w : World) (h : MAt w m l) (hT : Hid (Tab w)) (hm : Hid (mayB m = true)) (hs : Hid (At w sa ss)) (hl : Hid (ss.length ≤ maxLen)) (hr : Hid (rowB m.st ss = true)) (hv : Hid (At w wa word)) (hwl : Hid (word.length ≤ maxLen)) (hwd : Hid (wordB m.ev word = true)) :
    Calls Tryd.prog 12 #[mval m l, .slice sa ss.length sc, .slice wa word.length wc] w fun e w' => AftGives w (afterL m.arrows ss word) e w' := by
  have b0 : Below w.heap.size w (w.alloc (.cells (mcells m l) 25)) := (Below.refl _ _).alloc (Nat.le_refl _) _
  have hcall := Hid.of (after_ok m l sa wa sc wc ss word _ (h.below b0 (Nat.le_refl _)) (Hid.of (hT.out.below b0 hT.out.lt)) hm (Hid.of (hs.out.below b0 (Nat.le_refl _))) hl hr (Hid.of (hv.out.below b0 (Nat.le_refl _))) hwl hwd)
  have B0 := Hid.of b0
  clear b0 h
  go_enter Tryd.func12, Tryd.ntmps12
  go_wp2_with fail
  refine hcall.out.mono ?_
  rintro e w1 ⟨S, hS, rfl, hb1⟩
  have HB := Hid.of (B0.out.trans (hb1.mono B0.out.size))
  have HS := Hid.of hS
  have HB2 : Hid (Below w.heap.size w (w1.alloc (.cells (scells S) 56))) := HB.out.alloc HB.out.size _
  have hrow := Hid.of (row_any S (w1.alloc (.cells (scells S) 56)) hS.ok (hT.out.below HB2.out hT.out.lt))
  clear hb1 hS hcall
  go_wp2_with fail
  refine hrow.out.mono ?_
  rintro e w2 ⟨a, cap, rfl, hat, hlen, hb2⟩
  have HE : Hid (rowS S = afterL m.arrows ss word) := rep_row HS.out (inc_afterL word (rowB_inc hr.out))
  rw [HE.out] at hat hlen ⊢
  have HAT := Hid.of hat
  have HLN := Hid.of hlen
  have HB3 := Hid.of (HB2.out.trans (hb2.mono HB2.out.size))
  clear hat hlen hb2
  go_wp2
  refine bodyPost_ret (results_tmp2 rfl _ _ _) rfl ?_
  exact ⟨a, cap, rfl, HAT.out, HLN.out, HB3.out⟩

end Go.Proofs.YtcbdjjkebpncmaaDoor
namespace Go.Proofs.YtcbdjjkebpncmaaDoor
open Go.RowKit
set_option linter.unusedVariables false

theorem accepts_any (m : Mach) (l : ML) (wa : Option Addr) (wc : Nat) (word : List Int) (w : World) (h : MAt w m l) (hT : Tab w) (hm : mayB m = true) (hv : At w wa word) (hwl : word.length ≤ maxLen) :
    Calls Tryd.prog 13 #[mval m l, .slice wa word.length wc] w fun e w' => e = .returned (.tuple #[.bool (wordB m.ev word && acceptsB m word), .int .i64 (if wordB m.ev word = true then 0 else 6)]) ∧ Below w.heap.size w w' := by
  cases hw : wordB m.ev word with
  | true => simpa using pAccepts_ok m l wa wc word w h hT hm hv hwl hw
  | false => simpa using pAccepts_err m l wa wc word 6 w rfl (fun W hW => after_range m l l.a1 wa l.c1 wc m.starts word W (h.below hW (Nat.le_refl _)) hm (h.below hW (Nat.le_refl _)).s (Nat.le_trans h.s1 h.s2) (mayB_starts hm) (hv.below hW (Nat.le_refl _)) hwl hw)

/-- What machine.After answers. -/
def aftO (m : Mach) (ss word : List Int) : List Int := if wordB m.ev word = true then afterL m.arrows ss word else []
theorem after_any (m : Mach) (l : ML) (sa wa : Option Addr) (sc wc : Nat) (ss word : List Int) (w : World) (h : MAt w m l) (hT : Tab w) (hm : mayB m = true) (hs : At w sa ss) (hl : ss.length ≤ maxLen) (hr : rowB m.st ss = true) (hv : At w wa word) (hwl : word.length ≤ maxLen) :
    Calls Tryd.prog 12 #[mval m l, .slice sa ss.length sc, .slice wa word.length wc] w fun e w' => ∃ a cap, e = .returned (.tuple #[.slice a (aftO m ss word).length cap, .int .i64 (if wordB m.ev word = true then 0 else 6)]) ∧ At w' a (aftO m ss word) ∧ (aftO m ss word).length ≤ maxLen ∧ Below w.heap.size w w' := by
  unfold aftO
  cases hw : wordB m.ev word with
  | true =>
    refine (pAfter_ok m l sa wa sc wc ss word w h hT hm hs hl hr hv hwl hw).mono fun e w' h => ?_
    obtain ⟨a, cap, h1, h2, h3, h4⟩ := h
    exact ⟨a, cap, h1, h2, h3, h4⟩
  | false =>
    refine (pAfter_err m l sa wa sc wc ss word 6 w rfl (fun W hW => after_range m l sa wa sc wc ss word W (h.below hW (Nat.le_refl _)) hm (hs.below hW (Nat.le_refl _)) hl hr (hv.below hW (Nat.le_refl _)) hwl hw)).mono fun e w' h => ?_
    exact ⟨none, 0, h.1, .inl rfl, Nat.zero_le _, h.2⟩

theorem accepts_yes (m : Mach) (l : ML) (wa : Option Addr) (wc : Nat) (word : List Int) (w : World) (h : MAt w m l) (hT : Tab w) (hm : mayB m = true) (hv : At w wa word) (hwl : word.length ≤ maxLen) (hw : wordB m.ev word = true) :
    Calls Tryd.prog 13 #[mval m l, .slice wa word.length wc] w fun e w' => e = .returned (.tuple #[.bool (acceptsB m word), .int .i64 0]) ∧ Below w.heap.size w w' := pAccepts_ok m l wa wc word w h hT hm hv hwl hw
theorem accepts_no (m : Mach) (l : ML) (wa : Option Addr) (wc : Nat) (word : List Int) (w : World) (h : MAt w m l) (hm : mayB m = true) (hv : At w wa word) (hwl : word.length ≤ maxLen) (hw : wordB m.ev word = false) :
    Calls Tryd.prog 13 #[mval m l, .slice wa word.length wc] w fun e w' => e = .returned (.tuple #[.bool false, .int .i64 6]) ∧ Below w.heap.size w w' := pAccepts_err m l wa wc word 6 w rfl (fun W hW => after_range m l l.a1 wa l.c1 wc m.starts word W (h.below hW (Nat.le_refl _)) hm (h.below hW (Nat.le_refl _)).s (Nat.le_trans h.s1 h.s2) (mayB_starts hm) (hv.below hW (Nat.le_refl _)) hwl hw)
theorem after_no (m : Mach) (l : ML) (sa wa : Option Addr) (sc wc : Nat) (ss word : List Int) (w : World) (h : MAt w m l) (hm : mayB m = true) (hs : At w sa ss) (hl : ss.length ≤ maxLen) (hr : rowB m.st ss = true) (hv : At w wa word) (hwl : word.length ≤ maxLen) (hw : wordB m.ev word = false) :
    Calls Tryd.prog 12 #[mval m l, .slice sa ss.length sc, .slice wa word.length wc] w fun e w' => e = .returned (.tuple #[.slice none 0 0, .int .i64 6]) ∧ Below w.heap.size w w' :=
  pAfter_err m l sa wa sc wc ss word 6 w rfl (fun W hW => after_range m l sa wa sc wc ss word W (h.below hW (Nat.le_refl _)) hm (hs.below hW (Nat.le_refl _)) hl hr (hv.below hW (Nat.le_refl _)) hwl hw)

end Go.Proofs.YtcbdjjkebpncmaaDoor
namespace Go.Proofs.YtcbdjjkebpncmaaDoor
open Go.RowKit
set_option linter.unusedVariables false

theorem lessB_len_ne {xs ys : List Int} (h : ¬ xs.length = ys.length) : lessB xs ys = decide (xs.length < ys.length) := by unfold lessB; rw [if_neg h]
theorem less_cast {xs ys : List Int} (h : ¬ xs.length = ys.length) : decide ((xs.length : Int) < (ys.length : Int)) = lessB xs ys := by
  rw [lessB_len_ne h]; exact decide_eq_decide.2 (by omega)
theorem dropG {l : List Int} {k : Nat} (h : k < l.length) : l.drop k = (l[k]?.getD 0) :: l.drop (k + 1) := by
  rw [List.drop_eq_getElem_cons h, List.getElem?_eq_getElem h, Option.getD_some]
theorem lex_no {xs ys : List Int} {k : Nat} {x y : Int} (hl : Hid (xs.length = ys.length)) (h1 : k < xs.length) (h2 : k < ys.length) (hx : Hid (x = xs[k]?.getD 0)) (hy : Hid (y = ys[k]?.getD 0)) (h : ¬ x = y) (e : Hid (lexB xs ys = lexB (xs.drop k) (ys.drop k))) : decide (x < y) = lessB xs ys := by
  unfold lessB; rw [if_pos hl.out, e.out, dropG h1, dropG h2, ← hx.out, ← hy.out, lexB, if_neg h]
theorem lex_yes {xs ys : List Int} {k : Nat} {x y : Int} (h1 : k < xs.length) (h2 : k < ys.length) (hx : Hid (x = xs[k]?.getD 0)) (hy : Hid (y = ys[k]?.getD 0)) (h : x = y) (e : Hid (lexB xs ys = lexB (xs.drop k) (ys.drop k))) : Hid (lexB xs ys = lexB (xs.drop (k + 1)) (ys.drop (k + 1))) := by
  show _ = _
  rw [e.out, dropG h1, dropG h2, ← hx.out, ← hy.out, lexB, if_pos h]
theorem lex_end {xs ys : List Int} {k : Nat} (hl : Hid (xs.length = ys.length)) (h : ¬ k < xs.length) (e : Hid (lexB xs ys = lexB (xs.drop k) (ys.drop k))) : false = lessB xs ys := by
  unfold lessB; rw [if_pos hl.out, e.out, List.drop_eq_nil_of_le (by omega)]; simp [lexB]

set_option maxHeartbeats 400000 in
theorem lesser_ne (a b : Option Addr) (ca cb : Nat) (xs ys : List Int) (w : World) (hne : ¬ xs.length = ys.length) (hl : xs.length ≤ 9223372036854775807) (hm : ys.length ≤ 9223372036854775807) :
    Calls Tryd.prog 28 #[.slice a xs.length ca, .slice b ys.length cb] w fun e w' => e = .returned (.bool (lessB xs ys)) ∧ ∃ q, w' = w.drewN q := by
  have hb : ((xs.length : Int) != (ys.length : Int)) = true := by rw [bne_iff_ne]; omega
  have HC := Hid.of (less_cast hne)
  obtain ⟨o, HO⟩ : ∃ o, Hid (o = decide ((xs.length : Int) < (ys.length : Int))) := ⟨_, rfl⟩
  rw [← HO.out] at HC
  by_cases hlt : xs.length < ys.length
  · have HT : Hid (true = lessB xs ys) := by rw [← HC.out, HO.out]; exact (decide_eq_true (by omega)).symm
    go_enter Tryd.func28, Tryd.ntmps28
    go_wp2
    go_ret
    exact ⟨ret_bool HT.out, 0, rfl⟩
  · have HT : Hid (false = lessB xs ys) := by rw [← HC.out, HO.out]; exact (decide_eq_false (by omega)).symm
    go_enter Tryd.func28, Tryd.ntmps28
    go_wp2
    go_ret
    exact ⟨ret_bool HT.out, 0, rfl⟩

set_option maxHeartbeats 1000000 in
theorem lesser_eq (ba oa ca bb ob cb : Nat) (xs ys : List Int) (w : World) (hlen : Hid (xs.length = ys.length)) (hl : xs.length ≤ 9223372036854775807) (hca : Cells w ba oa xs) (hcb : Cells w bb ob ys) :
    Calls Tryd.prog 28 #[.slice (some ⟨ba, oa, none⟩) xs.length ca, .slice (some ⟨bb, ob, none⟩) ys.length cb] w fun e w' => e = .returned (.bool (lessB xs ys)) ∧ ∃ q, w' = w.drewN q := by
  have hm : ys.length ≤ 9223372036854775807 := by have := hlen.out; omega
  have hb : ((xs.length : Int) != (ys.length : Int)) = false := by have := hlen.out; simp; omega
  go_enter Tryd.func28, Tryd.ntmps28
  go_wp2
  go_loopw [5] (fun i wr => ∃ k q : Nat, k ≤ xs.length ∧ i = .int .i64 k ∧ wr = w.drewN q ∧ Hid (lexB xs ys = lexB (xs.drop k) (ys.drop k))) (fun i _ => xs.length - (intOf i).toNat)
  case atStart => exact ⟨0, 0, Nat.zero_le _, rfl, rfl, rfl⟩
  case round =>
    obtain ⟨k, q, hk, rfl, rfl, he⟩ := hrel
    by_cases hlt : k < xs.length
    · have hlt2 : k < ys.length := by have := hlen.out; omega
      obtain ⟨x, HX, hcx⟩ := hca.at hlt
      obtain ⟨y, HY, hcy⟩ := hcb.at hlt2
      by_cases hxy : x = y
      · have HXY : Hid (x = y) := hxy
        have d : (x != y) = false := by simp [hxy]
        clear hxy
        go_wp2
        go_quiet (fail)
        go_wp2
        go_roundw
        case rel => exact ⟨k + 1, _, by omega, by go_num, rfl, lex_yes hlt hlt2 HX HY HXY.out he⟩
        case measure => simp [intOf]; omega
      · have d : (x != y) = true := by simp [hxy]
        have HD := Hid.of (lex_no hlen hlt hlt2 HX HY hxy he)
        clear hxy
        go_wp2
        go_quiet (fail)
        go_wp2
        go_quiet (fail)
        go_wp2
        go_ret
        exact ⟨ret_bool HD.out, _, by rw [World.drewN_drewN, World.drewN_drewN]⟩
    · go_wp2
      go_ret
      exact ⟨ret_bool (lex_end hlen hlt he), q, rfl⟩

set_option maxHeartbeats 400000 in
theorem lesser_nil (a b : Option Addr) (ca cb : Nat) (w : World) :
    Calls Tryd.prog 28 #[.slice a 0 ca, .slice b 0 cb] w fun e w' => e = .returned (.bool false) ∧ ∃ q, w' = w.drewN q := by
  go_enter Tryd.func28, Tryd.ntmps28
  go_wp2
  refine wp_loop_rounds 1 ?_
  rw [rounds_succ]
  go_wp2
  go_ret
  exact ⟨rfl, 0, rfl⟩

theorem lesser_any (a b : Option Addr) (ca cb : Nat) (xs ys : List Int) (w : World) (hs : At w a xs) (ht : At w b ys) (hl : xs.length ≤ maxLen) (hm : ys.length ≤ maxLen) :
    Calls Tryd.prog 28 #[.slice a xs.length ca, .slice b ys.length cb] w fun e w' => e = .returned (.bool (lessB xs ys)) ∧ ∃ q, w' = w.drewN q := by
  by_cases hne : xs.length = ys.length
  · rcases hs with rfl | ⟨ba, oa, rfl, -, hca⟩
    · have : ys = [] := List.eq_nil_of_length_eq_zero (by simpa using hne.symm)
      subst this
      exact lesser_nil a b ca cb w
    · rcases ht with rfl | ⟨bb, ob, rfl, -, hcb⟩
      · have : xs = [] := List.eq_nil_of_length_eq_zero (by simpa using hne)
        subst this
        exact lesser_nil _ b ca cb w
      · exact lesser_eq ba oa ca bb ob cb xs ys w hne hl hca hcb
  · exact lesser_ne a b ca cb xs ys w hne hl hm

end Go.Proofs.YtcbdjjkebpncmaaDoor
namespace Go.Proofs.YtcbdjjkebpncmaaDoor
open Go.RowKit
set_option linter.unusedVariables false

theorem wordW_iff (ev : Int) : ∀ xs : List Int, wordB ev xs = true ↔ ∀ e ∈ xs, 0 ≤ e ∧ e < ev
  | [] => by simp [wordB]
  | x :: r => by
    rw [wordB]
    by_cases h : x < 0 ∨ ev ≤ x
    · rw [if_pos h]
      constructor
      · intro h'; cases h'
      · intro h'; have := h' x (by simp); omega
    · rw [if_neg h, wordW_iff ev r]
      constructor
      · intro h' e he
        rcases List.mem_cons.1 he with rfl | he
        · omega
        · exact h' e he
      · intro h' e he; exact h' e (by simp [he])

set_option maxRecDepth 100000 in
set_option maxHeartbeats 4000000 in
theorem wsays_err (a b : Mach) (la lb : ML) (wa : Option Addr) (wc : Nat) (word : List Int) (w : World) (hT : Hid (Tab w)) (h : Hid (MAt w a la)) (h' : Hid (MAt w b lb)) (c : Int) (hc : (c != 0) = true) (HO : Hid (withOut a b = (false, [], c))) :
    Calls Tryd.prog 8 #[mval a la, mval b lb, .slice wa word.length wc] w fun e w' => e = .returned (.bool true) ∧ Below w.heap.size w w' := by
  have B0 : Hid (Below w.heap.size w ((w.alloc (.cells (mcells a la) 25)).alloc (.cells (mcells b lb) 25))) := ((Below.refl _ _).alloc (Nat.le_refl _) _).alloc (by simp) _
  go_enter Tryd.func8, Tryd.ntmps8
  go_wp2_with fail
  revert B0
  generalize ((w.alloc (.cells (mcells a la) 25)).alloc (.cells (mcells b lb) 25)) = V0
  intro B0
  refine (pWith_any a b la lb _ (h.out.below B0.out (Nat.le_refl _)) (h'.out.below B0.out (Nat.le_refl _)) (hT.out.below B0.out hT.out.lt)).mono ?_
  intro e V1 hp
  unfold WithPost at hp
  rw [HO.out] at hp
  obtain ⟨va, vc, rfl, -, -, hb⟩ := hp
  have B1 := Hid.of (B0.out.trans (hb.mono B0.out.size))
  clear hb B0
  go_wp2
  go_ret
  exact ⟨rfl, B1.out⟩

set_option maxRecDepth 100000 in
set_option maxHeartbeats 8000000 in
theorem wsays_none (a b : Mach) (la lb : ML) (wa : Option Addr) (wc : Nat) (word : List Int) (w : World) (hT : Hid (Tab w)) (h : Hid (MAt w a la)) (h' : Hid (MAt w b lb)) (hw : Hid (At w wa word)) (hwl : Hid (word.length ≤ maxLen)) (HA : Hid (mayB a = true)) (HB : Hid (mayB b = true)) (HE : Hid (a.ev = b.ev)) (z1 : Hid (a.st ≤ 6)) (z2 : Hid (b.st ≤ 6)) (ho : Hid (outW a b = none)) :
    Calls Tryd.prog 8 #[mval a la, mval b lb, .slice wa word.length wc] w fun e w' => e = .returned (.bool true) ∧ Below w.heap.size w w' := by
  have HO : Hid (withOut a b = (true, [], 0)) := by
    show _ = _
    unfold withOut
    rw [if_pos ⟨HA.out, HB.out⟩, if_pos HE.out, if_pos ⟨z1.out, z2.out⟩, ho.out]; rfl
  have HNO : Hid (wordB a.ev word = true → acceptsB a word = true → acceptsB b word = true) := fun e1 e2 => by
    have := outW_none HA.out HB.out z1.out z2.out ho.out word ((wordW_iff _ _).1 e1)
    unfold betw at this
    rw [e2] at this
    simpa using this
  have B0 : Hid (Below w.heap.size w ((w.alloc (.cells (mcells a la) 25)).alloc (.cells (mcells b lb) 25))) := ((Below.refl _ _).alloc (Nat.le_refl _) _).alloc (by simp) _
  have KA0 : Hid (Blk ((w.alloc (.cells (mcells a la) 25)).alloc (.cells (mcells b lb) 25)) w.heap.size 25 (mcells a la)) := (Blk.new w _ _).alloc _
  have KB0 : Hid (Blk ((w.alloc (.cells (mcells a la) 25)).alloc (.cells (mcells b lb) 25)) (w.heap.size + 1) 25 (mcells b lb)) := by
    have := Blk.new (w.alloc (.cells (mcells a la) 25)) 25 (mcells b lb)
    rwa [World.size_alloc] at this
  go_enter Tryd.func8, Tryd.ntmps8
  go_wp2_with fail
  revert B0 KA0 KB0
  generalize ((w.alloc (.cells (mcells a la) 25)).alloc (.cells (mcells b lb) 25)) = V0
  intro B0 KA0 KB0
  refine (pWith_any a b la lb _ (h.out.below B0.out (Nat.le_refl _)) (h'.out.below B0.out (Nat.le_refl _)) (hT.out.below B0.out hT.out.lt)).mono ?_
  intro e V1 hp
  unfold WithPost at hp
  rw [HO.out] at hp
  obtain ⟨va, vc, rfl, at1, l1, hb⟩ := hp
  have B1 := Hid.of (B0.out.trans (hb.mono B0.out.size))
  have KA1 := Hid.of (KA0.out.below hb KA0.out.lt)
  have KB1 := Hid.of (KB0.out.below hb KB0.out.lt)
  have AT1 := Hid.of at1
  clear hb B0 KA0 KB0 at1 l1
  dsimp only at AT1 ⊢
  obtain ⟨x0, x1, x2, x3, x4⟩ := mcell_at KA1.out
  obtain ⟨y0, y1, y2, y3, y4⟩ := mcell_at KB1.out
  cases hwd : wordB a.ev word with
  | false =>
    have HW := Hid.of hwd
    have HW' : Hid (wordB b.ev word = false) := by show _ = _; rw [← HE.out]; exact hwd
    clear hwd
    go_wp2_with fail
    refine (accepts_no a la wa wc word _ (h.out.below B1.out (Nat.le_refl _)) HA.out (hw.out.below B1.out (Nat.le_refl _)) hwl.out HW.out).mono ?_
    rintro e V2 ⟨rfl, hb⟩
    have B2 := Hid.of (B1.out.trans (hb.mono B1.out.size))
    have KA2 := Hid.of (KA1.out.below hb KA1.out.lt)
    have KB2 := Hid.of (KB1.out.below hb KB1.out.lt)
    have AT2 := Hid.of (AT1.out.below hb (Nat.le_refl _))
    clear hb B1 KA1 KB1 AT1 x0 x1 x2 x3 x4 y0 y1 y2 y3 y4
    obtain ⟨x0, x1, x2, x3, x4⟩ := mcell_at KA2.out
    obtain ⟨y0, y1, y2, y3, y4⟩ := mcell_at KB2.out
    go_wp2_with fail
    refine (accepts_no b lb wa wc word _ (h'.out.below B2.out (Nat.le_refl _)) HB.out (hw.out.below B2.out (Nat.le_refl _)) hwl.out HW'.out).mono ?_
    rintro e V3 ⟨rfl, hb⟩
    have B3 := Hid.of (B2.out.trans (hb.mono B2.out.size))
    have KA3 := Hid.of (KA2.out.below hb KA2.out.lt)
    have KB3 := Hid.of (KB2.out.below hb KB2.out.lt)
    have AT3 := Hid.of (AT2.out.below hb (Nat.le_refl _))
    clear hb B2 KA2 KB2 AT2 x0 x1 x2 x3 x4 y0 y1 y2 y3 y4
    obtain ⟨x0, x1, x2, x3, x4⟩ := mcell_at KA3.out
    obtain ⟨y0, y1, y2, y3, y4⟩ := mcell_at KB3.out
    go_wp2
    go_ret
    exact ⟨rfl, B3.out⟩
  | true =>
    have HW := Hid.of hwd
    have HW' : Hid (wordB b.ev word = true) := by show _ = _; rw [← HE.out]; exact hwd
    clear hwd
    go_wp2_with fail
    refine (accepts_yes a la wa wc word _ (h.out.below B1.out (Nat.le_refl _)) (hT.out.below B1.out hT.out.lt) HA.out (hw.out.below B1.out (Nat.le_refl _)) hwl.out HW.out).mono ?_
    rintro e V2 ⟨rfl, hb⟩
    have B2 := Hid.of (B1.out.trans (hb.mono B1.out.size))
    have KA2 := Hid.of (KA1.out.below hb KA1.out.lt)
    have KB2 := Hid.of (KB1.out.below hb KB1.out.lt)
    have AT2 := Hid.of (AT1.out.below hb (Nat.le_refl _))
    clear hb B1 KA1 KB1 AT1 x0 x1 x2 x3 x4 y0 y1 y2 y3 y4
    obtain ⟨x0, x1, x2, x3, x4⟩ := mcell_at KA2.out
    obtain ⟨y0, y1, y2, y3, y4⟩ := mcell_at KB2.out
    go_wp2_with fail
    refine (accepts_yes b lb wa wc word _ (h'.out.below B2.out (Nat.le_refl _)) (hT.out.below B2.out hT.out.lt) HB.out (hw.out.below B2.out (Nat.le_refl _)) hwl.out HW'.out).mono ?_
    rintro e V3 ⟨rfl, hb⟩
    have B3 := Hid.of (B2.out.trans (hb.mono B2.out.size))
    have KA3 := Hid.of (KA2.out.below hb KA2.out.lt)
    have KB3 := Hid.of (KB2.out.below hb KB2.out.lt)
    have AT3 := Hid.of (AT2.out.below hb (Nat.le_refl _))
    clear hb B2 KA2 KB2 AT2 x0 x1 x2 x3 x4 y0 y1 y2 y3 y4
    obtain ⟨x0, x1, x2, x3, x4⟩ := mcell_at KA3.out
    obtain ⟨y0, y1, y2, y3, y4⟩ := mcell_at KB3.out
    cases hpa : acceptsB a word with
    | false =>
      clear hpa
      obtain ⟨qb, HQ⟩ : ∃ qb, Hid (qb = acceptsB b word) := ⟨_, rfl⟩
      rw [← HQ.out]
      go_wp2
      go_ret
      exact ⟨rfl, B3.out⟩
    | true =>
      have HPB := Hid.of (HNO.out HW.out hpa)
      rw [HPB.out]
      clear hpa
      go_wp2
      go_ret
      exact ⟨rfl, B3.out⟩

set_option maxRecDepth 100000 in
set_option maxHeartbeats 8000000 in
theorem wsays_some (a b : Mach) (la lb : ML) (wa : Option Addr) (wc : Nat) (word : List Int) (w : World) (hT : Hid (Tab w)) (h : Hid (MAt w a la)) (h' : Hid (MAt w b lb)) (hw : Hid (At w wa word)) (hwl : Hid (word.length ≤ maxLen)) (HA : Hid (mayB a = true)) (HB : Hid (mayB b = true)) (HE : Hid (a.ev = b.ev)) (z1 : Hid (a.st ≤ 6)) (z2 : Hid (b.st ≤ 6)) (v : List Int) (ho : Hid (outW a b = (some v))) :
    Calls Tryd.prog 8 #[mval a la, mval b lb, .slice wa word.length wc] w fun e w' => e = .returned (.bool true) ∧ Below w.heap.size w w' := by
  have HO : Hid (withOut a b = (false, v, 0)) := by
    show _ = _
    unfold withOut
    rw [if_pos ⟨HA.out, HB.out⟩, if_pos HE.out, if_pos ⟨z1.out, z2.out⟩, ho.out]; rfl
  obtain ⟨q1, q2, q3, q4⟩ := outW_some HA.out HB.out z1.out z2.out ho.out
  have HVL : Hid (v.length ≤ maxLen) := Nat.le_trans q3 (by decide)
  have HVA : Hid (wordB a.ev v = true) := (wordW_iff _ _).2 q2
  have HVB : Hid (wordB b.ev v = true) := by show _ = _; rw [← HE.out]; exact HVA.out
  have HXA : Hid (acceptsB a v = true) := by unfold betw at q1; simp only [Bool.and_eq_true] at q1; exact q1.1
  have HXB : Hid (acceptsB b v = false) := by unfold betw at q1; simp only [Bool.and_eq_true, Bool.not_eq_true'] at q1; exact q1.2
  have HLS : Hid (wordB a.ev word = true → acceptsB a word = true → acceptsB b word = false → lessB word v = false) := fun e1 e2 e3 => q4 word ((wordW_iff _ _).1 e1) (by unfold betw; rw [e2, e3]; rfl)
  clear q1 q2 q3 q4
  have B0 : Hid (Below w.heap.size w ((w.alloc (.cells (mcells a la) 25)).alloc (.cells (mcells b lb) 25))) := ((Below.refl _ _).alloc (Nat.le_refl _) _).alloc (by simp) _
  have KA0 : Hid (Blk ((w.alloc (.cells (mcells a la) 25)).alloc (.cells (mcells b lb) 25)) w.heap.size 25 (mcells a la)) := (Blk.new w _ _).alloc _
  have KB0 : Hid (Blk ((w.alloc (.cells (mcells a la) 25)).alloc (.cells (mcells b lb) 25)) (w.heap.size + 1) 25 (mcells b lb)) := by
    have := Blk.new (w.alloc (.cells (mcells a la) 25)) 25 (mcells b lb)
    rwa [World.size_alloc] at this
  go_enter Tryd.func8, Tryd.ntmps8
  go_wp2_with fail
  revert B0 KA0 KB0
  generalize ((w.alloc (.cells (mcells a la) 25)).alloc (.cells (mcells b lb) 25)) = V0
  intro B0 KA0 KB0
  refine (pWith_any a b la lb _ (h.out.below B0.out (Nat.le_refl _)) (h'.out.below B0.out (Nat.le_refl _)) (hT.out.below B0.out hT.out.lt)).mono ?_
  intro e V1 hp
  unfold WithPost at hp
  rw [HO.out] at hp
  obtain ⟨va, vc, rfl, at1, l1, hb⟩ := hp
  have B1 := Hid.of (B0.out.trans (hb.mono B0.out.size))
  have KA1 := Hid.of (KA0.out.below hb KA0.out.lt)
  have KB1 := Hid.of (KB0.out.below hb KB0.out.lt)
  have AT1 := Hid.of at1
  clear hb B0 KA0 KB0 at1 l1
  dsimp only at AT1 ⊢
  obtain ⟨x0, x1, x2, x3, x4⟩ := mcell_at KA1.out
  obtain ⟨y0, y1, y2, y3, y4⟩ := mcell_at KB1.out
  cases hwd : wordB a.ev word with
  | false =>
    have HW := Hid.of hwd
    have HW' : Hid (wordB b.ev word = false) := by show _ = _; rw [← HE.out]; exact hwd
    clear hwd
    go_wp2_with fail
    refine (accepts_no a la wa wc word _ (h.out.below B1.out (Nat.le_refl _)) HA.out (hw.out.below B1.out (Nat.le_refl _)) hwl.out HW.out).mono ?_
    rintro e V2 ⟨rfl, hb⟩
    have B2 := Hid.of (B1.out.trans (hb.mono B1.out.size))
    have KA2 := Hid.of (KA1.out.below hb KA1.out.lt)
    have KB2 := Hid.of (KB1.out.below hb KB1.out.lt)
    have AT2 := Hid.of (AT1.out.below hb (Nat.le_refl _))
    clear hb B1 KA1 KB1 AT1 x0 x1 x2 x3 x4 y0 y1 y2 y3 y4
    obtain ⟨x0, x1, x2, x3, x4⟩ := mcell_at KA2.out
    obtain ⟨y0, y1, y2, y3, y4⟩ := mcell_at KB2.out
    go_wp2_with fail
    refine (accepts_no b lb wa wc word _ (h'.out.below B2.out (Nat.le_refl _)) HB.out (hw.out.below B2.out (Nat.le_refl _)) hwl.out HW'.out).mono ?_
    rintro e V3 ⟨rfl, hb⟩
    have B3 := Hid.of (B2.out.trans (hb.mono B2.out.size))
    have KA3 := Hid.of (KA2.out.below hb KA2.out.lt)
    have KB3 := Hid.of (KB2.out.below hb KB2.out.lt)
    have AT3 := Hid.of (AT2.out.below hb (Nat.le_refl _))
    clear hb B2 KA2 KB2 AT2 x0 x1 x2 x3 x4 y0 y1 y2 y3 y4
    obtain ⟨x0, x1, x2, x3, x4⟩ := mcell_at KA3.out
    obtain ⟨y0, y1, y2, y3, y4⟩ := mcell_at KB3.out
    go_wp2_with fail
    refine (accepts_yes a la va vc v _ (h.out.below B3.out (Nat.le_refl _)) (hT.out.below B3.out hT.out.lt) HA.out AT3.out HVL.out HVA.out).mono ?_
    rintro e V4 ⟨rfl, hb⟩
    have B4 := Hid.of (B3.out.trans (hb.mono B3.out.size))
    have KA4 := Hid.of (KA3.out.below hb KA3.out.lt)
    have KB4 := Hid.of (KB3.out.below hb KB3.out.lt)
    have AT4 := Hid.of (AT3.out.below hb (Nat.le_refl _))
    clear hb B3 KA3 KB3 AT3 x0 x1 x2 x3 x4 y0 y1 y2 y3 y4
    obtain ⟨x0, x1, x2, x3, x4⟩ := mcell_at KA4.out
    obtain ⟨y0, y1, y2, y3, y4⟩ := mcell_at KB4.out
    rw [HXA.out]
    go_wp2_with fail
    refine (accepts_yes b lb va vc v _ (h'.out.below B4.out (Nat.le_refl _)) (hT.out.below B4.out hT.out.lt) HB.out AT4.out HVL.out HVB.out).mono ?_
    rintro e V5 ⟨rfl, hb⟩
    have B5 := Hid.of (B4.out.trans (hb.mono B4.out.size))
    have KA5 := Hid.of (KA4.out.below hb KA4.out.lt)
    have KB5 := Hid.of (KB4.out.below hb KB4.out.lt)
    have AT5 := Hid.of (AT4.out.below hb (Nat.le_refl _))
    clear hb B4 KA4 KB4 AT4 x0 x1 x2 x3 x4 y0 y1 y2 y3 y4
    obtain ⟨x0, x1, x2, x3, x4⟩ := mcell_at KA5.out
    obtain ⟨y0, y1, y2, y3, y4⟩ := mcell_at KB5.out
    rw [HXB.out]
    go_wp2
    go_ret
    exact ⟨rfl, B5.out⟩
  | true =>
    have HW := Hid.of hwd
    have HW' : Hid (wordB b.ev word = true) := by show _ = _; rw [← HE.out]; exact hwd
    clear hwd
    go_wp2_with fail
    refine (accepts_yes a la wa wc word _ (h.out.below B1.out (Nat.le_refl _)) (hT.out.below B1.out hT.out.lt) HA.out (hw.out.below B1.out (Nat.le_refl _)) hwl.out HW.out).mono ?_
    rintro e V2 ⟨rfl, hb⟩
    have B2 := Hid.of (B1.out.trans (hb.mono B1.out.size))
    have KA2 := Hid.of (KA1.out.below hb KA1.out.lt)
    have KB2 := Hid.of (KB1.out.below hb KB1.out.lt)
    have AT2 := Hid.of (AT1.out.below hb (Nat.le_refl _))
    clear hb B1 KA1 KB1 AT1 x0 x1 x2 x3 x4 y0 y1 y2 y3 y4
    obtain ⟨x0, x1, x2, x3, x4⟩ := mcell_at KA2.out
    obtain ⟨y0, y1, y2, y3, y4⟩ := mcell_at KB2.out
    go_wp2_with fail
    refine (accepts_yes b lb wa wc word _ (h'.out.below B2.out (Nat.le_refl _)) (hT.out.below B2.out hT.out.lt) HB.out (hw.out.below B2.out (Nat.le_refl _)) hwl.out HW'.out).mono ?_
    rintro e V3 ⟨rfl, hb⟩
    have B3 := Hid.of (B2.out.trans (hb.mono B2.out.size))
    have KA3 := Hid.of (KA2.out.below hb KA2.out.lt)
    have KB3 := Hid.of (KB2.out.below hb KB2.out.lt)
    have AT3 := Hid.of (AT2.out.below hb (Nat.le_refl _))
    clear hb B2 KA2 KB2 AT2 x0 x1 x2 x3 x4 y0 y1 y2 y3 y4
    obtain ⟨x0, x1, x2, x3, x4⟩ := mcell_at KA3.out
    obtain ⟨y0, y1, y2, y3, y4⟩ := mcell_at KB3.out
    cases hpa : acceptsB a word with
    | false =>
      clear hpa
      obtain ⟨qb, HQ⟩ : ∃ qb, Hid (qb = acceptsB b word) := ⟨_, rfl⟩
      rw [← HQ.out]
      go_wp2_with fail
      refine (accepts_yes a la va vc v _ (h.out.below B3.out (Nat.le_refl _)) (hT.out.below B3.out hT.out.lt) HA.out AT3.out HVL.out HVA.out).mono ?_
      rintro e V4 ⟨rfl, hb⟩
      have B4 := Hid.of (B3.out.trans (hb.mono B3.out.size))
      have KA4 := Hid.of (KA3.out.below hb KA3.out.lt)
      have KB4 := Hid.of (KB3.out.below hb KB3.out.lt)
      have AT4 := Hid.of (AT3.out.below hb (Nat.le_refl _))
      clear hb B3 KA3 KB3 AT3 x0 x1 x2 x3 x4 y0 y1 y2 y3 y4
      obtain ⟨x0, x1, x2, x3, x4⟩ := mcell_at KA4.out
      obtain ⟨y0, y1, y2, y3, y4⟩ := mcell_at KB4.out
      rw [HXA.out]
      go_wp2_with fail
      refine (accepts_yes b lb va vc v _ (h'.out.below B4.out (Nat.le_refl _)) (hT.out.below B4.out hT.out.lt) HB.out AT4.out HVL.out HVB.out).mono ?_
      rintro e V5 ⟨rfl, hb⟩
      have B5 := Hid.of (B4.out.trans (hb.mono B4.out.size))
      have KA5 := Hid.of (KA4.out.below hb KA4.out.lt)
      have KB5 := Hid.of (KB4.out.below hb KB4.out.lt)
      have AT5 := Hid.of (AT4.out.below hb (Nat.le_refl _))
      clear hb B4 KA4 KB4 AT4 x0 x1 x2 x3 x4 y0 y1 y2 y3 y4
      obtain ⟨x0, x1, x2, x3, x4⟩ := mcell_at KA5.out
      obtain ⟨y0, y1, y2, y3, y4⟩ := mcell_at KB5.out
      rw [HXB.out]
      go_wp2
      go_ret
      exact ⟨rfl, B5.out⟩
    | true =>
      cases hpb : acceptsB b word with
      | true =>
        clear hpa hpb
        go_wp2_with fail
        refine (accepts_yes a la va vc v _ (h.out.below B3.out (Nat.le_refl _)) (hT.out.below B3.out hT.out.lt) HA.out AT3.out HVL.out HVA.out).mono ?_
        rintro e V4 ⟨rfl, hb⟩
        have B4 := Hid.of (B3.out.trans (hb.mono B3.out.size))
        have KA4 := Hid.of (KA3.out.below hb KA3.out.lt)
        have KB4 := Hid.of (KB3.out.below hb KB3.out.lt)
        have AT4 := Hid.of (AT3.out.below hb (Nat.le_refl _))
        clear hb B3 KA3 KB3 AT3 x0 x1 x2 x3 x4 y0 y1 y2 y3 y4
        obtain ⟨x0, x1, x2, x3, x4⟩ := mcell_at KA4.out
        obtain ⟨y0, y1, y2, y3, y4⟩ := mcell_at KB4.out
        rw [HXA.out]
        go_wp2_with fail
        refine (accepts_yes b lb va vc v _ (h'.out.below B4.out (Nat.le_refl _)) (hT.out.below B4.out hT.out.lt) HB.out AT4.out HVL.out HVB.out).mono ?_
        rintro e V5 ⟨rfl, hb⟩
        have B5 := Hid.of (B4.out.trans (hb.mono B4.out.size))
        have KA5 := Hid.of (KA4.out.below hb KA4.out.lt)
        have KB5 := Hid.of (KB4.out.below hb KB4.out.lt)
        have AT5 := Hid.of (AT4.out.below hb (Nat.le_refl _))
        clear hb B4 KA4 KB4 AT4 x0 x1 x2 x3 x4 y0 y1 y2 y3 y4
        obtain ⟨x0, x1, x2, x3, x4⟩ := mcell_at KA5.out
        obtain ⟨y0, y1, y2, y3, y4⟩ := mcell_at KB5.out
        rw [HXB.out]
        go_wp2
        go_ret
        exact ⟨rfl, B5.out⟩
      | false =>
        have HLW := Hid.of (HLS.out HW.out hpa hpb)
        clear hpa hpb
        go_wp2_with fail
        refine (lesser_any wa va wc vc word v _ (hw.out.below B3.out (Nat.le_refl _)) AT3.out hwl.out HVL.out).mono ?_
        rintro e V4 ⟨rfl, q, rfl⟩
        rw [HLW.out]
        have B4 : Hid (Below w.heap.size w (V3.drewN q)) := below_drewN B3.out q
        have KA4 : Hid (Blk (V3.drewN q) w.heap.size 25 (mcells a la)) := KA3.out
        have KB4 : Hid (Blk (V3.drewN q) (w.heap.size + 1) 25 (mcells b lb)) := KB3.out
        have AT4 : Hid (At (V3.drewN q) va v) := At.drewN AT3.out q
        clear B3 KA3 KB3 AT3 x0 x1 x2 x3 x4 y0 y1 y2 y3 y4
        revert B4 KA4 KB4 AT4
        generalize V3.drewN q = V4
        intro B4 KA4 KB4 AT4
        obtain ⟨x0, x1, x2, x3, x4⟩ := mcell_at KA4.out
        obtain ⟨y0, y1, y2, y3, y4⟩ := mcell_at KB4.out
        go_wp2_with fail
        refine (accepts_yes a la va vc v _ (h.out.below B4.out (Nat.le_refl _)) (hT.out.below B4.out hT.out.lt) HA.out AT4.out HVL.out HVA.out).mono ?_
        rintro e V5 ⟨rfl, hb⟩
        have B5 := Hid.of (B4.out.trans (hb.mono B4.out.size))
        have KA5 := Hid.of (KA4.out.below hb KA4.out.lt)
        have KB5 := Hid.of (KB4.out.below hb KB4.out.lt)
        have AT5 := Hid.of (AT4.out.below hb (Nat.le_refl _))
        clear hb B4 KA4 KB4 AT4 x0 x1 x2 x3 x4 y0 y1 y2 y3 y4
        obtain ⟨x0, x1, x2, x3, x4⟩ := mcell_at KA5.out
        obtain ⟨y0, y1, y2, y3, y4⟩ := mcell_at KB5.out
        rw [HXA.out]
        go_wp2_with fail
        refine (accepts_yes b lb va vc v _ (h'.out.below B5.out (Nat.le_refl _)) (hT.out.below B5.out hT.out.lt) HB.out AT5.out HVL.out HVB.out).mono ?_
        rintro e V6 ⟨rfl, hb⟩
        have B6 := Hid.of (B5.out.trans (hb.mono B5.out.size))
        have KA6 := Hid.of (KA5.out.below hb KA5.out.lt)
        have KB6 := Hid.of (KB5.out.below hb KB5.out.lt)
        have AT6 := Hid.of (AT5.out.below hb (Nat.le_refl _))
        clear hb B5 KA5 KB5 AT5 x0 x1 x2 x3 x4 y0 y1 y2 y3 y4
        obtain ⟨x0, x1, x2, x3, x4⟩ := mcell_at KA6.out
        obtain ⟨y0, y1, y2, y3, y4⟩ := mcell_at KB6.out
        rw [HXB.out]
        go_wp2
        go_ret
        exact ⟨rfl, B6.out⟩

theorem withOut_cases (a b : Mach) : (∃ c : Int, (c != 0) = true ∧ withOut a b = (false, [], c)) ∨ (mayB a = true ∧ mayB b = true ∧ a.ev = b.ev ∧ a.st ≤ 6 ∧ b.st ≤ 6) := by
  unfold withOut
  by_cases h1 : mayB a = true ∧ mayB b = true
  · rw [if_pos h1]
    by_cases h2 : a.ev = b.ev
    · rw [if_pos h2]
      by_cases h3 : a.st ≤ 6 ∧ b.st ≤ 6
      · exact .inr ⟨h1.1, h1.2, h2, h3.1, h3.2⟩
      · rw [if_neg h3]; exact .inl ⟨1, rfl, rfl⟩
    · rw [if_neg h2]; exact .inl ⟨3, rfl, rfl⟩
  · rw [if_neg h1]; exact .inl ⟨2, rfl, rfl⟩
theorem wsays_any (a b : Mach) (la lb : ML) (wa : Option Addr) (wc : Nat) (word : List Int) (w : World) (hT : Tab w) (h : MAt w a la) (h' : MAt w b lb) (hw : At w wa word) (hwl : word.length ≤ maxLen) :
    Calls Tryd.prog 8 #[mval a la, mval b lb, .slice wa word.length wc] w fun e w' => e = .returned (.bool true) ∧ Below w.heap.size w w' := by
  rcases withOut_cases a b with ⟨c, hc, ho⟩ | ⟨h1, h2, h3, h4, h5⟩
  · exact wsays_err a b la lb wa wc word w (Hid.of hT) (Hid.of h) (Hid.of h') c hc (Hid.of ho)
  · cases ho : outW a b with
    | none => exact wsays_none a b la lb wa wc word w (Hid.of hT) (Hid.of h) (Hid.of h') (Hid.of hw) (Hid.of hwl) (Hid.of h1) (Hid.of h2) (Hid.of h3) (Hid.of h4) (Hid.of h5) (Hid.of ho)
    | some v => exact wsays_some a b la lb wa wc word w (Hid.of hT) (Hid.of h) (Hid.of h') (Hid.of hw) (Hid.of hwl) (Hid.of h1) (Hid.of h2) (Hid.of h3) (Hid.of h4) (Hid.of h5) v (Hid.of ho)

end Go.Proofs.YtcbdjjkebpncmaaDoor
