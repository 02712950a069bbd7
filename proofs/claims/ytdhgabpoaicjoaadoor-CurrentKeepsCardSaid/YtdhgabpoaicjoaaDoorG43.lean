/-
  The walk of jalousiekeep.has: whether a list has a number.
  The walk of jalousiekeep.tells.
  The walk of jalousiekeep.lesser: which of two lists is the lesser one (G1).
  The walk of the law InitialKeeps.
-/
import Derived.Test.YtdhgabpoaicjoaaDoorG03
import Derived.Test.YtdhgabpoaicjoaaDoorG07
import Derived.Test.YtdhgabpoaicjoaaDoorG04
import Derived.Test.YtdhgabpoaicjoaaDoorG20
import Derived.Test.YtdhgabpoaicjoaaDoorG16
import Derived.Deep.QuietTactic
import Derived.BigQuiet
import Derived.Test.YtdhgabpoaicjoaaDoorG38
namespace Go.Proofs.YtdhgabpoaicjoaaDoor
open Go.RowKit

set_option maxHeartbeats 400000 in
theorem keepHas_some (b off cap : Nat) (xs : List Int) (n : Int) (w : World) (hl : xs.length ≤ 9223372036854775807) (hc : Cells w b off xs) :
    Calls Tryd.prog 89 #[.slice (some ⟨b, off, none⟩) xs.length cap, .int .i64 n] w fun e w' => e = .returned (.bool (hasB xs n)) ∧ w' = w := by
  go_enter Tryd.func89, Tryd.ntmps89
  go_wp2
  go_loop [5] (fun i => ∃ k : Nat, k ≤ xs.length ∧ i = .int .i64 k ∧ Hid (hasB xs n = hasB (xs.drop k) n)) (fun i => xs.length - (intOf i).toNat)
  case atStart => exact ⟨0, Nat.zero_le _, rfl, rfl⟩
  case round =>
    obtain ⟨k, hk, rfl, he⟩ := hrel
    by_cases hlt : k < xs.length
    · obtain ⟨x, HX, hcell⟩ := hc.at hlt
      go_wp2
      · go_ret
        exact ⟨ret_bool (has_hit hlt he HX (by assumption)), rfl⟩
      · go_round
        case rel => exact ⟨k + 1, by omega, by go_num, has_miss hlt he HX (by assumption)⟩
        case measure => simp [intOf]; omega
    · go_wp2
      go_ret
      exact ⟨ret_bool (has_end hlt he), rfl⟩

set_option maxHeartbeats 400000 in
theorem keepHas_nil (a : Option Addr) (cap : Nat) (n : Int) (w : World) :
    Calls Tryd.prog 89 #[.slice a 0 cap, .int .i64 n] w fun e w' => e = .returned (.bool false) ∧ w' = w := by
  go_enter Tryd.func89, Tryd.ntmps89
  go_wp2
  refine wp_loop_rounds 1 ?_
  rw [rounds_succ]
  go_wp2
  go_ret
  exact ⟨rfl, rfl⟩

theorem keepHas_any (a : Option Addr) (cap : Nat) (xs : List Int) (n : Int) (w : World) (hs : At w a xs) (hl : xs.length ≤ maxLen) :
    Calls Tryd.prog 89 #[.slice a xs.length cap, .int .i64 n] w fun e w' => e = .returned (.bool (hasB xs n)) ∧ w' = w := by
  rcases hs with rfl | ⟨b, off, rfl, -, hc⟩
  · exact keepHas_nil a cap n w
  · exact keepHas_some b off cap xs n w hl hc

end Go.Proofs.YtdhgabpoaicjoaaDoor
namespace Go.Proofs.YtdhgabpoaicjoaaDoor
open Go.RowKit
set_option linter.unusedVariables false

/-- All of the first k are secret. -/
def allSec (secret row : List Int) (k : Nat) : Prop := ∀ (j : Nat) (x : Int), j < k → row[j]? = some x → hasB secret x = true
theorem tells_no {secret row : List Int} {k : Nat} {x : Int} (h : k < row.length) (hx : Hid (x = row[k]?.getD 0)) (hn : hasB secret x = false) : false = leakB secret row := by
  have hm : x ∈ row.filter fun n => hasB secret n == false := by
    rw [List.mem_filter]
    refine ⟨?_, by rw [hn]; rfl⟩
    rw [hx.out, List.getElem?_eq_getElem h]; exact List.getElem_mem h
  have := List.length_pos_of_mem hm
  unfold leakB
  rw [decide_eq_false (by omega : ¬ (row.filter fun n => hasB secret n == false).length = 0), Bool.and_false]
theorem tells_succ {secret row : List Int} {k : Nat} {x : Int} (h0 : Hid (allSec secret row k)) (h : k < row.length) (hx : Hid (x = row[k]?.getD 0)) (hn : hasB secret x = true) : Hid (allSec secret row (k + 1)) := fun j y hj hy => by
  by_cases e : j < k
  · exact h0.out j y e hy
  · have : j = k := by omega
    subst this
    have e1 := hx.out
    rw [hy, Option.getD_some] at e1
    rw [← e1]; exact hn
theorem tells_end {secret row : List Int} {k : Nat} (h0 : Hid (allSec secret row k)) (h : ¬ k < row.length) : decide (0 < row.length) = leakB secret row := by
  have : (row.filter fun n => hasB secret n == false).length = 0 := by
    rw [List.length_eq_zero_iff, List.filter_eq_nil_iff]
    intro x hx
    obtain ⟨j, hj⟩ := List.mem_iff_getElem?.1 hx
    have := h0.out j x (Nat.lt_of_lt_of_le (List.getElem?_eq_some_iff.1 hj).1 (by omega)) hj
    rw [this]; simp
  unfold leakB
  rw [decide_eq_true this, Bool.and_true]

set_option maxHeartbeats 2000000 in
theorem ktells_any (a b : Option Addr) (ca cb : Nat) (row secret : List Int) (w : World) (h : At w a row) (hl : row.length ≤ maxLen) (h' : At w b secret) (hl' : secret.length ≤ maxLen) :
    Calls Tryd.prog 44 #[.slice a row.length ca, .slice b secret.length cb] w fun e w' => e = .returned (.bool (leakB secret row)) ∧ w' = w := by
  have hl9 : row.length ≤ 9223372036854775807 := hl
  have HB := Hid.of h'
  have HBL := Hid.of hl'
  have HA := Hid.of h
  clear h h' hl hl'
  go_enter Tryd.func44, Tryd.ntmps44
  go_wp2_with fail
  go_loopw [5] (fun i wr => ∃ k : Nat, i = .int .i64 k ∧ k ≤ row.length ∧ Hid (wr = w) ∧ Hid (allSec secret row k)) (fun i _ => row.length - (intOf i).toNat)
  case atStart => exact ⟨0, rfl, Nat.zero_le _, rfl, fun j x hj => absurd hj (Nat.not_lt_zero _)⟩
  case round =>
    obtain ⟨k, rfl, hk, HW, HS⟩ := hrel
    have hwr := HW.out
    subst hwr
    by_cases hlt : k < row.length
    · rcases HA.out with h0 | ⟨ab, ao, rfl, hab, hac⟩
      · rw [h0] at hlt; simp at hlt
      obtain ⟨x, HX⟩ : ∃ x, Hid (x = row[k]?.getD 0) := ⟨_, rfl⟩
      have cx : wr.cell? ⟨ab, ao + k, none⟩ = some (.int .i64 x) := by
        rw [HX.out, ← List.getD_eq_getElem?_getD]; exact hac k hlt
      clear hac
      have KEY := Hid.of (keepHas_any b cb secret x wr HB.out HBL.out)
      go_wp2_with fail
      refine KEY.out.mono ?_
      rintro e W1 ⟨rfl, hw1⟩
      subst hw1
      cases hh : hasB secret x with
      | true =>
        have HN := Hid.of (tells_succ HS hlt HX hh)
        clear hh KEY
        go_wp2_with fail
        go_roundw
        case rel => exact ⟨k + 1, by go_num, by omega, (by first | exact trivial | exact rfl), HN⟩
        case measure => simp [intOf]; omega
      | false =>
        have HN := Hid.of (tells_no hlt HX hh)
        clear hh KEY
        go_wp2_with fail
        go_ret
        exact ⟨ret_bool HN.out, rfl⟩
    · have HN := Hid.of (tells_end HS hlt)
      by_cases h0 : 0 < row.length
      · have d0 : decide ((0 : Int) < (row.length : Int)) = true := decide_eq_true (by omega)
        have HN2 : Hid (true = leakB secret row) := by show _ = _; rw [← HN.out, decide_eq_true h0]
        go_wp2_with fail
        all_goals
          go_ret
          exact ⟨ret_bool HN2.out, rfl⟩
      · have d0 : decide ((0 : Int) < (row.length : Int)) = false := decide_eq_false (by omega)
        have HN2 : Hid (false = leakB secret row) := by show _ = _; rw [← HN.out, decide_eq_false h0]
        go_wp2_with fail
        all_goals
          go_ret
          exact ⟨ret_bool HN2.out, rfl⟩

end Go.Proofs.YtdhgabpoaicjoaaDoor
namespace Go.Proofs.YtdhgabpoaicjoaaDoor
open Go.RowKit
set_option linter.unusedVariables false

set_option maxHeartbeats 400000 in
theorem lesser_ne (a b : Option Addr) (ca cb : Nat) (xs ys : List Int) (w : World) (hne : ¬ xs.length = ys.length) (hl : xs.length ≤ 9223372036854775807) (hm : ys.length ≤ 9223372036854775807) :
    Calls Tryd.prog 45 #[.slice a xs.length ca, .slice b ys.length cb] w fun e w' => e = .returned (.bool (lessB xs ys)) ∧ ∃ q, w' = w.drewN q := by
  have hb : ((xs.length : Int) != (ys.length : Int)) = true := by rw [bne_iff_ne]; omega
  have HC := Hid.of (less_cast hne)
  obtain ⟨o, HO⟩ : ∃ o, Hid (o = decide ((xs.length : Int) < (ys.length : Int))) := ⟨_, rfl⟩
  rw [← HO.out] at HC
  by_cases hlt : xs.length < ys.length
  · have HT : Hid (true = lessB xs ys) := by rw [← HC.out, HO.out]; exact (decide_eq_true (by omega)).symm
    go_enter Tryd.func45, Tryd.ntmps45
    go_wp2
    go_ret
    exact ⟨ret_bool HT.out, 0, rfl⟩
  · have HT : Hid (false = lessB xs ys) := by rw [← HC.out, HO.out]; exact (decide_eq_false (by omega)).symm
    go_enter Tryd.func45, Tryd.ntmps45
    go_wp2
    go_ret
    exact ⟨ret_bool HT.out, 0, rfl⟩

set_option maxHeartbeats 1000000 in
theorem lesser_eq (ba oa ca bb ob cb : Nat) (xs ys : List Int) (w : World) (hlen : Hid (xs.length = ys.length)) (hl : xs.length ≤ 9223372036854775807) (hca : Cells w ba oa xs) (hcb : Cells w bb ob ys) :
    Calls Tryd.prog 45 #[.slice (some ⟨ba, oa, none⟩) xs.length ca, .slice (some ⟨bb, ob, none⟩) ys.length cb] w fun e w' => e = .returned (.bool (lessB xs ys)) ∧ ∃ q, w' = w.drewN q := by
  have hm : ys.length ≤ 9223372036854775807 := by have := hlen.out; omega
  have hb : ((xs.length : Int) != (ys.length : Int)) = false := by have := hlen.out; simp; omega
  go_enter Tryd.func45, Tryd.ntmps45
  go_wp2
  go_loopw [5] (fun i wr => ∃ k q : Nat, k ≤ xs.length ∧ i = .int .i64 k ∧ wr = w.drewN q ∧ Hid (lexB xs ys = lexB (xs.drop k) (ys.drop k))) (fun i _ => xs.length - (intOf i).toNat)
  case atStart => exact ⟨0, 0, Nat.zero_le _, rfl, rfl, rfl⟩
  case round =>
    obtain ⟨k, q, hk, rfl, rfl, he⟩ := hrel
    by_cases hlt : k < xs.length
    · have hlt2 : k < ys.length := by have := hlen.out; omega
      obtain ⟨x, HX, hcx⟩ := hca.at hlt
      obtain ⟨y, HY, hcy⟩ := hcb.at hlt2
      by_cases hxy : x = y
      · have HXY : Hid (x = y) := hxy
        have d : (x != y) = false := by simp [hxy]
        clear hxy
        go_wp2
        go_quiet (fail)
        go_wp2
        go_roundw
        case rel => exact ⟨k + 1, _, by omega, by go_num, rfl, lex_yes hlt hlt2 HX HY HXY.out he⟩
        case measure => simp [intOf]; omega
      · have d : (x != y) = true := by simp [hxy]
        have HD := Hid.of (lex_no hlen hlt hlt2 HX HY hxy he)
        clear hxy
        go_wp2
        go_quiet (fail)
        go_wp2
        go_quiet (fail)
        go_wp2
        go_ret
        exact ⟨ret_bool HD.out, _, by rw [World.drewN_drewN, World.drewN_drewN]⟩
    · go_wp2
      go_ret
      exact ⟨ret_bool (lex_end hlen hlt he), q, rfl⟩

set_option maxHeartbeats 400000 in
theorem lesser_nil (a b : Option Addr) (ca cb : Nat) (w : World) :
    Calls Tryd.prog 45 #[.slice a 0 ca, .slice b 0 cb] w fun e w' => e = .returned (.bool false) ∧ ∃ q, w' = w.drewN q := by
  go_enter Tryd.func45, Tryd.ntmps45
  go_wp2
  refine wp_loop_rounds 1 ?_
  rw [rounds_succ]
  go_wp2
  go_ret
  exact ⟨rfl, 0, rfl⟩

theorem lesser_any (a b : Option Addr) (ca cb : Nat) (xs ys : List Int) (w : World) (hs : At w a xs) (ht : At w b ys) (hl : xs.length ≤ maxLen) (hm : ys.length ≤ maxLen) :
    Calls Tryd.prog 45 #[.slice a xs.length ca, .slice b ys.length cb] w fun e w' => e = .returned (.bool (lessB xs ys)) ∧ ∃ q, w' = w.drewN q := by
  by_cases hne : xs.length = ys.length
  · rcases hs with rfl | ⟨ba, oa, rfl, -, hca⟩
    · have : ys = [] := List.eq_nil_of_length_eq_zero (by simpa using hne.symm)
      subst this
      exact lesser_nil a b ca cb w
    · rcases ht with rfl | ⟨bb, ob, rfl, -, hcb⟩
      · have : xs = [] := List.eq_nil_of_length_eq_zero (by simpa using hne)
        subst this
        exact lesser_nil _ b ca cb w
      · exact lesser_eq ba oa ca bb ob cb xs ys w hne hl hca hcb
  · exact lesser_ne a b ca cb xs ys w hne hl hm

end Go.Proofs.YtdhgabpoaicjoaaDoor
namespace Go.Proofs.YtdhgabpoaicjoaaDoor
open Go.RowKit
set_option linter.unusedVariables false

set_option maxRecDepth 100000 in
set_option maxHeartbeats 8000000 in
theorem ikeeps_any (p : Plant) (P : PTL) (wa : Option Addr) (wc : Nat) (word : List Int) (w : World) (hT : Hid (Tab w)) (h : Hid (PAt w p P)) (hw : Hid (At w wa word)) (hwl : Hid (word.length ≤ 17592186044416)) :
    Calls Tryd.prog 11 #[ptval p P, .slice wa word.length wc] w fun e w' => e = .returned (.bool true) ∧ Below w.heap.size w w' := by
  have B : Hid (Below w.heap.size w (w.alloc (.cells (ptcells p P) 50))) := (Below.refl _ _).alloc (Nat.le_refl _) _
  have KP : Hid (Blk (w.alloc (.cells (ptcells p P) 50)) w.heap.size 50 (ptcells p P)) := Blk.new w _ _
  go_enter Tryd.func11, Tryd.ntmps11
  go_wp2_with fail
  revert B KP
  generalize (w.alloc (.cells (ptcells p P) 50)) = V0
  intro B KP
  obtain ⟨lb, lw, lc, lH⟩ : ∃ b l c, Hid (leakOut p (outI p) = (b, l, c)) := ⟨_, _, _, rfl⟩
  refine (pLeakI_any p P _ (h.out.below B.out (Nat.le_refl _)) (hT.out.below B.out hT.out.lt)).mono ?_
  intro e W1 hp
  unfold LeakPost at hp
  rw [lH.out] at hp
  dsimp only at hp
  obtain ⟨la, lk, rfl, lat, lln, hb⟩ := hp
  replace B := Hid.of (B.out.trans (hb.mono B.out.size))
  replace KP := Hid.of (KP.out.below hb KP.out.lt)
  clear hb
  have lA := Hid.of lat
  have lL := Hid.of lln
  clear lat lln
  cases hmp : mayP p with
  | false =>
    have q2 := lH.out
    rw [leakOut_bad hmp] at q2
    cases q2
    have HMP := Hid.of hmp
    clear hmp
    obtain ⟨x0, x1, x2, x3, x4, x5, x6⟩ := ptcell_at KP.out
    go_wp2_with fail
    clear x0 x1 x2 x3 x4 x5 x6
    refine (pCurMay_any p P _ (h.out.below B.out (Nat.le_refl _))).mono ?_
    rintro e W2 ⟨rfl, hb⟩
    replace B := Hid.of (B.out.trans (hb.mono B.out.size))
    replace KP := Hid.of (KP.out.below hb KP.out.lt)
    replace lA := Hid.of (lA.out.below hb (Nat.le_refl _))
    clear hb
    rw [HMP.out]
    go_wp2_with fail
    go_ret
    exact ⟨rfl, B.out⟩
  | true =>
    have HMP := Hid.of hmp
    have q2 := lH.out
    rw [leakOut_ok hmp] at q2
    clear hmp
    obtain ⟨rfl, rfl, rfl⟩ : lb = (outI p).isSome ∧ lw = (outI p).getD [] ∧ lc = 0 := by cases q2; exact ⟨rfl, rfl, rfl⟩
    clear q2 lH
    have HNONE : Hid (outI p = none → inSeen p.seen word = true → leakB p.secret (beganL p word) = false) := fun e hs => outI_none HMP.out e word ((inSeen_iff _ _).1 hs)
    have HSOME : Hid (∀ v, outI p = some v → leakB p.secret (beganL p v) = true ∧ inSeen p.seen v = true ∧ (inSeen p.seen word = true → leakB p.secret (beganL p word) = true → lessB word v = false)) := fun v e => by
      obtain ⟨q1, q2, -, q4⟩ := outI_some HMP.out e
      exact ⟨q1, (inSeen_iff _ _).2 q2, fun hs hl => q4 word ((inSeen_iff _ _).1 hs) hl⟩
    have HEM : Hid (inSeen p.seen [] = true) := (inSeen_iff _ _).2 (by simp)
    obtain ⟨x0, x1, x2, x3, x4, x5, x6⟩ := ptcell_at KP.out
    go_wp2_with fail
    clear x0 x1 x2 x3 x4 x5 x6
    refine (pCurMay_any p P _ (h.out.below B.out (Nat.le_refl _))).mono ?_
    rintro e W2 ⟨rfl, hb⟩
    replace B := Hid.of (B.out.trans (hb.mono B.out.size))
    replace KP := Hid.of (KP.out.below hb KP.out.lt)
    replace lA := Hid.of (lA.out.below hb (Nat.le_refl _))
    clear hb
    rw [HMP.out]
    obtain ⟨x0, x1, x2, x3, x4, x5, x6⟩ := ptcell_at KP.out
    go_wp2_with fail
    clear x0 x1 x2 x3 x4 x5 x6
    obtain ⟨el, ec, eH⟩ : ∃ l c, Hid (begOut p word = (l, c)) := ⟨_, _, rfl⟩
    refine (pBeg_any p P wa wc word _ (h.out.below B.out (Nat.le_refl _)) (hw.out.below B.out (Nat.le_refl _)) (Nat.le_trans hwl.out (by decide)) (hT.out.below B.out hT.out.lt)).mono ?_
    intro e W3 hp
    unfold ListPost at hp
    rw [eH.out] at hp
    dsimp only at hp
    obtain ⟨ea, ek, rfl, eat, eln, hb⟩ := hp
    replace B := Hid.of (B.out.trans (hb.mono B.out.size))
    replace KP := Hid.of (KP.out.below hb KP.out.lt)
    replace lA := Hid.of (lA.out.below hb (Nat.le_refl _))
    clear hb
    have eA := Hid.of eat
    have eL := Hid.of eln
    clear eat eln
    cases ho : outI p with
    | none =>
      have HON := Hid.of ho
      rw [ho] at lA lL
      obtain ⟨vv, HVV⟩ : ∃ vv : List Int, Hid (vv = []) := ⟨_, rfl⟩
      have HVS : Hid (inSeen p.seen vv = true) := by show _ = _; rw [HVV.out]; exact HEM.out
      replace lA : Hid (At W3 la vv) := by show At _ _ _; rw [HVV.out]; exact lA.out
      replace lL : Hid (vv.length ≤ maxLen) := by show _ ≤ _; rw [HVV.out]; exact lL.out
      have hvl : vv.length = 0 := by rw [HVV.out]; rfl
      clear ho
      rw [show (((none : Option (List Int)).getD []).length : Nat) = vv.length from hvl.symm]
      have HVLN := Hid.of hvl
      clear hvl
      cases hsw : inSeen p.seen word with
      | false =>
        have q1 := eH.out
        rw [begOut_out HMP.out hsw] at q1
        cases q1
        clear hsw eH
        obtain ⟨x0, x1, x2, x3, x4, x5, x6⟩ := ptcell_at KP.out
        go_wp2_with fail
        clear x0 x1 x2 x3 x4 x5 x6
        refine (pBeg_any p P la lk vv _ (h.out.below B.out (Nat.le_refl _)) lA.out lL.out (hT.out.below B.out hT.out.lt)).mono ?_
        intro e W6 hp
        unfold ListPost at hp
        rw [begOut_ok HMP.out HVS.out] at hp
        dsimp only at hp
        obtain ⟨ka, kk, rfl, kat, kln, hb⟩ := hp
        replace B := Hid.of (B.out.trans (hb.mono B.out.size))
        replace KP := Hid.of (KP.out.below hb KP.out.lt)
        replace lA := Hid.of (lA.out.below hb (Nat.le_refl _))
        replace eA := Hid.of (eA.out.below hb (Nat.le_refl _))
        clear hb
        have kA := Hid.of kat
        have kL := Hid.of kln
        clear kat kln
        obtain ⟨ev, HEV⟩ : ∃ ev, Hid (ev = beganL p vv) := ⟨_, rfl⟩
        rw [← HEV.out] at kA kL ⊢
        go_wp2_with fail
        go_ret
        exact ⟨rfl, B.out⟩
      | true =>
        have q1 := eH.out
        rw [begOut_ok HMP.out hsw] at q1
        obtain ⟨rfl, rfl⟩ : el = beganL p word ∧ ec = 0 := by cases q1; exact ⟨rfl, rfl⟩
        have HLK := Hid.of (HNONE.out HON.out hsw)
        clear q1 hsw eH
        obtain ⟨es, HES⟩ : ∃ es, Hid (es = beganL p word) := ⟨_, rfl⟩
        rw [← HES.out] at eA eL HLK ⊢
        have K1 := Hid.of (ktells_any ea P.ta ek P.tc es p.secret _ eA.out eL.out (h.out.t.at_.below B.out (Nat.le_refl _)) h.out.t.len)
        rw [HLK.out] at K1
        obtain ⟨x0, x1, x2, x3, x4, x5, x6⟩ := ptcell_at KP.out
        go_wp2_with fail
        clear x0 x1 x2 x3 x4 x5 x6
        refine K1.out.mono ?_
        rintro e W4 ⟨rfl, hw4⟩
        subst hw4
        obtain ⟨x0, x1, x2, x3, x4, x5, x6⟩ := ptcell_at KP.out
        go_wp2_with fail
        clear x0 x1 x2 x3 x4 x5 x6
        refine (pBeg_any p P la lk vv _ (h.out.below B.out (Nat.le_refl _)) lA.out lL.out (hT.out.below B.out hT.out.lt)).mono ?_
        intro e W6 hp
        unfold ListPost at hp
        rw [begOut_ok HMP.out HVS.out] at hp
        dsimp only at hp
        obtain ⟨ka, kk, rfl, kat, kln, hb⟩ := hp
        replace B := Hid.of (B.out.trans (hb.mono B.out.size))
        replace KP := Hid.of (KP.out.below hb KP.out.lt)
        replace lA := Hid.of (lA.out.below hb (Nat.le_refl _))
        replace eA := Hid.of (eA.out.below hb (Nat.le_refl _))
        clear hb
        have kA := Hid.of kat
        have kL := Hid.of kln
        clear kat kln
        obtain ⟨ev, HEV⟩ : ∃ ev, Hid (ev = beganL p vv) := ⟨_, rfl⟩
        rw [← HEV.out] at kA kL ⊢
        go_wp2_with fail
        go_ret
        exact ⟨rfl, B.out⟩
    | some vv =>
      obtain ⟨q5, q6, q7⟩ := HSOME.out vv ho
      have HVL := Hid.of q5
      have HVS := Hid.of q6
      have HV7 := Hid.of q7
      rw [ho] at lA lL
      replace lA : Hid (At W3 la vv) := lA.out
      replace lL : Hid (vv.length ≤ maxLen) := lL.out
      clear ho q5 q6 q7
      rw [Option.isSome_some, Option.getD_some]
      cases hsw : inSeen p.seen word with
      | false =>
        have q1 := eH.out
        rw [begOut_out HMP.out hsw] at q1
        cases q1
        clear hsw eH
        obtain ⟨x0, x1, x2, x3, x4, x5, x6⟩ := ptcell_at KP.out
        go_wp2_with fail
        clear x0 x1 x2 x3 x4 x5 x6
        refine (pBeg_any p P la lk vv _ (h.out.below B.out (Nat.le_refl _)) lA.out lL.out (hT.out.below B.out hT.out.lt)).mono ?_
        intro e W6 hp
        unfold ListPost at hp
        rw [begOut_ok HMP.out HVS.out] at hp
        dsimp only at hp
        obtain ⟨ka, kk, rfl, kat, kln, hb⟩ := hp
        replace B := Hid.of (B.out.trans (hb.mono B.out.size))
        replace KP := Hid.of (KP.out.below hb KP.out.lt)
        replace lA := Hid.of (lA.out.below hb (Nat.le_refl _))
        replace eA := Hid.of (eA.out.below hb (Nat.le_refl _))
        clear hb
        have kA := Hid.of kat
        have kL := Hid.of kln
        clear kat kln
        obtain ⟨ev, HEV⟩ : ∃ ev, Hid (ev = beganL p vv) := ⟨_, rfl⟩
        rw [← HEV.out] at kA kL ⊢
        have KT : Hid (leakB p.secret ev = true) := by show _ = _; rw [HEV.out]; exact HVL.out
        have K2 := Hid.of (ktells_any ka P.ta kk P.tc ev p.secret _ kA.out kL.out (h.out.t.at_.below B.out (Nat.le_refl _)) h.out.t.len)
        rw [KT.out] at K2
        obtain ⟨x0, x1, x2, x3, x4, x5, x6⟩ := ptcell_at KP.out
        go_wp2_with fail
        clear x0 x1 x2 x3 x4 x5 x6
        refine K2.out.mono ?_
        rintro e W7 ⟨rfl, hw7⟩
        subst hw7
        go_wp2_with fail
        go_ret
        exact ⟨rfl, B.out⟩
      | true =>
        have q1 := eH.out
        rw [begOut_ok HMP.out hsw] at q1
        obtain ⟨rfl, rfl⟩ : el = beganL p word ∧ ec = 0 := by cases q1; exact ⟨rfl, rfl⟩
        have HV8 : Hid (leakB p.secret (beganL p word) = true → lessB word vv = false) := HV7.out hsw
        clear q1 hsw eH
        obtain ⟨es, HES⟩ : ∃ es, Hid (es = beganL p word) := ⟨_, rfl⟩
        rw [← HES.out] at eA eL HV8 ⊢
        have K1 := Hid.of (ktells_any ea P.ta ek P.tc es p.secret _ eA.out eL.out (h.out.t.at_.below B.out (Nat.le_refl _)) h.out.t.len)
        cases hlk : leakB p.secret es with
        | false =>
          rw [hlk] at K1
          clear hlk
          obtain ⟨x0, x1, x2, x3, x4, x5, x6⟩ := ptcell_at KP.out
          go_wp2_with fail
          clear x0 x1 x2 x3 x4 x5 x6
          refine K1.out.mono ?_
          rintro e W4 ⟨rfl, hw4⟩
          subst hw4
          obtain ⟨x0, x1, x2, x3, x4, x5, x6⟩ := ptcell_at KP.out
          go_wp2_with fail
          clear x0 x1 x2 x3 x4 x5 x6
          refine (pBeg_any p P la lk vv _ (h.out.below B.out (Nat.le_refl _)) lA.out lL.out (hT.out.below B.out hT.out.lt)).mono ?_
          intro e W6 hp
          unfold ListPost at hp
          rw [begOut_ok HMP.out HVS.out] at hp
          dsimp only at hp
          obtain ⟨ka, kk, rfl, kat, kln, hb⟩ := hp
          replace B := Hid.of (B.out.trans (hb.mono B.out.size))
          replace KP := Hid.of (KP.out.below hb KP.out.lt)
          replace lA := Hid.of (lA.out.below hb (Nat.le_refl _))
          replace eA := Hid.of (eA.out.below hb (Nat.le_refl _))
          clear hb
          have kA := Hid.of kat
          have kL := Hid.of kln
          clear kat kln
          obtain ⟨ev, HEV⟩ : ∃ ev, Hid (ev = beganL p vv) := ⟨_, rfl⟩
          rw [← HEV.out] at kA kL ⊢
          have KT : Hid (leakB p.secret ev = true) := by show _ = _; rw [HEV.out]; exact HVL.out
          have K2 := Hid.of (ktells_any ka P.ta kk P.tc ev p.secret _ kA.out kL.out (h.out.t.at_.below B.out (Nat.le_refl _)) h.out.t.len)
          rw [KT.out] at K2
          obtain ⟨x0, x1, x2, x3, x4, x5, x6⟩ := ptcell_at KP.out
          go_wp2_with fail
          clear x0 x1 x2 x3 x4 x5 x6
          refine K2.out.mono ?_
          rintro e W7 ⟨rfl, hw7⟩
          subst hw7
          go_wp2_with fail
          go_ret
          exact ⟨rfl, B.out⟩
        | true =>
          have HLS := Hid.of (HV8.out hlk)
          rw [hlk] at K1
          clear hlk
          obtain ⟨x0, x1, x2, x3, x4, x5, x6⟩ := ptcell_at KP.out
          go_wp2_with fail
          clear x0 x1 x2 x3 x4 x5 x6
          refine K1.out.mono ?_
          rintro e W4 ⟨rfl, hw4⟩
          subst hw4
          have K3 := Hid.of (lesser_any wa la wc lk word vv _ (hw.out.below B.out (Nat.le_refl _)) lA.out (Nat.le_trans hwl.out (by decide)) lL.out)
          rw [HLS.out] at K3
          go_wp2_with fail
          refine K3.out.mono ?_
          rintro e W5 ⟨rfl, qd, hqd⟩
          have hb : Below W4.heap.size W4 W5 := by rw [hqd]; exact below_drewN (Below.refl _ _) qd
          replace B := Hid.of (B.out.trans (hb.mono B.out.size))
          replace KP := Hid.of (KP.out.below hb KP.out.lt)
          replace lA := Hid.of (lA.out.below hb (Nat.le_refl _))
          replace eA := Hid.of (eA.out.below hb (Nat.le_refl _))
          clear hb
          clear hqd K3 K1
          obtain ⟨x0, x1, x2, x3, x4, x5, x6⟩ := ptcell_at KP.out
          go_wp2_with fail
          clear x0 x1 x2 x3 x4 x5 x6
          refine (pBeg_any p P la lk vv _ (h.out.below B.out (Nat.le_refl _)) lA.out lL.out (hT.out.below B.out hT.out.lt)).mono ?_
          intro e W6 hp
          unfold ListPost at hp
          rw [begOut_ok HMP.out HVS.out] at hp
          dsimp only at hp
          obtain ⟨ka, kk, rfl, kat, kln, hb⟩ := hp
          replace B := Hid.of (B.out.trans (hb.mono B.out.size))
          replace KP := Hid.of (KP.out.below hb KP.out.lt)
          replace lA := Hid.of (lA.out.below hb (Nat.le_refl _))
          replace eA := Hid.of (eA.out.below hb (Nat.le_refl _))
          clear hb
          have kA := Hid.of kat
          have kL := Hid.of kln
          clear kat kln
          obtain ⟨ev, HEV⟩ : ∃ ev, Hid (ev = beganL p vv) := ⟨_, rfl⟩
          rw [← HEV.out] at kA kL ⊢
          have KT : Hid (leakB p.secret ev = true) := by show _ = _; rw [HEV.out]; exact HVL.out
          have K2 := Hid.of (ktells_any ka P.ta kk P.tc ev p.secret _ kA.out kL.out (h.out.t.at_.below B.out (Nat.le_refl _)) h.out.t.len)
          rw [KT.out] at K2
          obtain ⟨x0, x1, x2, x3, x4, x5, x6⟩ := ptcell_at KP.out
          go_wp2_with fail
          clear x0 x1 x2 x3 x4 x5 x6
          refine K2.out.mono ?_
          rintro e W7 ⟨rfl, hw7⟩
          subst hw7
          go_wp2_with fail
          go_ret
          exact ⟨rfl, B.out⟩

end Go.Proofs.YtdhgabpoaicjoaaDoor
