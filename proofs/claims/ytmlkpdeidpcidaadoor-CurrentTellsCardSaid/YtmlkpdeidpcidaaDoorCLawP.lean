/-
  The walks of what the laws on plants lean on: jalousielaw.seen, all, best; jalousiekeep.tells.
-/
import Derived.Test.YtmlkpdeidpcidaaDoorCCPost
import Derived.Test.YtmlkpdeidpcidaaDoorG24
import Derived.Test.YtmlkpdeidpcidaaDoorG20
namespace Go.Proofs.YtmlkpdeidpcidaaDoor
open Go.RowKit
set_option linter.unusedVariables false

set_option maxRecDepth 100000 in
set_option maxHeartbeats 2000000 in
theorem lseen_any (p : Plant) (P : PTL) (wa : Option Addr) (wc : Nat) (word : List Int) (w : World) (h : PAt w p P) (hw : At w wa word) (hwl : word.length ≤ 17592186044416) :
    Calls Tryd.prog 32 #[ptval p P, .slice wa word.length wc] w fun e w' => e = .returned (.bool (inSeen p.seen word)) ∧ Below w.heap.size w w' := by
  have B : Hid (Below w.heap.size w (w.alloc (.cells (ptcells p P) 44))) := (Below.refl _ _).alloc (Nat.le_refl _) _
  have KEY := Hid.of (refSeen_any wa P.sa wc P.sc word p.seen (w.alloc (.cells (ptcells p P) 44)) (hw.below B.out (Nat.le_refl _)) hwl (h.s.at_.below B.out (Nat.le_refl _)) h.s.len)
  obtain ⟨l, HL⟩ : ∃ l, Hid (l = seenL p.seen word) := ⟨_, rfl⟩
  rw [← HL.out] at KEY
  have HIS : Hid (inSeen p.seen word = decide (l.length = word.length)) := by show _ = _; unfold inSeen; rw [HL.out]
  clear h hw HL
  go_enter Tryd.func32, Tryd.ntmps32
  go_wp2_with fail
  refine KEY.out.mono ?_
  rintro e W1 ⟨va, vc, rfl, -, -, hb⟩
  have B1 := Hid.of (B.out.trans (hb.mono B.out.size))
  clear hb KEY
  by_cases he : l.length = word.length
  · have d : ((l.length : Int) == (word.length : Int)) = true := by rw [he]; simp
    have HF : Hid (inSeen p.seen word = true) := by show _ = _; rw [HIS.out, decide_eq_true he]
    clear he
    go_wp2_with fail
    go_ret
    exact ⟨ret_bool HF.out.symm, B1.out⟩
  · have d : ((l.length : Int) == (word.length : Int)) = false := by rw [beq_eq_false_iff_ne]; omega
    have HF : Hid (inSeen p.seen word = false) := by show _ = _; rw [HIS.out, decide_eq_false he]
    go_wp2_with fail
    go_ret
    exact ⟨ret_bool HF.out.symm, B1.out⟩

set_option maxRecDepth 100000 in
set_option maxHeartbeats 4000000 in
theorem lall_any (st : Nat) (ev : Int) (starts : List Int) (ars : List Arr) (ends : List Int) (l : ML) (w : World) (hst : st ≤ 256) :
    Calls Tryd.prog 35 #[mval ⟨(st : Int), ev, starts, ars, ends⟩ l] w fun e w' => GivesO w (rngI st) e w' := by
  obtain ⟨j0, ji, jz0, jz1, jz2⟩ := info_parts Tryd.infoInt
  have B : Hid (Below w.heap.size w (w.alloc (.cells (mcells ⟨(st : Int), ev, starts, ars, ends⟩ l) 25))) := (Below.refl _ _).alloc (Nat.le_refl _) _
  have K : Hid (Blk (w.alloc (.cells (mcells ⟨(st : Int), ev, starts, ars, ends⟩ l) 25)) w.heap.size 25 (mcells ⟨(st : Int), ev, starts, ars, ends⟩ l)) := Blk.new w _ _
  go_enter Tryd.func35, Tryd.ntmps35
  go_wp2_with fail
  go_loopw [3, 4] (fun v i wr => ∃ k : Nat, i = .int .i64 k ∧ k ≤ st ∧ Hid (Own wr (w.heap.size + 1) v (rngI k)) ∧ Hid (Below w.heap.size w wr) ∧ Hid (Blk wr w.heap.size 25 (mcells ⟨(st : Int), ev, starts, ars, ends⟩ l))) (fun _ i _ => st - (intOf i).toNat)
  case atStart => exact ⟨0, rfl, Nat.zero_le _, own_nil _ _, B, K⟩
  case round =>
    clear B K
    obtain ⟨k, rfl, hk, HO, B, K⟩ := hrel
    have hlo : w.heap.size + 1 ≤ wr.heap.size := K.out.lt
    have x0 : wr.cell? ⟨w.heap.size, 0, none⟩ = some (.int .i64 (st : Int)) := K.out.cell 0 rfl
    obtain ⟨fa, fc, hfa, -, -, -⟩ := own_form2 HO.out
    rw [rngI_len] at hfa
    subst hfa
    by_cases hlt : k < st
    · have HSU := Hid.of (rngI_succ k)
      have hln := rngI_len k
      have hown : wr.ownsRow (w.heap.size + 1) 3 1 (.slice fa k fc) k ((rngI k).map (Value.int .i64)) := by
        have := HO.out
        unfold Own at this
        rwa [hln] at this
      have HOW := Hid.of hown
      clear hown
      go_wp2_with (at_builtin; refine wpList_append_block _ rfl (.tmp 11) (.tmp 13) 22 rfl (w.heap.size + 1) 3 j0 (.int .i64 0) 1 8 Tryd.underlying22 ji jz0 jz1 jz2 rfl (by decide) _ _ _ rfl (World.ownsRow.alloc HOW.out _) ⟨wr.heap.size, 0, none⟩ 1 1 [.int .i64 (k : Int)] rfl rfl (cell_one_new _ _ _) (by intro u hu; simp at hu; subst hu; rfl) (by decide) (by unfold maxLen; omega) (by omega) (by simp; omega) ?_)
      intro v9 w9 o9 g9 n9
      have hbl : Below (w.heap.size + 1) wr w9 := ((Below.refl _ wr).alloc hlo _).grown g9 (by simp; omega) (fun j hj => (World.ownsRow.lt HOW.out j hj).1)
      have Q1 : Hid (Own w9 (w.heap.size + 1) v9 (rngI (k + 1))) := by
        show Own _ _ _ _
        rw [HSU.out]
        unfold Own
        rw [List.length_append, List.map_append, hln]
        exact o9
      have Q2 := Hid.of (B.out.trans (hbl.mono (Nat.le_succ _)))
      have Q3 := Hid.of (K.out.below hbl (Nat.lt_succ_self _))
      clear o9 g9 n9 hbl x0
      go_wp2_with fail
      go_roundw
      case rel => exact ⟨k + 1, by go_num, by omega, Q1, Q2, Q3⟩
      case measure => simp [intOf]; omega
    · have hk2 : k = st := by omega
      subst hk2
      go_wp2_with fail
      go_ret
      exact ⟨_, rfl, Own.low HO.out (Nat.le_succ _), B.out⟩

set_option maxRecDepth 100000 in
set_option maxHeartbeats 4000000 in
theorem lbest_any (p : Plant) (P : PTL) (b off lc : Nat) (oa wa : Option Addr) (oc wc : Nat) (only word : List Int) (is : Bool) (L : List Kno) (w : World) (h : PAt w p P) (hl : L.length ≤ 9223372036854775807) (hbl : b < w.heap.size) (hc : CellsK w b off L) (hr : ∀ x ∈ L, x.1.length ≤ 4096) (ho : At w oa only) (hol : only.length ≤ maxLen) (hw : At w wa word) (hwl : word.length ≤ maxLen) (e1 : is = (bestL p.secret only L).isSome) (e2 : word = (bestL p.secret only L).getD []) :
    Calls Tryd.prog 36 #[.slice (some ⟨b, off, none⟩) L.length lc, ptval p P, .slice oa only.length oc, .bool is, .slice wa word.length wc] w fun e w' => e = .returned (.bool true) ∧ Below w.heap.size w w' := by
  have B : Hid (Below w.heap.size w (w.alloc (.cells (ptcells p P) 44))) := (Below.refl _ _).alloc (Nat.le_refl _) _
  have KEY := Hid.of (rBest_some p P b off lc oa oc only L (w.alloc (.cells (ptcells p P) 44)) (Hid.of (h.below B.out (Nat.le_refl _))) hl (Hid.of (Nat.lt_of_lt_of_le hbl B.out.size)) (Hid.of (fun k x hx => by
    obtain ⟨xa, xc, za, zc, c1, c2, q1, q2, q3, q4⟩ := hc k x hx
    exact ⟨xa, xc, za, zc, (B.out.cell (p := ⟨b, off + k * 2, none⟩) hbl).trans c1, (B.out.cell (p := ⟨b, off + k * 2 + 1, none⟩) hbl).trans c2, q1.below B.out (Nat.le_refl _), q2, q3.below B.out (Nat.le_refl _), q4⟩)) (Hid.of hr) (Hid.of (ho.below B.out (Nat.le_refl _))) (Hid.of hol))
  have HW := Hid.of hw
  have HWL := Hid.of hwl
  have E1 := Hid.of e1
  have E2 := Hid.of e2
  clear h hl hc hr ho hol hw hwl hbl e1 e2
  go_enter Tryd.func36, Tryd.ntmps36
  go_wp2_with fail
  refine KEY.out.mono ?_
  rintro e W1 ⟨va, vc, rfl, at1, ln1, hb⟩
  rw [← E1.out]
  rw [← E2.out] at at1 ln1 ⊢
  have B1 := Hid.of (B.out.trans (hb.mono B.out.size))
  have HAT := Hid.of at1
  have HLN := Hid.of ln1
  clear hb at1 ln1 KEY
  have d : (is == is) = true := by simp
  have KEY2 := Hid.of (same_any wa va wc vc word word W1 (HW.out.below B1.out (Nat.le_refl _)) HAT.out HWL.out HWL.out)
  have HS : Hid (sameB word word = true) := by show _ = _; simp [sameB]
  rw [HS.out] at KEY2
  go_wp2_with fail
  refine KEY2.out.mono ?_
  rintro e W2 ⟨rfl, q, hq⟩
  have hb : Below W1.heap.size W1 W2 := by rw [hq]; exact below_drewN (Below.refl _ _) q
  have B2 := Hid.of (B1.out.trans (hb.mono B1.out.size))
  clear hb hq
  go_wp2_with fail
  go_ret
  exact ⟨rfl, B2.out⟩

end Go.Proofs.YtmlkpdeidpcidaaDoor
