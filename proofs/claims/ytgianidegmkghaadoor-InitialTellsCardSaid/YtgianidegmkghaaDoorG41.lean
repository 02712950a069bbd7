/-
  The walks of what the laws on plants lean on: jalousielaw.seen, all, best; jalousiekeep.tells.
  The walks of jalousieref9.From and Estimate.
-/
import Derived.Test.YtgianidegmkghaaDoorG30
import Derived.Test.YtgianidegmkghaaDoorG07
import Derived.Test.YtgianidegmkghaaDoorG28
namespace Go.Proofs.YtgianidegmkghaaDoor
open Go.RowKit
set_option linter.unusedVariables false

set_option maxRecDepth 100000 in
set_option maxHeartbeats 2000000 in
theorem lseen_any (p : Plant) (P : PTL) (wa : Option Addr) (wc : Nat) (word : List Int) (w : World) (h : PAt w p P) (hw : At w wa word) (hwl : word.length ≤ 17592186044416) :
    Calls Tryd.prog 34 #[ptval p P, .slice wa word.length wc] w fun e w' => e = .returned (.bool (inSeen p.seen word)) ∧ Below w.heap.size w w' := by
  have B : Hid (Below w.heap.size w (w.alloc (.cells (ptcells p P) 44))) := (Below.refl _ _).alloc (Nat.le_refl _) _
  have KEY := Hid.of (refSeen_any wa P.sa wc P.sc word p.seen (w.alloc (.cells (ptcells p P) 44)) (hw.below B.out (Nat.le_refl _)) hwl (h.s.at_.below B.out (Nat.le_refl _)) h.s.len)
  obtain ⟨l, HL⟩ : ∃ l, Hid (l = seenL p.seen word) := ⟨_, rfl⟩
  rw [← HL.out] at KEY
  have HIS : Hid (inSeen p.seen word = decide (l.length = word.length)) := by show _ = _; unfold inSeen; rw [HL.out]
  clear h hw HL
  go_enter Tryd.func34, Tryd.ntmps34
  go_wp2_with fail
  refine KEY.out.mono ?_
  rintro e W1 ⟨va, vc, rfl, -, -, hb⟩
  have B1 := Hid.of (B.out.trans (hb.mono B.out.size))
  clear hb KEY
  by_cases he : l.length = word.length
  · have d : ((l.length : Int) == (word.length : Int)) = true := by rw [he]; simp
    have HF : Hid (inSeen p.seen word = true) := by show _ = _; rw [HIS.out, decide_eq_true he]
    clear he
    go_wp2_with fail
    go_ret
    exact ⟨ret_bool HF.out.symm, B1.out⟩
  · have d : ((l.length : Int) == (word.length : Int)) = false := by rw [beq_eq_false_iff_ne]; omega
    have HF : Hid (inSeen p.seen word = false) := by show _ = _; rw [HIS.out, decide_eq_false he]
    go_wp2_with fail
    go_ret
    exact ⟨ret_bool HF.out.symm, B1.out⟩

set_option maxRecDepth 100000 in
set_option maxHeartbeats 4000000 in
theorem lall_any (st : Nat) (ev : Int) (starts : List Int) (ars : List Arr) (ends : List Int) (l : ML) (w : World) (hst : st ≤ 256) :
    Calls Tryd.prog 37 #[mval ⟨(st : Int), ev, starts, ars, ends⟩ l] w fun e w' => GivesO w (rngI st) e w' := by
  obtain ⟨j0, ji, jz0, jz1, jz2⟩ := info_parts Tryd.infoInt
  have B : Hid (Below w.heap.size w (w.alloc (.cells (mcells ⟨(st : Int), ev, starts, ars, ends⟩ l) 25))) := (Below.refl _ _).alloc (Nat.le_refl _) _
  have K : Hid (Blk (w.alloc (.cells (mcells ⟨(st : Int), ev, starts, ars, ends⟩ l) 25)) w.heap.size 25 (mcells ⟨(st : Int), ev, starts, ars, ends⟩ l)) := Blk.new w _ _
  go_enter Tryd.func37, Tryd.ntmps37
  go_wp2_with fail
  go_loopw [3, 4] (fun v i wr => ∃ k : Nat, i = .int .i64 k ∧ k ≤ st ∧ Hid (Own wr (w.heap.size + 1) v (rngI k)) ∧ Hid (Below w.heap.size w wr) ∧ Hid (Blk wr w.heap.size 25 (mcells ⟨(st : Int), ev, starts, ars, ends⟩ l))) (fun _ i _ => st - (intOf i).toNat)
  case atStart => exact ⟨0, rfl, Nat.zero_le _, own_nil _ _, B, K⟩
  case round =>
    clear B K
    obtain ⟨k, rfl, hk, HO, B, K⟩ := hrel
    have hlo : w.heap.size + 1 ≤ wr.heap.size := K.out.lt
    have x0 : wr.cell? ⟨w.heap.size, 0, none⟩ = some (.int .i64 (st : Int)) := K.out.cell 0 rfl
    obtain ⟨fa, fc, hfa, -, -, -⟩ := own_form2 HO.out
    rw [rngI_len] at hfa
    subst hfa
    by_cases hlt : k < st
    · have HSU := Hid.of (rngI_succ k)
      have hln := rngI_len k
      have hown : wr.ownsRow (w.heap.size + 1) 3 1 (.slice fa k fc) k ((rngI k).map (Value.int .i64)) := by
        have := HO.out
        unfold Own at this
        rwa [hln] at this
      have HOW := Hid.of hown
      clear hown
      go_wp2_with (at_builtin; refine wpList_append_block _ rfl (.tmp 11) (.tmp 13) 22 rfl (w.heap.size + 1) 3 j0 (.int .i64 0) 1 8 Tryd.underlying22 ji jz0 jz1 jz2 rfl (by decide) _ _ _ rfl (World.ownsRow.alloc HOW.out _) ⟨wr.heap.size, 0, none⟩ 1 1 [.int .i64 (k : Int)] rfl rfl (cell_one_new _ _ _) (by intro u hu; simp at hu; subst hu; rfl) (by decide) (by unfold maxLen; omega) (by omega) (by simp; omega) ?_)
      intro v9 w9 o9 g9 n9
      have hbl : Below (w.heap.size + 1) wr w9 := ((Below.refl _ wr).alloc hlo _).grown g9 (by simp; omega) (fun j hj => (World.ownsRow.lt HOW.out j hj).1)
      have Q1 : Hid (Own w9 (w.heap.size + 1) v9 (rngI (k + 1))) := by
        show Own _ _ _ _
        rw [HSU.out]
        unfold Own
        rw [List.length_append, List.map_append, hln]
        exact o9
      have Q2 := Hid.of (B.out.trans (hbl.mono (Nat.le_succ _)))
      have Q3 := Hid.of (K.out.below hbl (Nat.lt_succ_self _))
      clear o9 g9 n9 hbl x0
      go_wp2_with fail
      go_roundw
      case rel => exact ⟨k + 1, by go_num, by omega, Q1, Q2, Q3⟩
      case measure => simp [intOf]; omega
    · have hk2 : k = st := by omega
      subst hk2
      go_wp2_with fail
      go_ret
      exact ⟨_, rfl, Own.low HO.out (Nat.le_succ _), B.out⟩

set_option maxRecDepth 100000 in
set_option maxHeartbeats 4000000 in
theorem lbest_any (p : Plant) (P : PTL) (b off lc : Nat) (oa wa : Option Addr) (oc wc : Nat) (only word : List Int) (is : Bool) (L : List Kno) (w : World) (h : PAt w p P) (hl : L.length ≤ 9223372036854775807) (hbl : b < w.heap.size) (hc : CellsK w b off L) (hr : ∀ x ∈ L, x.1.length ≤ 4096) (ho : At w oa only) (hol : only.length ≤ maxLen) (hw : At w wa word) (hwl : word.length ≤ maxLen) (e1 : is = (bestL p.secret only L).isSome) (e2 : word = (bestL p.secret only L).getD []) :
    Calls Tryd.prog 38 #[.slice (some ⟨b, off, none⟩) L.length lc, ptval p P, .slice oa only.length oc, .bool is, .slice wa word.length wc] w fun e w' => e = .returned (.bool true) ∧ Below w.heap.size w w' := by
  have B : Hid (Below w.heap.size w (w.alloc (.cells (ptcells p P) 44))) := (Below.refl _ _).alloc (Nat.le_refl _) _
  have KEY := Hid.of (rBest_some p P b off lc oa oc only L (w.alloc (.cells (ptcells p P) 44)) (Hid.of (h.below B.out (Nat.le_refl _))) hl (Hid.of (Nat.lt_of_lt_of_le hbl B.out.size)) (Hid.of (fun k x hx => by
    obtain ⟨xa, xc, za, zc, c1, c2, q1, q2, q3, q4⟩ := hc k x hx
    exact ⟨xa, xc, za, zc, (B.out.cell (p := ⟨b, off + k * 2, none⟩) hbl).trans c1, (B.out.cell (p := ⟨b, off + k * 2 + 1, none⟩) hbl).trans c2, q1.below B.out (Nat.le_refl _), q2, q3.below B.out (Nat.le_refl _), q4⟩)) (Hid.of hr) (Hid.of (ho.below B.out (Nat.le_refl _))) (Hid.of hol))
  have HW := Hid.of hw
  have HWL := Hid.of hwl
  have E1 := Hid.of e1
  have E2 := Hid.of e2
  clear h hl hc hr ho hol hw hwl hbl e1 e2
  go_enter Tryd.func38, Tryd.ntmps38
  go_wp2_with fail
  refine KEY.out.mono ?_
  rintro e W1 ⟨va, vc, rfl, at1, ln1, hb⟩
  rw [← E1.out]
  rw [← E2.out] at at1 ln1 ⊢
  have B1 := Hid.of (B.out.trans (hb.mono B.out.size))
  have HAT := Hid.of at1
  have HLN := Hid.of ln1
  clear hb at1 ln1 KEY
  have d : (is == is) = true := by simp
  have KEY2 := Hid.of (same_any wa va wc vc word word W1 (HW.out.below B1.out (Nat.le_refl _)) HAT.out HWL.out HWL.out)
  have HS : Hid (sameB word word = true) := by show _ = _; simp [sameB]
  rw [HS.out] at KEY2
  go_wp2_with fail
  refine KEY2.out.mono ?_
  rintro e W2 ⟨rfl, q, hq⟩
  have hb : Below W1.heap.size W1 W2 := by rw [hq]; exact below_drewN (Below.refl _ _) q
  have B2 := Hid.of (B1.out.trans (hb.mono B1.out.size))
  clear hb hq
  go_wp2_with fail
  go_ret
  exact ⟨rfl, B2.out⟩

end Go.Proofs.YtgianidegmkghaaDoor
namespace Go.Proofs.YtgianidegmkghaaDoor
open Go.RowKit
set_option linter.unusedVariables false

theorem fold_take {σ : Type} (f : σ → Int → σ) (s : σ) {word : List Int} {k : Nat} {x : Int} (h : k < word.length) (hx : Hid (x = word[k]?.getD 0)) : (word.take (k + 1)).foldl f s = f ((word.take k).foldl f s) x := by
  rw [List.take_add_one, List.getElem?_eq_getElem h, Option.toList_some, List.foldl_append, hx.out, List.getElem?_eq_getElem h]; rfl

set_option maxRecDepth 100000 in
set_option maxHeartbeats 8000000 in
theorem rfrom_go (st ev : Int) (starts : List Int) (ars : List Arr) (ends seen secret : List Int) (a1 : Option Addr) (c1 : Nat) (a2 : Option Addr) (c2 : Nat) (a3 : Option Addr) (c3 : Nat) (sa : Option Addr) (sc : Nat) (ta : Option Addr) (tc : Nat) (xa wa : Option Addr) (xc wc : Nat) (ss word : List Int) (w : World) (h : Hid (PAt w ⟨⟨st, ev, starts, ars, ends⟩, seen, secret⟩ ⟨⟨a1, c1, a2, c2, a3, c3⟩, sa, sc, ta, tc⟩)) (hm : Hid (mayB ⟨st, ev, starts, ars, ends⟩ = true)) (hs : Hid (At w xa ss)) (hsl : Hid (ss.length ≤ 4096)) (hsn : Hid (xa = none → xc = 0)) (hw : Hid (At w wa word)) (hwl : word.length ≤ 9223372036854775807) :
    Calls Tryd.prog 78 #[ptval ⟨⟨st, ev, starts, ars, ends⟩, seen, secret⟩ ⟨⟨a1, c1, a2, c2, a3, c3⟩, sa, sc, ta, tc⟩, .slice xa ss.length xc, .slice wa word.length wc] w fun e w' => GivesO w (fromL ⟨⟨st, ev, starts, ars, ends⟩, seen, secret⟩ ss word) e w' := by
  have hz := mayB_size hm.out
  unfold sizeOk at hz
  dsimp only at hz
  have hlen : Hid (ars.length ≤ 4096) := show _ ≤ _ by omega
  clear hz
  have hto : Hid (∀ a ∈ ars, 0 ≤ a.t ∧ a.t < (256 : Nat)) := may_to hm.out
  have B : Hid (Below w.heap.size w (w.alloc (.cells (ptcells ⟨⟨st, ev, starts, ars, ends⟩, seen, secret⟩ ⟨⟨a1, c1, a2, c2, a3, c3⟩, sa, sc, ta, tc⟩) 44))) := (Below.refl _ _).alloc (Nat.le_refl _) _
  have K : Hid (Blk (w.alloc (.cells (ptcells ⟨⟨st, ev, starts, ars, ends⟩, seen, secret⟩ ⟨⟨a1, c1, a2, c2, a3, c3⟩, sa, sc, ta, tc⟩) 44)) w.heap.size 44 (ptcells ⟨⟨st, ev, starts, ars, ends⟩, seen, secret⟩ ⟨⟨a1, c1, a2, c2, a3, c3⟩, sa, sc, ta, tc⟩)) := Blk.new w _ _
  go_enter Tryd.func78, Tryd.ntmps78
  go_wp2_with fail
  revert B K
  show Hid (Below w.heap.size w (w.alloc (.cells #[.int .i64 st, .int .i64 ev, .slice a1 starts.length c1, .slice a2 ars.length c2, .slice a3 ends.length c3, .slice sa seen.length sc, .slice ta secret.length tc] 44))) → _
  generalize w.alloc (.cells #[.int .i64 st, .int .i64 ev, .slice a1 starts.length c1, .slice a2 ars.length c2, .slice a3 ends.length c3, .slice sa seen.length sc, .slice ta secret.length tc] 44) = V0
  intro B K
  refine (refWide_any ⟨st, ev, starts, ars, ends⟩ ⟨a1, c1, a2, c2, a3, c3⟩ xa sa xc sc ss seen V0 (h.out.m.a.below B.out (Nat.le_refl _)) hlen.out hto.out (hs.out.below B.out (Nat.le_refl _)) hsl.out hsn.out (h.out.s.at_.below B.out (Nat.le_refl _)) h.out.s.len).mono ?_
  rintro e W1 ⟨v, rfl, ov, hb⟩
  have OV : Hid (Own W1 w.heap.size v (wideL ars seen ss)) := Own.low ov B.out.size
  replace B := Hid.of (B.out.trans (hb.mono B.out.size))
  replace K := Hid.of (K.out.below hb K.out.lt)
  clear hb ov
  go_wp2_with fail
  go_loopw [7, 8] (fun v7 i wr => ∃ k : Nat, i = .int .i64 k ∧ k ≤ word.length ∧ Hid (Own wr w.heap.size v7 ((word.take k).foldl (seeL ⟨⟨st, ev, starts, ars, ends⟩, seen, secret⟩) (wideL ars seen ss))) ∧ Hid (Below w.heap.size w wr) ∧ Hid (Blk wr w.heap.size 44 (ptcells ⟨⟨st, ev, starts, ars, ends⟩, seen, secret⟩ ⟨⟨a1, c1, a2, c2, a3, c3⟩, sa, sc, ta, tc⟩))) (fun _ i _ => word.length - (intOf i).toNat)
  case atStart => exact ⟨0, rfl, Nat.zero_le _, OV, B, K⟩
  case round =>
    clear OV B K
    obtain ⟨k, rfl, hk, OV, B, K⟩ := hrel
    by_cases hlt : k < word.length
    · rcases hw.out with hw0 | ⟨wb, wo, rfl, hwb, hwc⟩
      · rw [hw0] at hlt; simp at hlt
      obtain ⟨x, HX⟩ : ∃ x, Hid (x = word[k]?.getD 0) := ⟨_, rfl⟩
      have cw : wr.cell? ⟨wb, wo + k, none⟩ = some (.int .i64 x) := by
        rw [HX.out, ← List.getD_eq_getElem?_getD]
        exact (B.out.cell (p := ⟨wb, wo + k, none⟩) hwb).trans (hwc k hlt)
      have HWB := Hid.of hwb
      obtain ⟨x0, x1, x2, x3, x4, x5, x6⟩ := ptcell_at K.out
      dsimp only at x0 x1 x2 x3 x4 x5 x6
      obtain ⟨va, vc, hva, vat, vl1, vl2, -⟩ := Own.at2 OV.out
      have hvl : Hid (((word.take k).foldl (seeL ⟨⟨st, ev, starts, ars, ends⟩, seen, secret⟩) (wideL ars seen ss)).length ≤ maxLen) := Nat.le_trans vl1 vl2
      have HV := Hid.of vat
      have HNX : Hid ((word.take (k + 1)).foldl (seeL ⟨⟨st, ev, starts, ars, ends⟩, seen, secret⟩) (wideL ars seen ss) = seeL ⟨⟨st, ev, starts, ars, ends⟩, seen, secret⟩ ((word.take k).foldl (seeL ⟨⟨st, ev, starts, ars, ends⟩, seen, secret⟩) (wideL ars seen ss)) x) := fold_take _ _ hlt HX
      subst hva
      clear vat vl1 vl2 hwc hwb
      revert HNX HV hvl OV
      generalize (word.take k).foldl (seeL ⟨⟨st, ev, starts, ars, ends⟩, seen, secret⟩) (wideL ars seen ss) = cur
      intro hvl HV HNX OV
      go_wp2_with fail
      refine wp_region_held_drew (S := fun w' => w'.cell? ⟨w.heap.size, 0, none⟩ = some (.int .i64 st) ∧ w'.cell? ⟨w.heap.size, 1, none⟩ = some (.int .i64 ev) ∧ w'.cell? ⟨w.heap.size, 2, none⟩ = some (.slice a1 starts.length c1) ∧ w'.cell? ⟨w.heap.size, 3, none⟩ = some (.slice a2 ars.length c2) ∧ w'.cell? ⟨w.heap.size, 4, none⟩ = some (.slice a3 ends.length c3) ∧ w'.cell? ⟨w.heap.size, 5, none⟩ = some (.slice sa seen.length sc) ∧ w'.cell? ⟨w.heap.size, 6, none⟩ = some (.slice ta secret.length tc) ∧ w'.cell? ⟨wb, wo + k, none⟩ = some (.int .i64 x)) (by kernel_rfl) ⟨x0, x1, x2, x3, x4, x5, x6, cw⟩ (fun hS => ?_)
      have Bd : Hid (Below w.heap.size w wr.drew) := B.out.drew
      have Kd : Hid (Blk wr.drew w.heap.size 44 (ptcells ⟨⟨st, ev, starts, ars, ends⟩, seen, secret⟩ ⟨⟨a1, c1, a2, c2, a3, c3⟩, sa, sc, ta, tc⟩)) := Blk.drew K.out
      have HVd : Hid (At wr.drew va cur) := At.drewN HV.out 1
      have CW : Hid (wr.drew.cell? ⟨wb, wo + k, none⟩ = some (.int .i64 x)) := cw
      clear x0 x1 x2 x3 x4 x5 x6 cw B K HV OV
      revert hS Bd Kd HVd CW
      generalize wr.drew = Y
      intro hS Bd Kd HVd CW
      refine wpAnyH_take (i := 0) (v := .pointer (some ⟨w.heap.size, 0, none⟩)) rfl (by kernel_rfl) (by kernel_rfl) (by kernel_rfl) (fun _ _ _ h => h) (Or.inl ⟨by kernel_rfl, fun w' hw' => by obtain ⟨q0, q1, q2, q3, q4, q5, q6, q7⟩ := hw'; go_simp⟩) hS ?_
      refine wpAnyH_take (i := 1) (v := mval ⟨st, ev, starts, ars, ends⟩ ⟨a1, c1, a2, c2, a3, c3⟩) rfl (by kernel_rfl) (by kernel_rfl) (by kernel_rfl) (fun _ _ _ h => h) (Or.inl ⟨by kernel_rfl, fun w' hw' => by obtain ⟨q0, q1, q2, q3, q4, q5, q6, q7⟩ := hw'; go_simp⟩) hS ?_
      refine wpAnyH_take (i := 2) (v := .slice va cur.length vc) rfl (by kernel_rfl) (by kernel_rfl) (by kernel_rfl) (fun _ _ _ h => h) (Or.inl ⟨by kernel_rfl, fun w' hw' => by obtain ⟨q0, q1, q2, q3, q4, q5, q6, q7⟩ := hw'; go_simp⟩) hS ?_
      refine wpAnyH_take (i := 3) (v := .pointer (some ⟨w.heap.size, 5, none⟩)) rfl (by kernel_rfl) (by kernel_rfl) (by kernel_rfl) (fun _ _ _ h => h) (Or.inl ⟨by kernel_rfl, fun w' hw' => by obtain ⟨q0, q1, q2, q3, q4, q5, q6, q7⟩ := hw'; go_simp⟩) hS ?_
      refine wpAnyH_take (i := 4) (v := .slice sa seen.length sc) rfl (by kernel_rfl) (by kernel_rfl) (by kernel_rfl) (fun _ _ _ h => h) (Or.inl ⟨by kernel_rfl, fun w' hw' => by obtain ⟨q0, q1, q2, q3, q4, q5, q6, q7⟩ := hw'; go_simp⟩) hS ?_
      refine wpAnyH_take (i := 5) (v := .slice (some ⟨wb, wo, none⟩) word.length wc) rfl (by kernel_rfl) (by kernel_rfl) (by kernel_rfl) (fun _ _ _ h => h) (Or.inl ⟨by kernel_rfl, fun w' hw' => by obtain ⟨q0, q1, q2, q3, q4, q5, q6, q7⟩ := hw'; go_simp⟩) hS ?_
      refine wpAnyH_take (i := 6) (v := .int .i64 k) rfl (by kernel_rfl) (by kernel_rfl) (by kernel_rfl) (fun _ _ _ h => h) (Or.inl ⟨by kernel_rfl, fun w' hw' => by obtain ⟨q0, q1, q2, q3, q4, q5, q6, q7⟩ := hw'; go_simp⟩) hS ?_
      refine wpAnyH_take (i := 7) (v := .pointer (some ⟨wb, wo + k, none⟩)) rfl (by kernel_rfl) (by kernel_rfl) (by kernel_rfl) (fun _ _ _ h => h) (Or.inl ⟨by kernel_rfl, fun w' hw' => by obtain ⟨q0, q1, q2, q3, q4, q5, q6, q7⟩ := hw'; go_simp⟩) hS ?_
      refine wpAnyH_take (i := 8) (v := .int .i64 x) rfl (by kernel_rfl) (by kernel_rfl) (by kernel_rfl) (fun _ _ _ h => h) (Or.inl ⟨by kernel_rfl, fun w' hw' => by obtain ⟨q0, q1, q2, q3, q4, q5, q6, q7⟩ := hw'; go_simp⟩) hS ?_
      simp only [Act.put, List.setIfInBounds_toArray]
      refine wpAnyH_ready (rs := [9]) (by kernel_rfl) (by simp) ?_
      refine AllReadyH.cons rfl (fun K' hK' => ?_) AllReadyH.nil
      go_simp
      refine (refSeeing_any ⟨st, ev, starts, ars, ends⟩ ⟨a1, c1, a2, c2, a3, c3⟩ va sa vc sc cur seen x Y (h.out.m.a.below Bd.out (Nat.le_refl _)) hlen.out hto.out HVd.out hvl.out (h.out.s.at_.below Bd.out (Nat.le_refl _)) h.out.s.len).mono ?_
      rintro e Y1 ⟨v, rfl, ov, hb⟩
      have OV : Hid (Own Y1 w.heap.size v (seeL ⟨⟨st, ev, starts, ars, ends⟩, seen, secret⟩ cur x)) := Own.low ov Bd.out.size
      have B := Hid.of (Bd.out.trans (hb.mono Bd.out.size))
      have K := Hid.of (Kd.out.below hb Kd.out.lt)
      have cw1 : Y1.cell? ⟨wb, wo + k, none⟩ = some (.int .i64 x) := (hb.cell (p := ⟨wb, wo + k, none⟩) (Nat.lt_of_lt_of_le HWB.out Bd.out.size)).trans CW.out
      obtain ⟨x0, x1, x2, x3, x4, x5, x6⟩ := ptcell_at K.out
      obtain ⟨na, nc, hna, -, -, -⟩ := own_form2 OV.out
      subst hna
      refine hK'.out _ _ ⟨x0, x1, x2, x3, x4, x5, x6, cw1⟩ (fun hS1 => ?_)
      clear hK' K' hb ov hS x0 x1 x2 x3 x4 x5 x6 cw1 Bd Kd HVd CW
      refine wpAnyH_take (i := 10) (v := .slice na (seeL ⟨⟨st, ev, starts, ars, ends⟩, seen, secret⟩ cur x).length nc) rfl (by kernel_rfl) (by kernel_rfl) (by kernel_rfl) (fun _ _ _ h => h) (Or.inl ⟨by kernel_rfl, fun w' hw' => by obtain ⟨q0, q1, q2, q3, q4, q5, q6, q7⟩ := hw'; go_simp⟩) hS1 ?_
      refine wpAnyH_done (by kernel_rfl) ?_ _
      clear hS1
      revert HNX OV
      generalize seeL ⟨⟨st, ev, starts, ars, ends⟩, seen, secret⟩ cur x = nxt
      intro HNX OV
      go_wp2_with fail
      go_roundw
      case rel => exact ⟨k + 1, by go_num, by omega, (by show Own _ _ _ _; rw [HNX.out]; exact OV.out), B, K⟩
      case measure => simp [intOf]; omega
    · have hk2 : k = word.length := by omega
      have HE : Hid ((word.take k).foldl (seeL ⟨⟨st, ev, starts, ars, ends⟩, seen, secret⟩) (wideL ars seen ss) = fromL ⟨⟨st, ev, starts, ars, ends⟩, seen, secret⟩ ss word) := by show _ = _; rw [hk2, List.take_of_length_le (Nat.le_refl _)]; rfl
      have hltD : decide ((k : Int) < (word.length : Int)) = false := by simp; omega
      clear hk2
      rw [HE.out] at OV
      go_wp2_with fail
      go_ret
      exact ⟨_, rfl, OV.out, B.out⟩

theorem rFrom_any (p : Plant) (P : PTL) (xa wa : Option Addr) (xc wc : Nat) (ss word : List Int) (w : World) (h : PAt w p P) (hm : mayB p.m = true) (hs : At w xa ss) (hsl : ss.length ≤ 4096) (hsn : xa = none → xc = 0) (hw : At w wa word) (hwl : word.length ≤ maxLen) :
    Calls Tryd.prog 78 #[ptval p P, .slice xa ss.length xc, .slice wa word.length wc] w fun e w' => GivesO w (fromL p ss word) e w' := by
  obtain ⟨⟨st, ev, starts, ars, ends⟩, seen, secret⟩ := p
  obtain ⟨⟨a1, c1, a2, c2, a3, c3⟩, sa, sc, ta, tc⟩ := P
  exact rfrom_go st ev starts ars ends seen secret a1 c1 a2 c2 a3 c3 sa sc ta tc xa wa xc wc ss word w (Hid.of h) (Hid.of hm) (Hid.of hs) (Hid.of hsl) (Hid.of hsn) (Hid.of hw) hwl

set_option maxRecDepth 100000 in
set_option maxHeartbeats 4000000 in
theorem rEst_any (p : Plant) (P : PTL) (wa : Option Addr) (wc : Nat) (word : List Int) (w : World) (h : PAt w p P) (hm : mayB p.m = true) (hw : At w wa word) (hwl : word.length ≤ maxLen) :
    Calls Tryd.prog 35 #[ptval p P, .slice wa word.length wc] w fun e w' => GivesO w (estL p word) e w' := by
  have hsl : p.m.starts.length ≤ 4096 := by
    have h1 := mayB_size hm
    unfold sizeOk at h1
    have h2 := may_starts hm
    have := nodup_len 256 _ (inc_nodup h2.1) (fun x hx => by have := h2.2 x hx; omega)
    omega
  have B : Hid (Below w.heap.size w (w.alloc (.cells (ptcells p P) 44))) := (Below.refl _ _).alloc (Nat.le_refl _) _
  have H := Hid.of h
  have HM := Hid.of hm
  have HW := Hid.of hw
  have HWL := Hid.of hwl
  have HSL := Hid.of hsl
  clear h hm hw hwl hsl
  go_enter Tryd.func35, Tryd.ntmps35
  go_wp2_with fail
  have KEY := Hid.of (rFrom_any p P P.l.a1 wa P.l.c1 wc p.m.starts word _ (H.out.below B.out (Nat.le_refl _)) HM.out (H.out.m.s.below B.out (Nat.le_refl _)) HSL.out H.out.m.s3 (HW.out.below B.out (Nat.le_refl _)) HWL.out)
  refine KEY.out.mono ?_
  rintro e W1 ⟨v, rfl, ov, hb⟩
  have OV : Hid (Own W1 w.heap.size v (estL p word)) := Own.low ov B.out.size
  have B1 := Hid.of (B.out.trans (hb.mono B.out.size))
  clear ov hb KEY
  go_wp2_with fail
  go_ret
  exact ⟨v, rfl, OV.out, B1.out⟩

end Go.Proofs.YtgianidegmkghaaDoor
