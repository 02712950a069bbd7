/-
  The walk of current.Estimate.
  The walk of current.Leak.
  Plain mathematics of machines beside one another: pairs as they are found, arrows between them. No program, no model.
  The walks of what the laws on plants lean on: jalousielaw.seen, all, best; jalousiekeep.tells.
  The walks of jalousieref9.From and Estimate.
-/
import Derived.Test.YtgfpjfiikajadaaDoorG29
import Derived.Test.YtgfpjfiikajadaaDoorG32
import Derived.Test.YtgfpjfiikajadaaDoorG17
import Derived.Test.YtgfpjfiikajadaaDoorG15
import Derived.Test.YtgfpjfiikajadaaDoorG05
import Derived.Test.YtgfpjfiikajadaaDoorG09
import Derived.Test.YtgfpjfiikajadaaDoorG30
namespace Go.Proofs.YtgfpjfiikajadaaDoor
open Go.RowKit
set_option linter.unusedVariables false

theorem rep_start {p : Plant} (hp : mayP p = true) : RepI (ofS (wideL p.m.arrows p.seen p.m.starts)) (wideL p.m.arrows p.seen p.m.starts) := by
  obtain ⟨hm, z6, -, -⟩ := (mayP_iff p).1 hp
  have h1 := wide_in (p := p) hm (may_starts hm).2
  have := rep_of (l := wideL p.m.arrows p.seen p.m.starts) (fun x hx => by have := h1.2 x hx; omega) (wideL p.m.arrows p.seen p.m.starts).length
  rw [List.take_of_length_le (Nat.le_refl _)] at this
  exact ⟨this, h1.1⟩
theorem allIn_eq (seen xs : List Int) : allIn seen xs = inSeen seen xs := by
  rw [Bool.eq_iff_iff, allIn_iff, inSeen_iff]
/-- What Estimate knows behind the first k events. -/
structure ES (p : Plant) (word : List Int) (k : Nat) (S : Nat → Nat) : Prop where
  rep : RepI S (estL p (word.take k))
theorem est_cl {p : Plant} (hm : mayB p.m = true) (u : List Int) : ClU p (estL p u) := clU_fold hm u _ (clU_start hm)
theorem est_snoc (p : Plant) (u : List Int) (e : Int) : estL p (u ++ [e]) = seeL p (estL p u) e := by
  unfold estL fromL
  rw [List.foldl_append]; rfl
theorem est_more (p : Plant) (hm : mayB p.m = true) (u v : List Int) (h : estL p u = []) : estL p (u ++ v) = [] := by
  unfold estL fromL at h ⊢
  rw [List.foldl_append, h]
  exact fold_nil hm v
theorem es_next {p : Plant} (hp : mayP p = true) {word : List Int} {k : Nat} {S : Nat → Nat} (h : ES p word k S) (hk : k < word.length) {ev : Int} (he : Hid (ev = word[k]?.getD 0)) {j : Nat} (hj : Hid (placeN p.seen ev = some j)) : ES p word (k + 1) (leadS p.seen.length (hideM p.m p.seen).arrows S j) := by
  obtain ⟨hm, -, -, -⟩ := (mayP_iff p).1 hp
  have h1 := placeN_some hj.out
  have hl := (List.getElem?_eq_some_iff.1 h1).1
  have h2 := rep_see hp h.rep (est_cl hm _) hl
  refine ⟨?_⟩
  have h3 : word[k]? = some ev := by rw [he.out, List.getElem?_eq_getElem hk, Option.getD_some]
  rw [List.take_add_one, h3, Option.toList_some, est_snoc]
  have h4 : seeD p (estL p (word.take k)) j = seeL p (estL p (word.take k)) ev := by unfold seeD; rw [h1, Option.getD_some]
  rw [← h4]; exact h2
/-- Nothing more is to be known: what Row answers. -/
theorem es_row {p : Plant} (hm : mayB p.m = true) {word : List Int} {k : Nat} {S : Nat → Nat} (h : ES p word k S) (hk : emptyB S = true ∨ word.length ≤ k) : rowS S = estL p word := by
  rw [rep_row h.rep.1 h.rep.2]
  rcases hk with he | hk
  · have := empty_yes h.rep.1 he
    rw [this]
    have e := est_more p hm (word.take k) (word.drop k) this
    rw [List.take_append_drop] at e
    exact e.symm
  · rw [List.take_of_length_le hk]

set_option maxRecDepth 100000 in
set_option maxHeartbeats 4000000 in
theorem est_bad (p : Plant) (P : PTL) (wa : Option Addr) (wc : Nat) (word : List Int) (w : World) (h : Hid (PAt w p P)) (hp : Hid (mayP p = false)) :
    Calls Tryd.prog 34 #[ptval p P, .slice wa word.length wc] w fun e w' => ListPost w (estOut p word) e w' := by
  have B : Hid (Below w.heap.size w (w.alloc (.cells (ptcells p P) 50))) := (Below.refl _ _).alloc (Nat.le_refl _) _
  have KP : Hid (Blk (w.alloc (.cells (ptcells p P) 50)) w.heap.size 50 (ptcells p P)) := Blk.new w _ _
  go_enter Tryd.func34, Tryd.ntmps34
  obtain ⟨x0, x1, x2, x3, x4, x5, x6⟩ := ptcell_at KP.out
  go_wp2_with fail
  clear x0 x1 x2 x3 x4 x5 x6
  revert B KP
  generalize (w.alloc (.cells (ptcells p P) 50)) = V0
  intro B KP
  refine (cwatch_bad p P V0 (Hid.of (h.out.below B.out (Nat.le_refl _))) hp).mono ?_
  rintro e V1 ⟨rfl, hb⟩
  replace B := Hid.of (B.out.trans (hb.mono B.out.size))
  clear hb KP
  have B2 : Hid (Below w.heap.size w (V1.alloc (.cells zs4 65))) := B.out.alloc B.out.size _
  clear B
  go_wp2_with fail
  refine bodyPost_ret (v := .tuple #[.slice none 0 0, .int .i64 2]) (by simp [results, go_sem]) rfl ?_
  rw [estOut_bad hp.out]
  exact ⟨none, 0, rfl, .inl rfl, Nat.zero_le _, B2.out⟩

set_option maxRecDepth 100000 in
set_option maxHeartbeats 16000000 in
theorem est_ok (p : Plant) (P : PTL) (wa : Option Addr) (wc : Nat) (word : List Int) (w : World) (h : Hid (PAt w p P)) (hw : Hid (At w wa word)) (hwl : Hid (word.length ≤ maxLen)) (hT : Hid (Tab w)) (hp : Hid (mayP p = true)) :
    Calls Tryd.prog 34 #[ptval p P, .slice wa word.length wc] w fun e w' => ListPost w (estOut p word) e w' := by
  obtain ⟨hm, z6, hrr, -⟩ := (mayP_iff p).1 hp.out
  have hz := mayB_size hm
  unfold sizeOk at hz
  have h8 : p.seen.length ≤ 8 := by have := row_short (by omega) (by omega) hrr; omega
  have h256 : p.m.st.toNat ≤ 256 := by omega
  have HMM := Hid.of hm
  have H8 := Hid.of h8
  have H256 := Hid.of h256
  clear hz hrr hm z6 h8 h256
  have B : Hid (Below w.heap.size w (w.alloc (.cells (ptcells p P) 50))) := (Below.refl _ _).alloc (Nat.le_refl _) _
  have KP : Hid (Blk (w.alloc (.cells (ptcells p P) 50)) w.heap.size 50 (ptcells p P)) := Blk.new w _ _
  go_enter Tryd.func34, Tryd.ntmps34
  obtain ⟨x0, x1, x2, x3, x4, x5, x6⟩ := ptcell_at KP.out
  go_wp2_with fail
  clear x0 x1 x2 x3 x4 x5 x6
  revert B KP
  generalize (w.alloc (.cells (ptcells p P) 50)) = V0
  intro B KP
  refine (cwatch_ok p P V0 (Hid.of (h.out.below B.out (Nat.le_refl _))) (Hid.of (hT.out.below B.out hT.out.lt)) hp).mono ?_
  rintro e V1 ⟨pl, pp, L0, rfl, cl, hb⟩
  replace B := Hid.of (B.out.trans (hb.mono B.out.size))
  replace KP := Hid.of (KP.out.below hb KP.out.lt)
  have HCL := Hid.of cl
  clear hb cl
  obtain ⟨Q, HQ⟩ : ∃ Q, Hid (Q = ofS (wideL p.m.arrows p.seen p.m.starts)) := ⟨_, rfl⟩
  have HRQ : Hid (RepI Q (wideL p.m.arrows p.seen p.m.starts)) := by rw [HQ.out]; exact rep_start hp.out
  rw [← HQ.out]
  have BV : Hid (Below V1.heap.size V1 (V1.alloc (.cells (scells Q) 65))) := (Below.refl _ _).alloc (Nat.le_refl _) _
  have KS : Hid (SB (V1.alloc (.cells (scells Q) 65)) V1.heap.size Q) := Blk.new V1 _ _
  obtain ⟨x0, x1, x2, x3, x4, x5, x6⟩ := ptcell_at (KP.out.below BV.out KP.out.lt)
  obtain ⟨y0, y1, y2, y3⟩ := SB.cells KS.out
  go_wp2_with fail
  clear x0 x1 x2 x3 x4 x5 x6 y0 y1 y2 y3
  revert BV KS
  generalize V1.alloc (.cells (scells Q) 65) = V2
  intro BV KS
  refine (cisSeen_any p P wa wc word V2 (Hid.of (h.out.below (B.out.trans (BV.out.mono B.out.size)) (Nat.le_refl _))) (Hid.of (hw.out.below (B.out.trans (BV.out.mono B.out.size)) (Nat.le_refl _))) hwl).mono ?_
  rintro e V3 ⟨rfl, hb⟩
  rw [allIn_eq]
  replace BV := Hid.of (BV.out.trans (hb.mono BV.out.size))
  replace KS := Hid.of (KS.out.below hb KS.out.lt)
  clear hb
  cases hin : inSeen p.seen word with
  | false =>
    have HO : Hid (estOut p word = ([], 6)) := estOut_out hp.out hin
    clear hin
    go_wp2_with fail
    refine bodyPost_ret (v := .tuple #[.slice none 0 0, .int .i64 6]) (by simp [results, go_sem]) rfl ?_
    rw [HO.out]
    exact ⟨none, 0, rfl, .inl rfl, Nat.zero_le _, B.out.trans (BV.out.mono B.out.size)⟩
  | true =>
    have HO : Hid (estOut p word = (estL p word, 0)) := estOut_ok hp.out hin
    have HIN : Hid (∀ e ∈ word, e ∈ p.seen) := (inSeen_iff _ _).1 hin
    have hwl2 : word.length ≤ 9223372036854775807 := hwl.out
    clear hin
    go_wp2_with fail
    go_loopw [26] (fun i wr => ∃ (k : Nat) (S : Nat → Nat), i = .int .i64 k ∧ k ≤ word.length ∧ Hid (ES p word k S) ∧ Hid (Below V1.heap.size V1 wr) ∧ Hid (SB wr V1.heap.size S)) (fun i _ => word.length - (intOf i).toNat)
    case atStart => exact ⟨0, Q, rfl, Nat.zero_le _, Hid.of ⟨HRQ.out⟩, BV, KS⟩
    case round =>
      clear BV KS HRQ HQ
      obtain ⟨k, S, rfl, hk, HES, BV, KS⟩ := hrel
      by_cases hlt : k < word.length
      · obtain ⟨bs, os, ev, rfl, HEV, HSC⟩ : ∃ (bs os : Nat) (ev : Int), wa = some ⟨bs, os, none⟩ ∧ Hid (ev = word[k]?.getD 0) ∧ wr.cell? ⟨bs, os + k, none⟩ = some (.int .i64 ev) := by
          rcases hw.out with h0 | ⟨bs, os, ha, hb, hc⟩
          · have : word.length = 0 := by rw [h0]; rfl
            omega
          · obtain ⟨ev, hev, hcell⟩ := hc.at hlt
            refine ⟨bs, os, ev, ha, hev, ?_⟩
            exact ((B.out.trans (BV.out.mono B.out.size)).cell (p := ⟨bs, os + k, none⟩) hb).trans hcell
        obtain ⟨j, HJ⟩ : ∃ j, Hid (placeN p.seen ev = some j) := placeN_mem (HIN.out ev (by rw [HEV.out, List.getElem?_eq_getElem hlt, Option.getD_some]; exact List.getElem_mem hlt))
        have HJL : Hid (j < p.seen.length) := (List.getElem?_eq_some_iff.1 (placeN_some HJ.out)).1
        obtain ⟨y0, y1, y2, y3⟩ := SB.cells KS.out
        have hgd := run_guard_set
        cases hE : emptyB S with
        | true =>
          have heq : (Op.equalIn 10000 65 (.agg #[.int .u64 (S 0), .int .u64 (S 1), .int .u64 (S 2), .int .u64 (S 3)]) (.agg #[.int .u64 0, .int .u64 0, .int .u64 0, .int .u64 0])).run Tryd.prog wr = .ok true wr := by rw [← hE]; exact run_equalIn_set S wr
          have HEQ : Hid (rowS S = estL p word) := es_row HMM.out HES.out (.inl hE)
          clear hE
          go_wp2_with fail
          refine (row_any S _ HES.out.rep.1.ok (hT.out.below (B.out.trans (BV.out.mono B.out.size)) hT.out.lt)).mono ?_
          rintro e W9 ⟨ra, rc, rfl, rat, rln, hb⟩
          obtain ⟨R, HRr⟩ : ∃ R, Hid (R = rowS S) := ⟨_, rfl⟩
          rw [← HRr.out] at rat rln
          rw [← HRr.out]
          have RA := Hid.of rat
          have RL := Hid.of rln
          have B9 := Hid.of (B.out.trans ((BV.out.trans (hb.mono BV.out.size)).mono B.out.size))
          clear rat rln hb
          go_wp2_with fail
          refine bodyPost_ret (v := .tuple #[.slice ra R.length rc, .int .i64 0]) (by simp [results, go_sem]) rfl ?_
          rw [HO.out, ← HEQ.out, ← HRr.out]
          exact ⟨ra, rc, rfl, RA.out, RL.out, B9.out⟩
        | false =>
          have heq : (Op.equalIn 10000 65 (.agg #[.int .u64 (S 0), .int .u64 (S 1), .int .u64 (S 2), .int .u64 (S 3)]) (.agg #[.int .u64 0, .int .u64 0, .int .u64 0, .int .u64 0])).run Tryd.prog wr = .ok false wr := by rw [← hE]; exact run_equalIn_set S wr
          have HN : Hid (ES p word (k + 1) (leadS p.seen.length (hideM p.m p.seen).arrows S j)) := es_next hp.out HES.out hlt HEV HJ
          have hcall := Hid.of (cwatch1_any p P S ev j HJ HJL.out H8.out H256.out (Hid.of HES.out.rep.1.ok) (Hid.of (all_lt HES.out.rep (est_cl HMM.out _))) pl pp L0 wr (Hid.of (hT.out.below (B.out.trans (BV.out.mono B.out.size)) hT.out.lt)) (Hid.of (HCL.out.kept BV.out)))
          obtain ⟨Q2, HQ2⟩ : ∃ Q2, Hid (Q2 = leadS p.seen.length (hideM p.m p.seen).arrows S j) := ⟨_, rfl⟩
          rw [← HQ2.out] at hcall HN
          clear hE
          go_wp2_with fail
          refine hcall.out.mono ?_
          rintro r w1 ⟨rfl, hb1⟩
          have BV1 := Hid.of (BV.out.trans (hb1.mono BV.out.size))
          have KS1 := Hid.of (KS.out.below hb1 KS.out.lt)
          clear hb1 y0 y1 y2 y3 heq hcall HSC
          obtain ⟨y0, y1, y2, y3⟩ := SB.cells KS1.out
          have yz := KS1.out.frozen
          have KS2 := Hid.of (SB.set4 KS1.out Q2)
          have BV2 := Hid.of (below_set4 BV1.out (b' := V1.heap.size) (Nat.le_refl _) (.int .u64 (Q2 0)) (.int .u64 (Q2 1)) (.int .u64 (Q2 2)) (.int .u64 (Q2 3)))
          go_wp2_with fail
          go_roundw
          case rel => exact ⟨k + 1, Q2, by go_num, by omega, HN, BV2, KS2⟩
          case measure => simp [intOf]; omega
      · have HEQ : Hid (rowS S = estL p word) := es_row HMM.out HES.out (.inr (by omega))
        obtain ⟨y0, y1, y2, y3⟩ := SB.cells KS.out
        go_wp2_with fail
        refine (row_any S _ HES.out.rep.1.ok (hT.out.below (B.out.trans (BV.out.mono B.out.size)) hT.out.lt)).mono ?_
        rintro e W9 ⟨ra, rc, rfl, rat, rln, hb⟩
        obtain ⟨R, HRr⟩ : ∃ R, Hid (R = rowS S) := ⟨_, rfl⟩
        rw [← HRr.out] at rat rln
        rw [← HRr.out]
        have RA := Hid.of rat
        have RL := Hid.of rln
        have B9 := Hid.of (B.out.trans ((BV.out.trans (hb.mono BV.out.size)).mono B.out.size))
        clear rat rln hb
        go_wp2_with fail
        refine bodyPost_ret (v := .tuple #[.slice ra R.length rc, .int .i64 0]) (by simp [results, go_sem]) rfl ?_
        rw [HO.out, ← HEQ.out, ← HRr.out]
        exact ⟨ra, rc, rfl, RA.out, RL.out, B9.out⟩

theorem pEst_any (p : Plant) (P : PTL) (wa : Option Addr) (wc : Nat) (word : List Int) (w : World) (h : PAt w p P) (hw : At w wa word) (hwl : word.length ≤ maxLen) (hT : Tab w) :
    Calls Tryd.prog 34 #[ptval p P, .slice wa word.length wc] w fun e w' => ListPost w (estOut p word) e w' := by
  cases hp : mayP p with
  | false => exact est_bad p P wa wc word w (Hid.of h) (Hid.of hp)
  | true => exact est_ok p P wa wc word w (Hid.of h) (Hid.of hw) (Hid.of hwl) (Hid.of hT) (Hid.of hp)

end Go.Proofs.YtgfpjfiikajadaaDoor
namespace Go.Proofs.YtgfpjfiikajadaaDoor
open Go.RowKit
set_option linter.unusedVariables false

theorem cleast_out (p : Plant) (Pl : ML) (sa : Option Addr) (sc : Nat) (ta : Option Addr) (tc : Nat) (hp : Hid (mayP p = true)) (S0 : Nat → Nat) (hr0 : Hid (RepI S0 (wideL p.m.arrows p.seen p.m.starts))) (T : Nat → Nat) (hRT : Hid (Rep T p.secret)) (pl pp : Nat) (L0 : LB) (w : World) (hT : Hid (Tab w)) (hL : Hid (CL w pl pp L0 p ⟨Pl, sa, sc, ta, tc⟩)) :
    Calls Tryd.prog 79 #[sval S0, .slice sa p.seen.length sc, cleadV pl pp, sval T] w fun e w' => ∃ va vc n bl, e = .returned (.tuple #[.slice va n vc, .bool bl]) ∧ n = ((outC p).getD []).length ∧ bl = (outC p).isSome ∧ At w' va ((outC p).getD []) ∧ ((outC p).getD []).length ≤ maxLen ∧ Below w.heap.size w w' := by
  refine (cleast_any p Pl sa sc ta tc hp S0 hr0 T hRT pl pp L0 w hT hL).mono ?_
  intro e w' hp
  unfold CLeastPost at hp
  cases ho : outC p with
  | none =>
    rw [ho] at hp
    obtain ⟨rfl, hb⟩ := hp
    exact ⟨none, 0, 0, false, rfl, rfl, rfl, .inl rfl, Nat.zero_le _, hb⟩
  | some u =>
    rw [ho] at hp
    obtain ⟨v, rfl, hv, hb⟩ := hp
    obtain ⟨va, vc, rfl, h1, h2⟩ := Own.at hv
    exact ⟨va, vc, _, true, rfl, rfl, rfl, h1, h2, hb⟩

set_option maxRecDepth 100000 in
set_option maxHeartbeats 4000000 in
theorem leakC_bad (p : Plant) (P : PTL) (w : World) (h : Hid (PAt w p P)) (hp : Hid (mayP p = false)) :
    Calls Tryd.prog 35 #[ptval p P] w fun e w' => LeakPost w (leakOut p (outC p)) e w' := by
  have B : Hid (Below w.heap.size w (w.alloc (.cells (ptcells p P) 50))) := (Below.refl _ _).alloc (Nat.le_refl _) _
  have KP : Hid (Blk (w.alloc (.cells (ptcells p P) 50)) w.heap.size 50 (ptcells p P)) := Blk.new w _ _
  go_enter Tryd.func35, Tryd.ntmps35
  obtain ⟨x0, x1, x2, x3, x4, x5, x6⟩ := ptcell_at KP.out
  go_wp2_with fail
  clear x0 x1 x2 x3 x4 x5 x6
  revert B KP
  generalize (w.alloc (.cells (ptcells p P) 50)) = V0
  intro B KP
  refine (cwatch_bad p P V0 (Hid.of (h.out.below B.out (Nat.le_refl _))) hp).mono ?_
  rintro e V1 ⟨rfl, hb⟩
  replace B := Hid.of (B.out.trans (hb.mono B.out.size))
  clear hb KP
  have B2 : Hid (Below w.heap.size w (V1.alloc (.cells zs4 65))) := B.out.alloc B.out.size _
  clear B
  go_wp2_with fail
  refine bodyPost_ret (v := .tuple #[.bool false, .slice none 0 0, .int .i64 2]) (by simp [results, go_sem]) rfl ?_
  rw [leakOut_bad hp.out]
  exact ⟨none, 0, rfl, .inl rfl, Nat.zero_le _, B2.out⟩

set_option maxRecDepth 100000 in
set_option maxHeartbeats 16000000 in
theorem leakC_ok (p : Plant) (Pl : ML) (sa : Option Addr) (sc : Nat) (ta : Option Addr) (tc : Nat) (w : World) (h : Hid (PAt w p ⟨Pl, sa, sc, ta, tc⟩)) (hT : Hid (Tab w)) (hp : Hid (mayP p = true)) :
    Calls Tryd.prog 35 #[ptval p ⟨Pl, sa, sc, ta, tc⟩] w fun e w' => LeakPost w (leakOut p (outC p)) e w' := by
  have sbd : Hid (∀ x ∈ p.secret, 0 ≤ x ∧ x < 256) := fun x hx => by
    obtain ⟨hm, z6, -, hr⟩ := (mayP_iff p).1 hp.out
    have hz := mayB_size hm
    unfold sizeOk at hz
    have := ((rowB_iff _ (by omega) _).1 hr).2 x hx
    omega
  have HRT : Hid (Rep (ofS p.secret) p.secret) := by
    have := rep_of sbd.out p.secret.length
    rwa [List.take_of_length_le (Nat.le_refl _)] at this
  have B : Hid (Below w.heap.size w (w.alloc (.cells (ptcells p ⟨Pl, sa, sc, ta, tc⟩) 50))) := (Below.refl _ _).alloc (Nat.le_refl _) _
  have KP : Hid (Blk (w.alloc (.cells (ptcells p ⟨Pl, sa, sc, ta, tc⟩) 50)) w.heap.size 50 (ptcells p ⟨Pl, sa, sc, ta, tc⟩)) := Blk.new w _ _
  go_enter Tryd.func35, Tryd.ntmps35
  obtain ⟨x0, x1, x2, x3, x4, x5, x6⟩ := ptcell_at KP.out
  go_wp2_with fail
  clear x0 x1 x2 x3 x4 x5 x6
  revert B KP
  generalize (w.alloc (.cells (ptcells p ⟨Pl, sa, sc, ta, tc⟩) 50)) = V0
  intro B KP
  refine (cwatch_ok p ⟨Pl, sa, sc, ta, tc⟩ V0 (Hid.of (h.out.below B.out (Nat.le_refl _))) (Hid.of (hT.out.below B.out hT.out.lt)) hp).mono ?_
  rintro e V1 ⟨pl, pp, L0, rfl, cl, hb⟩
  replace B := Hid.of (B.out.trans (hb.mono B.out.size))
  replace KP := Hid.of (KP.out.below hb KP.out.lt)
  have HCL := Hid.of cl
  clear hb cl
  obtain ⟨Q, HQ⟩ : ∃ Q, Hid (Q = ofS (wideL p.m.arrows p.seen p.m.starts)) := ⟨_, rfl⟩
  have HRQ : Hid (RepI Q (wideL p.m.arrows p.seen p.m.starts)) := by rw [HQ.out]; exact rep_start hp.out
  rw [← HQ.out]
  have BV : Hid (Below V1.heap.size V1 (V1.alloc (.cells (scells Q) 65))) := (Below.refl _ _).alloc (Nat.le_refl _) _
  have KS : Hid (SB (V1.alloc (.cells (scells Q) 65)) V1.heap.size Q) := Blk.new V1 _ _
  obtain ⟨x0, x1, x2, x3, x4, x5, x6⟩ := ptcell_at (KP.out.below BV.out KP.out.lt)
  obtain ⟨y0, y1, y2, y3⟩ := SB.cells KS.out
  go_wp2_with fail
  clear x0 x1 x2 x3 x4 x5 x6 y0 y1 y2 y3
  revert BV KS
  generalize V1.alloc (.cells (scells Q) 65) = V2
  intro BV KS
  have SA : Hid (∀ W, Blk W w.heap.size 50 (ptcells p ⟨Pl, sa, sc, ta, tc⟩) → SB W V1.heap.size Q → W.cell? ⟨V1.heap.size, 0, none⟩ = some (.int .u64 (Q 0)) ∧ W.cell? ⟨V1.heap.size, 1, none⟩ = some (.int .u64 (Q 1)) ∧ W.cell? ⟨V1.heap.size, 2, none⟩ = some (.int .u64 (Q 2)) ∧ W.cell? ⟨V1.heap.size, 3, none⟩ = some (.int .u64 (Q 3)) ∧ W.cell? ⟨w.heap.size, 5, none⟩ = some (.slice sa p.seen.length sc) ∧ W.cell? ⟨w.heap.size, 6, none⟩ = some (.slice ta p.secret.length tc)) := fun W h1 h2 => by
    obtain ⟨x0, x1, x2, x3, x4, x5, x6⟩ := ptcell_at h1
    obtain ⟨y0, y1, y2, y3⟩ := SB.cells h2
    exact ⟨y0, y1, y2, y3, x5, x6⟩
  refine wp_region_held_drew (S := fun w' => w'.cell? ⟨V1.heap.size, 0, none⟩ = some (.int .u64 (Q 0)) ∧ w'.cell? ⟨V1.heap.size, 1, none⟩ = some (.int .u64 (Q 1)) ∧ w'.cell? ⟨V1.heap.size, 2, none⟩ = some (.int .u64 (Q 2)) ∧ w'.cell? ⟨V1.heap.size, 3, none⟩ = some (.int .u64 (Q 3)) ∧ w'.cell? ⟨w.heap.size, 5, none⟩ = some (.slice sa p.seen.length sc) ∧ w'.cell? ⟨w.heap.size, 6, none⟩ = some (.slice ta p.secret.length tc)) (by kernel_rfl) (SA.out _ (Blk.drew (KP.out.below BV.out KP.out.lt)) (Blk.drew KS.out)) (fun hS => ?_)
  replace BV : Hid (Below V1.heap.size V1 V2.drew) := BV.out.drew
  replace KS : Hid (SB V2.drew V1.heap.size Q) := Blk.drew KS.out
  revert hS BV KS
  generalize V2.drew = Y0
  intro hS BV KS
  refine wpAnyH_take (i := 0) (v := sval Q) rfl (by kernel_rfl) (by kernel_rfl) (by kernel_rfl) (fun _ _ _ h => h) (Or.inl ⟨by kernel_rfl, fun w' hw' => by obtain ⟨q0, q1, q2, q3, q4, q5⟩ := hw'; go_simp⟩) hS ?_
  refine wpAnyH_take (i := 1) (v := .pointer (some ⟨w.heap.size, 5, none⟩)) rfl (by kernel_rfl) (by kernel_rfl) (by kernel_rfl) (fun _ _ _ h => h) (Or.inl ⟨by kernel_rfl, fun w' hw' => by obtain ⟨q0, q1, q2, q3, q4, q5⟩ := hw'; go_simp⟩) hS ?_
  refine wpAnyH_take (i := 2) (v := .slice sa p.seen.length sc) rfl (by kernel_rfl) (by kernel_rfl) (by kernel_rfl) (fun _ _ _ h => h) (Or.inl ⟨by kernel_rfl, fun w' hw' => by obtain ⟨q0, q1, q2, q3, q4, q5⟩ := hw'; go_simp⟩) hS ?_
  refine wpAnyH_take (i := 3) (v := cleadV pl pp) rfl (by kernel_rfl) (by kernel_rfl) (by kernel_rfl) (fun _ _ _ h => h) (Or.inl ⟨by kernel_rfl, fun w' hw' => by obtain ⟨q0, q1, q2, q3, q4, q5⟩ := hw'; go_simp⟩) hS ?_
  refine wpAnyH_take (i := 4) (v := .pointer (some ⟨w.heap.size, 6, none⟩)) rfl (by kernel_rfl) (by kernel_rfl) (by kernel_rfl) (fun _ _ _ h => h) (Or.inl ⟨by kernel_rfl, fun w' hw' => by obtain ⟨q0, q1, q2, q3, q4, q5⟩ := hw'; go_simp⟩) hS ?_
  refine wpAnyH_take (i := 5) (v := .slice ta p.secret.length tc) rfl (by kernel_rfl) (by kernel_rfl) (by kernel_rfl) (fun _ _ _ h => h) (Or.inl ⟨by kernel_rfl, fun w' hw' => by obtain ⟨q0, q1, q2, q3, q4, q5⟩ := hw'; go_simp⟩) hS ?_
  simp only [Act.put, List.setIfInBounds_toArray]
  refine wpAnyH_ready (rs := [6]) (by kernel_rfl) (by simp) ?_
  refine AllReadyH.cons rfl (fun K' hK' => ?_) AllReadyH.nil
  clear hS
  go_simp
  refine (of_any ta tc p.secret Y0 (h.out.t.at_.below (B.out.trans (BV.out.mono B.out.size)) (Nat.le_refl _)) h.out.t.len sbd.out).mono ?_
  rintro e Y1 ⟨rfl, hb⟩
  replace BV := Hid.of (BV.out.trans (hb.mono BV.out.size))
  replace KS := Hid.of (KS.out.below hb KS.out.lt)
  refine hK'.out _ _ (SA.out _ (KP.out.below BV.out KP.out.lt) KS.out) (fun hS => ?_)
  clear hK' K' hb
  refine wpAnyH_ready (rs := [7]) (by kernel_rfl) (by simp) ?_
  refine AllReadyH.cons rfl (fun K' hK' => ?_) AllReadyH.nil
  clear hS
  go_simp
  refine (cleast_out p Pl sa sc ta tc hp Q HRQ (ofS p.secret) HRT pl pp L0 Y1 (Hid.of (hT.out.below (B.out.trans (BV.out.mono B.out.size)) hT.out.lt)) (Hid.of (HCL.out.kept BV.out))).mono ?_
  rintro e Y2 ⟨va, vc, n, bl, rfl, hn, hbl, hat, hmx, hb⟩
  replace BV := Hid.of (BV.out.trans (hb.mono BV.out.size))
  replace KS := Hid.of (KS.out.below hb KS.out.lt)
  have HN := Hid.of hn
  have HBL := Hid.of hbl
  have HAT := Hid.of hat
  have HMX := Hid.of hmx
  refine hK'.out _ _ (SA.out _ (KP.out.below BV.out KP.out.lt) KS.out) (fun hS => ?_)
  clear hK' K' hb hn hbl hat hmx
  refine wpAnyH_take (i := 8) (v := .tuple #[.slice va n vc, .bool bl]) rfl (by kernel_rfl) (by kernel_rfl) (by kernel_rfl) (fun _ _ _ h => h) (Or.inl ⟨by kernel_rfl, fun w' hw' => by obtain ⟨q0, q1, q2, q3, q4, q5⟩ := hw'; go_simp⟩) hS ?_
  refine wpAnyH_take (i := 9) (v := .slice va n vc) rfl (by kernel_rfl) (by kernel_rfl) (by kernel_rfl) (fun _ _ _ h => h) (Or.inl ⟨by kernel_rfl, fun w' hw' => by obtain ⟨q0, q1, q2, q3, q4, q5⟩ := hw'; go_simp⟩) hS ?_
  refine wpAnyH_take (i := 10) (v := .bool bl) rfl (by kernel_rfl) (by kernel_rfl) (by kernel_rfl) (fun _ _ _ h => h) (Or.inl ⟨by kernel_rfl, fun w' hw' => by obtain ⟨q0, q1, q2, q3, q4, q5⟩ := hw'; go_simp⟩) hS ?_
  refine wpAnyH_take (i := 11) (v := .slice va n vc) rfl (by kernel_rfl) (by kernel_rfl) (by kernel_rfl) (fun _ _ _ h => h) (Or.inl ⟨by kernel_rfl, fun w' hw' => by obtain ⟨q0, q1, q2, q3, q4, q5⟩ := hw'; go_simp⟩) hS ?_
  refine wpAnyH_take (i := 12) (v := .bool bl) rfl (by kernel_rfl) (by kernel_rfl) (by kernel_rfl) (fun _ _ _ h => h) (Or.inl ⟨by kernel_rfl, fun w' hw' => by obtain ⟨q0, q1, q2, q3, q4, q5⟩ := hw'; go_simp⟩) hS ?_
  refine wpAnyH_done (by kernel_rfl) ?_ _
  clear hS
  go_wp2_with fail
  refine bodyPost_ret (v := .tuple #[.bool bl, .slice va n vc, .int .i64 0]) (by simp [results, go_sem]) rfl ?_
  rw [leakOut_ok hp.out, HBL.out, HN.out]
  exact ⟨va, vc, rfl, HAT.out, HMX.out, B.out.trans (BV.out.mono B.out.size)⟩

theorem pLeakC_any (p : Plant) (P : PTL) (w : World) (h : PAt w p P) (hT : Tab w) :
    Calls Tryd.prog 35 #[ptval p P] w fun e w' => LeakPost w (leakOut p (outC p)) e w' := by
  cases hp : mayP p with
  | false => exact leakC_bad p P w (Hid.of h) (Hid.of hp)
  | true =>
    obtain ⟨Pl, sa, sc, ta, tc⟩ := P
    exact leakC_ok p Pl sa sc ta tc w (Hid.of h) (Hid.of hT) (Hid.of hp)

end Go.Proofs.YtgfpjfiikajadaaDoor
namespace Go.Proofs.YtgfpjfiikajadaaDoor
open Go.RowKit
set_option linter.unusedVariables false

/-- A pair's place, or how many there are. -/
def findP : List (Int × Int) → Int → Int → Nat
  | [], _, _ => 0
  | p :: r, x, y => if p.1 = x ∧ p.2 = y then 0 else findP r x y + 1
theorem findP_le : ∀ (L : List (Int × Int)) (x y : Int), findP L x y ≤ L.length
  | [], _, _ => Nat.le_refl _
  | p :: r, x, y => by
    unfold findP
    have := findP_le r x y
    split <;> simp <;> omega
/-- All pairs of one of both. -/
def crossP (S T : List Int) : List (Int × Int) := S.flatMap fun x => T.map fun y => (x, y)
theorem crossP_take {S T : List Int} {k : Nat} {x : Int} (h : k < S.length) (hx : Hid (x = S[k]?.getD 0)) : crossP (S.take (k + 1)) T = crossP (S.take k) T ++ T.map fun y => (x, y) := by
  have hx := hx.out
  rw [List.getElem?_eq_getElem h, Option.getD_some] at hx
  unfold crossP
  rw [List.take_add_one, List.getElem?_eq_getElem h, List.flatMap_append, ← hx]
  simp
theorem mapP_take {T : List Int} {q : Nat} {x y : Int} (h : q < T.length) (hy : Hid (y = T[q]?.getD 0)) : ((T.take (q + 1)).map fun z => (x, z)) = ((T.take q).map fun z => (x, z)) ++ [(x, y)] := by
  have hy := hy.out
  rw [List.getElem?_eq_getElem h, Option.getD_some] at hy
  rw [List.take_add_one, List.getElem?_eq_getElem h, List.map_append, ← hy]
  simp
theorem crossP_len : ∀ (S T : List Int), (crossP S T).length = S.length * T.length
  | [], T => by simp [crossP]
  | x :: r, T => by
    have := crossP_len r T
    unfold crossP at this ⊢
    rw [List.flatMap_cons, List.length_append, this, List.length_map, List.length_cons, Nat.succ_mul]; omega
theorem crossP_le {S T : List Int} (hS : S.length ≤ 4096) (hT : T.length ≤ 4096) (k : Nat) : (crossP (S.take k) T).length ≤ 16777216 := by
  rw [crossP_len]
  exact Nat.le_trans (Nat.mul_le_mul (Nat.le_trans (List.length_take_le' _ _) hS) hT) (by decide)
/-- Where a pair leads to. -/
def leadsP (ars brs : List Arr) (p : Int × Int) (e : Int) (inA inB : Bool) : List (Int × Int) :=
  if (inA || inB) = true then crossP (if inA = true then stepL ars [p.1] e else [p.1]) (if inB = true then stepL brs [p.2] e else [p.2]) else []
/-- Pairs found, and arrows. -/
structure BS where
  ps : List (Int × Int)
  ar : List Arr
/-- One pair that is led to. -/
def bAdd (i : Nat) (e : Int) (s : BS) (p : Int × Int) : BS :=
  ⟨if findP s.ps p.1 p.2 = s.ps.length then s.ps ++ [p] else s.ps, s.ar ++ [⟨(i : Int), e, (findP s.ps p.1 p.2 : Nat)⟩]⟩
/-- What a pair leads to, at one event. -/
def bEv (a b : Mach) (ofA ofB : List Int) (i : Nat) (p : Int × Int) (s : BS) (e : Int) : BS := (leadsP a.arrows b.arrows p e (hasB ofA e) (hasB ofB e)).foldl (bAdd i e) s
/-- .. at the first k events. -/
def bEvs (a b : Mach) (ofA ofB : List Int) (i : Nat) (p : Int × Int) (s : BS) (k : Nat) : BS := (List.range k).foldl (fun (s : BS) (e : Nat) => bEv a b ofA ofB i p s (e : Int)) s
def bPair (a b : Mach) (ofA ofB : List Int) (s : BS) (i : Nat) : BS := bEvs a b ofA ofB i (s.ps[i]?.getD (0, 0)) s a.ev.toNat
/-- Too many? -/
def bBig (s : BS) : Bool := decide (256 < s.ps.length) || decide (4096 < s.ar.length)
def bGo (a b : Mach) (ofA ofB : List Int) : Nat → Nat → BS → Option BS
  | 0, _, s => some s
  | f + 1, i, s => if i < s.ps.length then (if bBig (bPair a b ofA ofB s i) = true then none else bGo a b ofA ofB f (i + 1) (bPair a b ofA ofB s i)) else some s
/-- 0, 1, .., n - 1. -/
def rngI (n : Nat) : List Int := (List.range n).map fun k : Nat => (k : Int)
theorem rngI_succ (n : Nat) : rngI (n + 1) = rngI n ++ [(n : Int)] := by simp [rngI, List.range_succ]
theorem rngI_len (n : Nat) : (rngI n).length = n := by simp [rngI]
def besideS (a b : Mach) (ofA ofB : List Int) : Option BS := bGo a b ofA ofB 300 0 ⟨crossP a.starts b.starts, []⟩
/-- Which pairs are ends. -/
def endsP (a b : Mach) (L : List (Int × Int)) (n : Nat) : List Int := (rngI n).filter fun k => (hasB a.ends (L[k.toNat]?.getD (0, 0)).1 && hasB b.ends (L[k.toNat]?.getD (0, 0)).2)
def besideM (a b : Mach) (s : BS) : Mach := ⟨if s.ps.length = 0 then 1 else s.ps.length, a.ev, rngI (crossP a.starts b.starts).length, srtA s.ar, endsP a b s.ps s.ps.length⟩

theorem bEvs_succ (a b : Mach) (ofA ofB : List Int) (i : Nat) (p : Int × Int) (s : BS) (k : Nat) : bEvs a b ofA ofB i p s (k + 1) = bEv a b ofA ofB i p (bEvs a b ofA ofB i p s k) (k : Int) := by
  unfold bEvs; rw [List.range_succ, List.foldl_append]; rfl
theorem bAdd_take {i : Nat} {e : Int} {s : BS} {L : List (Int × Int)} {k : Nat} {p : Int × Int} (hp : Hid (L[k]? = some p)) : (L.take (k + 1)).foldl (bAdd i e) s = bAdd i e ((L.take k).foldl (bAdd i e) s) p := by
  obtain ⟨h1, h2⟩ := List.getElem?_eq_some_iff.1 hp.out
  rw [List.take_add_one, hp.out, List.foldl_append]; rfl
theorem bAdd_ps (i : Nat) (e : Int) (s : BS) (p : Int × Int) : ∃ t, (bAdd i e s p).ps = s.ps ++ t ∧ t.length ≤ 1 := by
  unfold bAdd
  by_cases h : findP s.ps p.1 p.2 = s.ps.length
  · exact ⟨[p], by simp [h], by simp⟩
  · exact ⟨[], by simp [h], by simp⟩
theorem bFold_ps (i : Nat) (e : Int) : ∀ (L : List (Int × Int)) (s : BS), ∃ t, (L.foldl (bAdd i e) s).ps = s.ps ++ t ∧ t.length ≤ L.length
  | [], s => ⟨[], by simp, by simp⟩
  | p :: r, s => by
    obtain ⟨t, h1, h2⟩ := bAdd_ps i e s p
    obtain ⟨t', h3, h4⟩ := bFold_ps i e r (bAdd i e s p)
    exact ⟨t ++ t', by rw [List.foldl_cons, h3, h1, List.append_assoc], by simp; omega⟩
theorem bFold_ar (i : Nat) (e : Int) : ∀ (L : List (Int × Int)) (s : BS), (L.foldl (bAdd i e) s).ar.length = s.ar.length + L.length
  | [], s => by simp
  | p :: r, s => by
    rw [List.foldl_cons, bFold_ar i e r]
    simp [bAdd]; omega
theorem leadsP_len (a b : Mach) (p : Int × Int) (e : Int) (x y : Bool) (ha : a.arrows.length ≤ 4096) (hb : b.arrows.length ≤ 4096) : (leadsP a.arrows b.arrows p e x y).length ≤ 16777216 := by
  unfold leadsP
  split
  · rw [crossP_len]
    refine Nat.le_trans (show _ ≤ 4096 * 4096 from Nat.mul_le_mul ?_ ?_) (by decide)
    · split
      · exact Nat.le_trans (stepL_len _ _ _) ha
      · simp
    · split
      · exact Nat.le_trans (stepL_len _ _ _) hb
      · simp
  · simp
/-- What the events so far have brought: bounds, and the pairs stay where they are. -/
theorem bEvs_bd (a b : Mach) (ofA ofB : List Int) (i : Nat) (p : Int × Int) (s : BS) (ha : a.arrows.length ≤ 4096) (hb : b.arrows.length ≤ 4096) : ∀ k, (∃ t, (bEvs a b ofA ofB i p s k).ps = s.ps ++ t ∧ t.length ≤ k * 16777216) ∧ (bEvs a b ofA ofB i p s k).ar.length ≤ s.ar.length + k * 16777216
  | 0 => ⟨⟨[], by simp [bEvs], by simp⟩, by simp [bEvs]⟩
  | k + 1 => by
    obtain ⟨⟨t, h1, h2⟩, h3⟩ := bEvs_bd a b ofA ofB i p s ha hb k
    rw [bEvs_succ]
    unfold bEv
    have hl := leadsP_len a b p (k : Int) (hasB ofA (k : Int)) (hasB ofB (k : Int)) ha hb
    obtain ⟨t', h4, h5⟩ := bFold_ps i (k : Int) (leadsP a.arrows b.arrows p (k : Int) (hasB ofA (k : Int)) (hasB ofB (k : Int))) (bEvs a b ofA ofB i p s k)
    have h6 := bFold_ar i (k : Int) (leadsP a.arrows b.arrows p (k : Int) (hasB ofA (k : Int)) (hasB ofB (k : Int))) (bEvs a b ofA ofB i p s k)
    refine ⟨⟨t ++ t', by rw [h4, h1, List.append_assoc], by rw [List.length_append, Nat.succ_mul]; omega⟩, ?_⟩
    rw [h6, Nat.succ_mul]; omega

end Go.Proofs.YtgfpjfiikajadaaDoor
namespace Go.Proofs.YtgfpjfiikajadaaDoor
open Go.RowKit
set_option linter.unusedVariables false

set_option maxRecDepth 100000 in
set_option maxHeartbeats 2000000 in
theorem lseen_any (p : Plant) (P : PTL) (wa : Option Addr) (wc : Nat) (word : List Int) (w : World) (h : PAt w p P) (hw : At w wa word) (hwl : word.length ≤ 17592186044416) :
    Calls Tryd.prog 37 #[ptval p P, .slice wa word.length wc] w fun e w' => e = .returned (.bool (inSeen p.seen word)) ∧ Below w.heap.size w w' := by
  have B : Hid (Below w.heap.size w (w.alloc (.cells (ptcells p P) 50))) := (Below.refl _ _).alloc (Nat.le_refl _) _
  have KEY := Hid.of (refSeen_any wa P.sa wc P.sc word p.seen (w.alloc (.cells (ptcells p P) 50)) (hw.below B.out (Nat.le_refl _)) hwl (h.s.at_.below B.out (Nat.le_refl _)) h.s.len)
  obtain ⟨l, HL⟩ : ∃ l, Hid (l = seenL p.seen word) := ⟨_, rfl⟩
  rw [← HL.out] at KEY
  have HIS : Hid (inSeen p.seen word = decide (l.length = word.length)) := by show _ = _; unfold inSeen; rw [HL.out]
  clear h hw HL
  go_enter Tryd.func37, Tryd.ntmps37
  go_wp2_with fail
  refine KEY.out.mono ?_
  rintro e W1 ⟨va, vc, rfl, -, -, hb⟩
  have B1 := Hid.of (B.out.trans (hb.mono B.out.size))
  clear hb KEY
  by_cases he : l.length = word.length
  · have d : ((l.length : Int) == (word.length : Int)) = true := by rw [he]; simp
    have HF : Hid (inSeen p.seen word = true) := by show _ = _; rw [HIS.out, decide_eq_true he]
    clear he
    go_wp2_with fail
    go_ret
    exact ⟨ret_bool HF.out.symm, B1.out⟩
  · have d : ((l.length : Int) == (word.length : Int)) = false := by rw [beq_eq_false_iff_ne]; omega
    have HF : Hid (inSeen p.seen word = false) := by show _ = _; rw [HIS.out, decide_eq_false he]
    go_wp2_with fail
    go_ret
    exact ⟨ret_bool HF.out.symm, B1.out⟩

set_option maxRecDepth 100000 in
set_option maxHeartbeats 4000000 in
theorem lall_any (st : Nat) (ev : Int) (starts : List Int) (ars : List Arr) (ends : List Int) (l : ML) (w : World) (hst : st ≤ 256) :
    Calls Tryd.prog 40 #[mval ⟨(st : Int), ev, starts, ars, ends⟩ l] w fun e w' => GivesO w (rngI st) e w' := by
  obtain ⟨j0, ji, jz0, jz1, jz2⟩ := info_parts Tryd.infoInt
  have B : Hid (Below w.heap.size w (w.alloc (.cells (mcells ⟨(st : Int), ev, starts, ars, ends⟩ l) 25))) := (Below.refl _ _).alloc (Nat.le_refl _) _
  have K : Hid (Blk (w.alloc (.cells (mcells ⟨(st : Int), ev, starts, ars, ends⟩ l) 25)) w.heap.size 25 (mcells ⟨(st : Int), ev, starts, ars, ends⟩ l)) := Blk.new w _ _
  go_enter Tryd.func40, Tryd.ntmps40
  go_wp2_with fail
  go_loopw [3, 4] (fun v i wr => ∃ k : Nat, i = .int .i64 k ∧ k ≤ st ∧ Hid (Own wr (w.heap.size + 1) v (rngI k)) ∧ Hid (Below w.heap.size w wr) ∧ Hid (Blk wr w.heap.size 25 (mcells ⟨(st : Int), ev, starts, ars, ends⟩ l))) (fun _ i _ => st - (intOf i).toNat)
  case atStart => exact ⟨0, rfl, Nat.zero_le _, own_nil _ _, B, K⟩
  case round =>
    clear B K
    obtain ⟨k, rfl, hk, HO, B, K⟩ := hrel
    have hlo : w.heap.size + 1 ≤ wr.heap.size := K.out.lt
    have x0 : wr.cell? ⟨w.heap.size, 0, none⟩ = some (.int .i64 (st : Int)) := K.out.cell 0 rfl
    obtain ⟨fa, fc, hfa, -, -, -⟩ := own_form2 HO.out
    rw [rngI_len] at hfa
    subst hfa
    by_cases hlt : k < st
    · have HSU := Hid.of (rngI_succ k)
      have hln := rngI_len k
      have hown : wr.ownsRow (w.heap.size + 1) 3 1 (.slice fa k fc) k ((rngI k).map (Value.int .i64)) := by
        have := HO.out
        unfold Own at this
        rwa [hln] at this
      have HOW := Hid.of hown
      clear hown
      go_wp2_with (at_builtin; refine wpList_append_block _ rfl (.tmp 11) (.tmp 13) 22 rfl (w.heap.size + 1) 3 j0 (.int .i64 0) 1 8 Tryd.underlying22 ji jz0 jz1 jz2 rfl (by decide) _ _ _ rfl (World.ownsRow.alloc HOW.out _) ⟨wr.heap.size, 0, none⟩ 1 1 [.int .i64 (k : Int)] rfl rfl (cell_one_new _ _ _) (by intro u hu; simp at hu; subst hu; rfl) (by decide) (by unfold maxLen; omega) (by omega) (by simp; omega) ?_)
      intro v9 w9 o9 g9 n9
      have hbl : Below (w.heap.size + 1) wr w9 := ((Below.refl _ wr).alloc hlo _).grown g9 (by simp; omega) (fun j hj => (World.ownsRow.lt HOW.out j hj).1)
      have Q1 : Hid (Own w9 (w.heap.size + 1) v9 (rngI (k + 1))) := by
        show Own _ _ _ _
        rw [HSU.out]
        unfold Own
        rw [List.length_append, List.map_append, hln]
        exact o9
      have Q2 := Hid.of (B.out.trans (hbl.mono (Nat.le_succ _)))
      have Q3 := Hid.of (K.out.below hbl (Nat.lt_succ_self _))
      clear o9 g9 n9 hbl x0
      go_wp2_with fail
      go_roundw
      case rel => exact ⟨k + 1, by go_num, by omega, Q1, Q2, Q3⟩
      case measure => simp [intOf]; omega
    · have hk2 : k = st := by omega
      subst hk2
      go_wp2_with fail
      go_ret
      exact ⟨_, rfl, Own.low HO.out (Nat.le_succ _), B.out⟩

set_option maxRecDepth 100000 in
set_option maxHeartbeats 4000000 in
theorem lbest_any (p : Plant) (P : PTL) (b off lc : Nat) (oa wa : Option Addr) (oc wc : Nat) (only word : List Int) (is : Bool) (L : List Kno) (w : World) (h : PAt w p P) (hl : L.length ≤ 9223372036854775807) (hbl : b < w.heap.size) (hc : CellsK w b off L) (hr : ∀ x ∈ L, x.1.length ≤ 4096) (ho : At w oa only) (hol : only.length ≤ maxLen) (hw : At w wa word) (hwl : word.length ≤ maxLen) (e1 : is = (bestL p.secret only L).isSome) (e2 : word = (bestL p.secret only L).getD []) :
    Calls Tryd.prog 41 #[.slice (some ⟨b, off, none⟩) L.length lc, ptval p P, .slice oa only.length oc, .bool is, .slice wa word.length wc] w fun e w' => e = .returned (.bool true) ∧ Below w.heap.size w w' := by
  have B : Hid (Below w.heap.size w (w.alloc (.cells (ptcells p P) 50))) := (Below.refl _ _).alloc (Nat.le_refl _) _
  have KEY := Hid.of (rBest_some p P b off lc oa oc only L (w.alloc (.cells (ptcells p P) 50)) (Hid.of (h.below B.out (Nat.le_refl _))) hl (Hid.of (Nat.lt_of_lt_of_le hbl B.out.size)) (Hid.of (fun k x hx => by
    obtain ⟨xa, xc, za, zc, c1, c2, q1, q2, q3, q4⟩ := hc k x hx
    exact ⟨xa, xc, za, zc, (B.out.cell (p := ⟨b, off + k * 2, none⟩) hbl).trans c1, (B.out.cell (p := ⟨b, off + k * 2 + 1, none⟩) hbl).trans c2, q1.below B.out (Nat.le_refl _), q2, q3.below B.out (Nat.le_refl _), q4⟩)) (Hid.of hr) (Hid.of (ho.below B.out (Nat.le_refl _))) (Hid.of hol))
  have HW := Hid.of hw
  have HWL := Hid.of hwl
  have E1 := Hid.of e1
  have E2 := Hid.of e2
  clear h hl hc hr ho hol hw hwl hbl e1 e2
  go_enter Tryd.func41, Tryd.ntmps41
  go_wp2_with fail
  refine KEY.out.mono ?_
  rintro e W1 ⟨va, vc, rfl, at1, ln1, hb⟩
  rw [← E1.out]
  rw [← E2.out] at at1 ln1 ⊢
  have B1 := Hid.of (B.out.trans (hb.mono B.out.size))
  have HAT := Hid.of at1
  have HLN := Hid.of ln1
  clear hb at1 ln1 KEY
  have d : (is == is) = true := by simp
  have KEY2 := Hid.of (same_any wa va wc vc word word W1 (HW.out.below B1.out (Nat.le_refl _)) HAT.out HWL.out HWL.out)
  have HS : Hid (sameB word word = true) := by show _ = _; simp [sameB]
  rw [HS.out] at KEY2
  go_wp2_with fail
  refine KEY2.out.mono ?_
  rintro e W2 ⟨rfl, q, hq⟩
  have hb : Below W1.heap.size W1 W2 := by rw [hq]; exact below_drewN (Below.refl _ _) q
  have B2 := Hid.of (B1.out.trans (hb.mono B1.out.size))
  clear hb hq
  go_wp2_with fail
  go_ret
  exact ⟨rfl, B2.out⟩

end Go.Proofs.YtgfpjfiikajadaaDoor
namespace Go.Proofs.YtgfpjfiikajadaaDoor
open Go.RowKit
set_option linter.unusedVariables false

theorem fold_take {σ : Type} (f : σ → Int → σ) (s : σ) {word : List Int} {k : Nat} {x : Int} (h : k < word.length) (hx : Hid (x = word[k]?.getD 0)) : (word.take (k + 1)).foldl f s = f ((word.take k).foldl f s) x := by
  rw [List.take_add_one, List.getElem?_eq_getElem h, Option.toList_some, List.foldl_append, hx.out, List.getElem?_eq_getElem h]; rfl

set_option maxRecDepth 100000 in
set_option maxHeartbeats 8000000 in
theorem rfrom_go (st ev : Int) (starts : List Int) (ars : List Arr) (ends seen secret : List Int) (a1 : Option Addr) (c1 : Nat) (a2 : Option Addr) (c2 : Nat) (a3 : Option Addr) (c3 : Nat) (sa : Option Addr) (sc : Nat) (ta : Option Addr) (tc : Nat) (xa wa : Option Addr) (xc wc : Nat) (ss word : List Int) (w : World) (h : Hid (PAt w ⟨⟨st, ev, starts, ars, ends⟩, seen, secret⟩ ⟨⟨a1, c1, a2, c2, a3, c3⟩, sa, sc, ta, tc⟩)) (hm : Hid (mayB ⟨st, ev, starts, ars, ends⟩ = true)) (hs : Hid (At w xa ss)) (hsl : Hid (ss.length ≤ 4096)) (hsn : Hid (xa = none → xc = 0)) (hw : Hid (At w wa word)) (hwl : word.length ≤ 9223372036854775807) :
    Calls Tryd.prog 80 #[ptval ⟨⟨st, ev, starts, ars, ends⟩, seen, secret⟩ ⟨⟨a1, c1, a2, c2, a3, c3⟩, sa, sc, ta, tc⟩, .slice xa ss.length xc, .slice wa word.length wc] w fun e w' => GivesO w (fromL ⟨⟨st, ev, starts, ars, ends⟩, seen, secret⟩ ss word) e w' := by
  have hz := mayB_size hm.out
  unfold sizeOk at hz
  dsimp only at hz
  have hlen : Hid (ars.length ≤ 4096) := show _ ≤ _ by omega
  clear hz
  have hto : Hid (∀ a ∈ ars, 0 ≤ a.t ∧ a.t < (256 : Nat)) := may_to hm.out
  have B : Hid (Below w.heap.size w (w.alloc (.cells (ptcells ⟨⟨st, ev, starts, ars, ends⟩, seen, secret⟩ ⟨⟨a1, c1, a2, c2, a3, c3⟩, sa, sc, ta, tc⟩) 50))) := (Below.refl _ _).alloc (Nat.le_refl _) _
  have K : Hid (Blk (w.alloc (.cells (ptcells ⟨⟨st, ev, starts, ars, ends⟩, seen, secret⟩ ⟨⟨a1, c1, a2, c2, a3, c3⟩, sa, sc, ta, tc⟩) 50)) w.heap.size 50 (ptcells ⟨⟨st, ev, starts, ars, ends⟩, seen, secret⟩ ⟨⟨a1, c1, a2, c2, a3, c3⟩, sa, sc, ta, tc⟩)) := Blk.new w _ _
  go_enter Tryd.func80, Tryd.ntmps80
  go_wp2_with fail
  revert B K
  show Hid (Below w.heap.size w (w.alloc (.cells #[.int .i64 st, .int .i64 ev, .slice a1 starts.length c1, .slice a2 ars.length c2, .slice a3 ends.length c3, .slice sa seen.length sc, .slice ta secret.length tc] 50))) → _
  generalize w.alloc (.cells #[.int .i64 st, .int .i64 ev, .slice a1 starts.length c1, .slice a2 ars.length c2, .slice a3 ends.length c3, .slice sa seen.length sc, .slice ta secret.length tc] 50) = V0
  intro B K
  refine (refWide_any ⟨st, ev, starts, ars, ends⟩ ⟨a1, c1, a2, c2, a3, c3⟩ xa sa xc sc ss seen V0 (h.out.m.a.below B.out (Nat.le_refl _)) hlen.out hto.out (hs.out.below B.out (Nat.le_refl _)) hsl.out hsn.out (h.out.s.at_.below B.out (Nat.le_refl _)) h.out.s.len).mono ?_
  rintro e W1 ⟨v, rfl, ov, hb⟩
  have OV : Hid (Own W1 w.heap.size v (wideL ars seen ss)) := Own.low ov B.out.size
  replace B := Hid.of (B.out.trans (hb.mono B.out.size))
  replace K := Hid.of (K.out.below hb K.out.lt)
  clear hb ov
  go_wp2_with fail
  go_loopw [7, 8] (fun v7 i wr => ∃ k : Nat, i = .int .i64 k ∧ k ≤ word.length ∧ Hid (Own wr w.heap.size v7 ((word.take k).foldl (seeL ⟨⟨st, ev, starts, ars, ends⟩, seen, secret⟩) (wideL ars seen ss))) ∧ Hid (Below w.heap.size w wr) ∧ Hid (Blk wr w.heap.size 50 (ptcells ⟨⟨st, ev, starts, ars, ends⟩, seen, secret⟩ ⟨⟨a1, c1, a2, c2, a3, c3⟩, sa, sc, ta, tc⟩))) (fun _ i _ => word.length - (intOf i).toNat)
  case atStart => exact ⟨0, rfl, Nat.zero_le _, OV, B, K⟩
  case round =>
    clear OV B K
    obtain ⟨k, rfl, hk, OV, B, K⟩ := hrel
    by_cases hlt : k < word.length
    · rcases hw.out with hw0 | ⟨wb, wo, rfl, hwb, hwc⟩
      · rw [hw0] at hlt; simp at hlt
      obtain ⟨x, HX⟩ : ∃ x, Hid (x = word[k]?.getD 0) := ⟨_, rfl⟩
      have cw : wr.cell? ⟨wb, wo + k, none⟩ = some (.int .i64 x) := by
        rw [HX.out, ← List.getD_eq_getElem?_getD]
        exact (B.out.cell (p := ⟨wb, wo + k, none⟩) hwb).trans (hwc k hlt)
      have HWB := Hid.of hwb
      obtain ⟨x0, x1, x2, x3, x4, x5, x6⟩ := ptcell_at K.out
      dsimp only at x0 x1 x2 x3 x4 x5 x6
      obtain ⟨va, vc, hva, vat, vl1, vl2, -⟩ := Own.at2 OV.out
      have hvl : Hid (((word.take k).foldl (seeL ⟨⟨st, ev, starts, ars, ends⟩, seen, secret⟩) (wideL ars seen ss)).length ≤ maxLen) := Nat.le_trans vl1 vl2
      have HV := Hid.of vat
      have HNX : Hid ((word.take (k + 1)).foldl (seeL ⟨⟨st, ev, starts, ars, ends⟩, seen, secret⟩) (wideL ars seen ss) = seeL ⟨⟨st, ev, starts, ars, ends⟩, seen, secret⟩ ((word.take k).foldl (seeL ⟨⟨st, ev, starts, ars, ends⟩, seen, secret⟩) (wideL ars seen ss)) x) := fold_take _ _ hlt HX
      subst hva
      clear vat vl1 vl2 hwc hwb
      revert HNX HV hvl OV
      generalize (word.take k).foldl (seeL ⟨⟨st, ev, starts, ars, ends⟩, seen, secret⟩) (wideL ars seen ss) = cur
      intro hvl HV HNX OV
      go_wp2_with fail
      refine wp_region_held_drew (S := fun w' => w'.cell? ⟨w.heap.size, 0, none⟩ = some (.int .i64 st) ∧ w'.cell? ⟨w.heap.size, 1, none⟩ = some (.int .i64 ev) ∧ w'.cell? ⟨w.heap.size, 2, none⟩ = some (.slice a1 starts.length c1) ∧ w'.cell? ⟨w.heap.size, 3, none⟩ = some (.slice a2 ars.length c2) ∧ w'.cell? ⟨w.heap.size, 4, none⟩ = some (.slice a3 ends.length c3) ∧ w'.cell? ⟨w.heap.size, 5, none⟩ = some (.slice sa seen.length sc) ∧ w'.cell? ⟨w.heap.size, 6, none⟩ = some (.slice ta secret.length tc) ∧ w'.cell? ⟨wb, wo + k, none⟩ = some (.int .i64 x)) (by kernel_rfl) ⟨x0, x1, x2, x3, x4, x5, x6, cw⟩ (fun hS => ?_)
      have Bd : Hid (Below w.heap.size w wr.drew) := B.out.drew
      have Kd : Hid (Blk wr.drew w.heap.size 50 (ptcells ⟨⟨st, ev, starts, ars, ends⟩, seen, secret⟩ ⟨⟨a1, c1, a2, c2, a3, c3⟩, sa, sc, ta, tc⟩)) := Blk.drew K.out
      have HVd : Hid (At wr.drew va cur) := At.drewN HV.out 1
      have CW : Hid (wr.drew.cell? ⟨wb, wo + k, none⟩ = some (.int .i64 x)) := cw
      clear x0 x1 x2 x3 x4 x5 x6 cw B K HV OV
      revert hS Bd Kd HVd CW
      generalize wr.drew = Y
      intro hS Bd Kd HVd CW
      refine wpAnyH_take (i := 0) (v := .pointer (some ⟨w.heap.size, 0, none⟩)) rfl (by kernel_rfl) (by kernel_rfl) (by kernel_rfl) (fun _ _ _ h => h) (Or.inl ⟨by kernel_rfl, fun w' hw' => by obtain ⟨q0, q1, q2, q3, q4, q5, q6, q7⟩ := hw'; go_simp⟩) hS ?_
      refine wpAnyH_take (i := 1) (v := mval ⟨st, ev, starts, ars, ends⟩ ⟨a1, c1, a2, c2, a3, c3⟩) rfl (by kernel_rfl) (by kernel_rfl) (by kernel_rfl) (fun _ _ _ h => h) (Or.inl ⟨by kernel_rfl, fun w' hw' => by obtain ⟨q0, q1, q2, q3, q4, q5, q6, q7⟩ := hw'; go_simp⟩) hS ?_
      refine wpAnyH_take (i := 2) (v := .slice va cur.length vc) rfl (by kernel_rfl) (by kernel_rfl) (by kernel_rfl) (fun _ _ _ h => h) (Or.inl ⟨by kernel_rfl, fun w' hw' => by obtain ⟨q0, q1, q2, q3, q4, q5, q6, q7⟩ := hw'; go_simp⟩) hS ?_
      refine wpAnyH_take (i := 3) (v := .pointer (some ⟨w.heap.size, 5, none⟩)) rfl (by kernel_rfl) (by kernel_rfl) (by kernel_rfl) (fun _ _ _ h => h) (Or.inl ⟨by kernel_rfl, fun w' hw' => by obtain ⟨q0, q1, q2, q3, q4, q5, q6, q7⟩ := hw'; go_simp⟩) hS ?_
      refine wpAnyH_take (i := 4) (v := .slice sa seen.length sc) rfl (by kernel_rfl) (by kernel_rfl) (by kernel_rfl) (fun _ _ _ h => h) (Or.inl ⟨by kernel_rfl, fun w' hw' => by obtain ⟨q0, q1, q2, q3, q4, q5, q6, q7⟩ := hw'; go_simp⟩) hS ?_
      refine wpAnyH_take (i := 5) (v := .slice (some ⟨wb, wo, none⟩) word.length wc) rfl (by kernel_rfl) (by kernel_rfl) (by kernel_rfl) (fun _ _ _ h => h) (Or.inl ⟨by kernel_rfl, fun w' hw' => by obtain ⟨q0, q1, q2, q3, q4, q5, q6, q7⟩ := hw'; go_simp⟩) hS ?_
      refine wpAnyH_take (i := 6) (v := .int .i64 k) rfl (by kernel_rfl) (by kernel_rfl) (by kernel_rfl) (fun _ _ _ h => h) (Or.inl ⟨by kernel_rfl, fun w' hw' => by obtain ⟨q0, q1, q2, q3, q4, q5, q6, q7⟩ := hw'; go_simp⟩) hS ?_
      refine wpAnyH_take (i := 7) (v := .pointer (some ⟨wb, wo + k, none⟩)) rfl (by kernel_rfl) (by kernel_rfl) (by kernel_rfl) (fun _ _ _ h => h) (Or.inl ⟨by kernel_rfl, fun w' hw' => by obtain ⟨q0, q1, q2, q3, q4, q5, q6, q7⟩ := hw'; go_simp⟩) hS ?_
      refine wpAnyH_take (i := 8) (v := .int .i64 x) rfl (by kernel_rfl) (by kernel_rfl) (by kernel_rfl) (fun _ _ _ h => h) (Or.inl ⟨by kernel_rfl, fun w' hw' => by obtain ⟨q0, q1, q2, q3, q4, q5, q6, q7⟩ := hw'; go_simp⟩) hS ?_
      simp only [Act.put, List.setIfInBounds_toArray]
      refine wpAnyH_ready (rs := [9]) (by kernel_rfl) (by simp) ?_
      refine AllReadyH.cons rfl (fun K' hK' => ?_) AllReadyH.nil
      go_simp
      refine (refSeeing_any ⟨st, ev, starts, ars, ends⟩ ⟨a1, c1, a2, c2, a3, c3⟩ va sa vc sc cur seen x Y (h.out.m.a.below Bd.out (Nat.le_refl _)) hlen.out hto.out HVd.out hvl.out (h.out.s.at_.below Bd.out (Nat.le_refl _)) h.out.s.len).mono ?_
      rintro e Y1 ⟨v, rfl, ov, hb⟩
      have OV : Hid (Own Y1 w.heap.size v (seeL ⟨⟨st, ev, starts, ars, ends⟩, seen, secret⟩ cur x)) := Own.low ov Bd.out.size
      have B := Hid.of (Bd.out.trans (hb.mono Bd.out.size))
      have K := Hid.of (Kd.out.below hb Kd.out.lt)
      have cw1 : Y1.cell? ⟨wb, wo + k, none⟩ = some (.int .i64 x) := (hb.cell (p := ⟨wb, wo + k, none⟩) (Nat.lt_of_lt_of_le HWB.out Bd.out.size)).trans CW.out
      obtain ⟨x0, x1, x2, x3, x4, x5, x6⟩ := ptcell_at K.out
      obtain ⟨na, nc, hna, -, -, -⟩ := own_form2 OV.out
      subst hna
      refine hK'.out _ _ ⟨x0, x1, x2, x3, x4, x5, x6, cw1⟩ (fun hS1 => ?_)
      clear hK' K' hb ov hS x0 x1 x2 x3 x4 x5 x6 cw1 Bd Kd HVd CW
      refine wpAnyH_take (i := 10) (v := .slice na (seeL ⟨⟨st, ev, starts, ars, ends⟩, seen, secret⟩ cur x).length nc) rfl (by kernel_rfl) (by kernel_rfl) (by kernel_rfl) (fun _ _ _ h => h) (Or.inl ⟨by kernel_rfl, fun w' hw' => by obtain ⟨q0, q1, q2, q3, q4, q5, q6, q7⟩ := hw'; go_simp⟩) hS1 ?_
      refine wpAnyH_done (by kernel_rfl) ?_ _
      clear hS1
      revert HNX OV
      generalize seeL ⟨⟨st, ev, starts, ars, ends⟩, seen, secret⟩ cur x = nxt
      intro HNX OV
      go_wp2_with fail
      go_roundw
      case rel => exact ⟨k + 1, by go_num, by omega, (by show Own _ _ _ _; rw [HNX.out]; exact OV.out), B, K⟩
      case measure => simp [intOf]; omega
    · have hk2 : k = word.length := by omega
      have HE : Hid ((word.take k).foldl (seeL ⟨⟨st, ev, starts, ars, ends⟩, seen, secret⟩) (wideL ars seen ss) = fromL ⟨⟨st, ev, starts, ars, ends⟩, seen, secret⟩ ss word) := by show _ = _; rw [hk2, List.take_of_length_le (Nat.le_refl _)]; rfl
      have hltD : decide ((k : Int) < (word.length : Int)) = false := by simp; omega
      clear hk2
      rw [HE.out] at OV
      go_wp2_with fail
      go_ret
      exact ⟨_, rfl, OV.out, B.out⟩

theorem rFrom_any (p : Plant) (P : PTL) (xa wa : Option Addr) (xc wc : Nat) (ss word : List Int) (w : World) (h : PAt w p P) (hm : mayB p.m = true) (hs : At w xa ss) (hsl : ss.length ≤ 4096) (hsn : xa = none → xc = 0) (hw : At w wa word) (hwl : word.length ≤ maxLen) :
    Calls Tryd.prog 80 #[ptval p P, .slice xa ss.length xc, .slice wa word.length wc] w fun e w' => GivesO w (fromL p ss word) e w' := by
  obtain ⟨⟨st, ev, starts, ars, ends⟩, seen, secret⟩ := p
  obtain ⟨⟨a1, c1, a2, c2, a3, c3⟩, sa, sc, ta, tc⟩ := P
  exact rfrom_go st ev starts ars ends seen secret a1 c1 a2 c2 a3 c3 sa sc ta tc xa wa xc wc ss word w (Hid.of h) (Hid.of hm) (Hid.of hs) (Hid.of hsl) (Hid.of hsn) (Hid.of hw) hwl

set_option maxRecDepth 100000 in
set_option maxHeartbeats 4000000 in
theorem rEst_any (p : Plant) (P : PTL) (wa : Option Addr) (wc : Nat) (word : List Int) (w : World) (h : PAt w p P) (hm : mayB p.m = true) (hw : At w wa word) (hwl : word.length ≤ maxLen) :
    Calls Tryd.prog 38 #[ptval p P, .slice wa word.length wc] w fun e w' => GivesO w (estL p word) e w' := by
  have hsl : p.m.starts.length ≤ 4096 := by
    have h1 := mayB_size hm
    unfold sizeOk at h1
    have h2 := may_starts hm
    have := nodup_len 256 _ (inc_nodup h2.1) (fun x hx => by have := h2.2 x hx; omega)
    omega
  have B : Hid (Below w.heap.size w (w.alloc (.cells (ptcells p P) 50))) := (Below.refl _ _).alloc (Nat.le_refl _) _
  have H := Hid.of h
  have HM := Hid.of hm
  have HW := Hid.of hw
  have HWL := Hid.of hwl
  have HSL := Hid.of hsl
  clear h hm hw hwl hsl
  go_enter Tryd.func38, Tryd.ntmps38
  go_wp2_with fail
  have KEY := Hid.of (rFrom_any p P P.l.a1 wa P.l.c1 wc p.m.starts word _ (H.out.below B.out (Nat.le_refl _)) HM.out (H.out.m.s.below B.out (Nat.le_refl _)) HSL.out H.out.m.s3 (HW.out.below B.out (Nat.le_refl _)) HWL.out)
  refine KEY.out.mono ?_
  rintro e W1 ⟨v, rfl, ov, hb⟩
  have OV : Hid (Own W1 w.heap.size v (estL p word)) := Own.low ov B.out.size
  have B1 := Hid.of (B.out.trans (hb.mono B.out.size))
  clear ov hb KEY
  go_wp2_with fail
  go_ret
  exact ⟨v, rfl, OV.out, B1.out⟩

end Go.Proofs.YtgfpjfiikajadaaDoor
