/-
  What the searches of package current stand on.
  The walks of jalousieref9.May, From, Estimate and Tells.
  What current.May, Estimate and Leak leave; plain: what is best of what is known ahead.
  The walk of current.Estimate.
  The walks of jalousieref9.From and Estimate.
  Plain: rows that can be kept, and the veil that is made of them. No program, no model.
  Plain: words that a veil lets be. No program, no model.
-/
import Derived.Test.YtmlkpdeidpcidaaDoorJ30
import Derived.Test.YtmlkpdeidpcidaaDoorJ14
import Derived.Test.YtmlkpdeidpcidaaDoorFRefMay
import Derived.Test.YtmlkpdeidpcidaaDoorJ29
import Derived.Test.YtmlkpdeidpcidaaDoorJ18
import Derived.Deep.QuietTactic
import Derived.BigQuiet
import Derived.Test.YtmlkpdeidpcidaaDoorJ10
import Derived.Test.YtmlkpdeidpcidaaDoorJ06
import Derived.Test.YtmlkpdeidpcidaaDoorJ03
import Derived.Test.YtmlkpdeidpcidaaDoorJ04
import Derived.Test.YtmlkpdeidpcidaaDoorJ05
import Derived.Test.YtmlkpdeidpcidaaDoorJ23
namespace Go.Proofs.YtmlkpdeidpcidaaDoor
open Go.RowKit
set_option linter.unusedVariables false

/-- Where a set leads to is what is known next. -/
theorem rep_see {p : Plant} (hp : mayP p = true) {S : Nat → Nat} {s : List Int} (hr : RepI S s) (hc : ClU p s) {e : Nat} (he : e < p.seen.length) : RepI (leadS p.seen.length (hideM p.m p.seen).arrows S e) (seeD p s e) := by
  obtain ⟨hm, z6, hrr, -⟩ := (mayP_iff p).1 hp
  have hmh := may_hide hm hrr (hide_small hm z6 hrr)
  have e1 : (hideM p.m p.seen).st = p.m.st := rfl
  have r1 := rep_lead (st := (hideM p.m p.seen).st) (ev := (p.seen.length : Int)) (e := (e : Int)) hr.1 (may_arrs hmh) (by omega) (by omega) (by omega)
  have r2 : Rep (leadS p.seen.length (hideM p.m p.seen).arrows S e) (stepL (hideM p.m p.seen).arrows s (e : Int)) := by simpa only [Int.toNat_natCast] using r1
  rw [hide_see hm hc he] at r2
  exact ⟨r2, (see_in hm s _).1⟩
theorem all_lt {p : Plant} {S : Nat → Nat} {s : List Int} (hr : RepI S s) (hc : ClU p s) : ∀ n ∈ allS S, n < p.m.st.toNat := fun n hn => by
  obtain ⟨m1, m2⟩ := (mem_allS S n).1 hn
  have := hc.1 (n : Int) ((hr.1.mem n m1).1 m2)
  omega

theorem rep_start {p : Plant} (hp : mayP p = true) : RepI (ofS (wideL p.m.arrows p.seen p.m.starts)) (wideL p.m.arrows p.seen p.m.starts) := by
  obtain ⟨hm, z6, -, -⟩ := (mayP_iff p).1 hp
  have h1 := wide_in (p := p) hm (may_starts hm).2
  have := rep_of (l := wideL p.m.arrows p.seen p.m.starts) (fun x hx => by have := h1.2 x hx; omega) (wideL p.m.arrows p.seen p.m.starts).length
  rw [List.take_of_length_le (Nat.le_refl _)] at this
  exact ⟨this, h1.1⟩

end Go.Proofs.YtmlkpdeidpcidaaDoor
namespace Go.Proofs.YtmlkpdeidpcidaaDoor
open Go.RowKit
set_option linter.unusedVariables false

theorem mayP_no1 {p : Plant} (h : mayB p.m = false) : mayP p = false := by unfold mayP; rw [h]; rfl
theorem mayP_no2 {p : Plant} (h : ¬ p.m.st ≤ 6) : mayP p = false := by unfold mayP; rw [decide_eq_false h]; simp
theorem mayP_no3 {p : Plant} (h : rowB p.m.ev p.seen = false) : mayP p = false := by unfold mayP; rw [h]; simp
theorem mayP_last {p : Plant} (h1 : mayB p.m = true) (h2 : p.m.st ≤ 6) (h3 : rowB p.m.ev p.seen = true) : mayP p = rowB p.m.st p.secret := by unfold mayP; rw [h1, h3, decide_eq_true h2]; simp

set_option maxRecDepth 100000 in
set_option maxHeartbeats 4000000 in
theorem rMayP_any (p : Plant) (P : PTL) (w : World) (h : Hid (PAt w p P)) :
    Calls Tryd.prog 31 #[ptval p P] w fun e w' => e = .returned (.bool (mayP p)) ∧ Below w.heap.size w w' := by
  have b0 : Below w.heap.size w ((w.alloc (.cells (ptcells p P) 44)).alloc (.cells (mcells p.m P.l) 25)) := ((Below.refl _ _).alloc (Nat.le_refl _) _).alloc (by simp) _
  have B := Hid.of b0
  have KP : Hid (Blk ((w.alloc (.cells (ptcells p P) 44)).alloc (.cells (mcells p.m P.l) 25)) w.heap.size 44 (ptcells p P)) := (Blk.new w _ _).alloc _
  have KM : Hid (Blk ((w.alloc (.cells (ptcells p P) 44)).alloc (.cells (mcells p.m P.l) 25)) (w.heap.size + 1) 25 (mcells p.m P.l)) := by
    have := Blk.new (w.alloc (.cells (ptcells p P) 44)) 25 (mcells p.m P.l)
    rwa [World.size_alloc] at this
  clear b0
  go_enter Tryd.func31, Tryd.ntmps31
  go_wp2_with fail
  revert B KP KM
  show Hid (Below w.heap.size w ((w.alloc (.cells #[.int .i64 p.m.st, .int .i64 p.m.ev, .slice P.l.a1 p.m.starts.length P.l.c1, .slice P.l.a2 p.m.arrows.length P.l.c2, .slice P.l.a3 p.m.ends.length P.l.c3, .slice P.sa p.seen.length P.sc, .slice P.ta p.secret.length P.tc] 44)).alloc (.cells #[.int .i64 p.m.st, .int .i64 p.m.ev, .slice P.l.a1 p.m.starts.length P.l.c1, .slice P.l.a2 p.m.arrows.length P.l.c2, .slice P.l.a3 p.m.ends.length P.l.c3] 25))) → _
  generalize (w.alloc (.cells #[.int .i64 p.m.st, .int .i64 p.m.ev, .slice P.l.a1 p.m.starts.length P.l.c1, .slice P.l.a2 p.m.arrows.length P.l.c2, .slice P.l.a3 p.m.ends.length P.l.c3, .slice P.sa p.seen.length P.sc, .slice P.ta p.secret.length P.tc] 44)).alloc (.cells #[.int .i64 p.m.st, .int .i64 p.m.ev, .slice P.l.a1 p.m.starts.length P.l.c1, .slice P.l.a2 p.m.arrows.length P.l.c2, .slice P.l.a3 p.m.ends.length P.l.c3] 25) = V0
  intro B KP KM
  refine (refMay_any p.m P.l V0 (h.out.m.below B.out (Nat.le_refl _))).mono ?_
  rintro e W1 ⟨rfl, hb⟩
  replace B := Hid.of (B.out.trans (hb.mono B.out.size))
  replace KP := Hid.of (KP.out.below hb KP.out.lt)
  replace KM := Hid.of (KM.out.below hb KM.out.lt)
  clear hb
  cases h1 : mayB p.m with
  | false =>
    have HF := Hid.of (mayP_no1 h1)
    clear h1
    go_wp2_with fail
    go_ret
    exact ⟨ret_bool HF.out.symm, B.out⟩
  | true =>
    have H1 := Hid.of h1
    clear h1
    by_cases h2 : p.m.st ≤ 6
    · have d2 : decide (p.m.st ≤ 6) = true := by simpa using h2
      obtain ⟨y0, y1, y2, y3, y4⟩ := mcell_at KM.out
      obtain ⟨x0, x1, x2, x3, x4, x5, x6⟩ := ptcell_at KP.out
      go_wp2_with fail
      refine (refIs_any P.sa P.sc p.seen p.m.ev W1 (h.out.s.at_.below B.out (Nat.le_refl _)) h.out.s.len).mono ?_
      rintro e W2 ⟨rfl, q, hq⟩
      have hb : Below W1.heap.size W1 W2 := by rw [hq]; exact below_drewN (Below.refl _ _) q
      replace B := Hid.of (B.out.trans (hb.mono B.out.size))
      replace KP := Hid.of (KP.out.below hb KP.out.lt)
      replace KM := Hid.of (KM.out.below hb KM.out.lt)
      clear hb hq y0 y1 y2 y3 y4 x0 x1 x2 x3 x4 x5 x6
      cases h3 : rowB p.m.ev p.seen with
      | false =>
        have HF := Hid.of (mayP_no3 h3)
        clear h3
        go_wp2_with fail
        go_ret
        exact ⟨ret_bool HF.out.symm, B.out⟩
      | true =>
        have HF := Hid.of (mayP_last H1.out h2 h3)
        clear h3
        obtain ⟨y0, y1, y2, y3, y4⟩ := mcell_at KM.out
        obtain ⟨x0, x1, x2, x3, x4, x5, x6⟩ := ptcell_at KP.out
        go_wp2_with fail
        refine (refIs_any P.ta P.tc p.secret p.m.st W2 (h.out.t.at_.below B.out (Nat.le_refl _)) h.out.t.len).mono ?_
        rintro e W3 ⟨rfl, q, hq⟩
        have hb : Below W2.heap.size W2 W3 := by rw [hq]; exact below_drewN (Below.refl _ _) q
        replace B := Hid.of (B.out.trans (hb.mono B.out.size))
        clear hb hq y0 y1 y2 y3 y4 x0 x1 x2 x3 x4 x5 x6
        obtain ⟨bb, HB⟩ : ∃ bb, Hid (bb = rowB p.m.st p.secret) := ⟨_, rfl⟩
        rw [← HB.out] at HF ⊢
        go_wp2_with fail
        go_ret
        exact ⟨ret_bool HF.out.symm, B.out⟩
    · have d2 : decide (p.m.st ≤ 6) = false := by simpa using h2
      have HF := Hid.of (mayP_no2 h2)
      obtain ⟨y0, y1, y2, y3, y4⟩ := mcell_at KM.out
      go_wp2_with fail
      go_ret
      exact ⟨ret_bool HF.out.symm, B.out⟩

set_option maxRecDepth 100000 in
set_option maxHeartbeats 2000000 in
theorem rTells_any (a b : Option Addr) (ca cb : Nat) (row secret : List Int) (w : World) (h : At w a row) (hl : row.length ≤ 17592186044416) (h' : At w b secret) (hl' : secret.length ≤ maxLen) :
    Calls Tryd.prog 92 #[.slice a row.length ca, .slice b secret.length cb] w fun e w' => e = .returned (.bool (leakB secret row)) ∧ Below w.heap.size w w' := by
  have KEY := Hid.of (only_any a b ca cb row secret false w h hl h' hl')
  obtain ⟨op, HO⟩ : ∃ op, Hid (op = row.filter fun n => hasB secret n == false) := ⟨_, rfl⟩
  rw [← HO.out] at KEY
  have HLK : Hid (leakB secret row = (decide (0 < row.length) && decide (op.length = 0))) := by show _ = _; unfold leakB; rw [HO.out]
  clear h h' HO
  go_enter Tryd.func92, Tryd.ntmps92
  go_wp2_with fail
  refine KEY.out.mono ?_
  rintro e W1 ⟨va, vc, rfl, -, -, hb⟩
  have B := Hid.of hb
  clear hb
  by_cases h0 : 0 < row.length
  · have d0 : decide ((0 : Int) < (row.length : Int)) = true := decide_eq_true (by omega)
    by_cases h1 : op.length = 0
    · have d1 : ((op.length : Int) == 0) = true := by rw [h1]; rfl
      have HF : Hid (leakB secret row = true) := by show _ = _; rw [HLK.out, decide_eq_true h0, decide_eq_true h1]; rfl
      go_wp2_with fail
      all_goals
        go_ret
        exact ⟨ret_bool HF.out.symm, B.out⟩
    · have d1 : ((op.length : Int) == 0) = false := by rw [beq_eq_false_iff_ne]; omega
      have HF : Hid (leakB secret row = false) := by show _ = _; rw [HLK.out, decide_eq_false h1, Bool.and_false]
      go_wp2_with fail
      all_goals
        go_ret
        exact ⟨ret_bool HF.out.symm, B.out⟩
  · have d0 : decide ((0 : Int) < (row.length : Int)) = false := decide_eq_false (by omega)
    have HF : Hid (leakB secret row = false) := by show _ = _; rw [HLK.out, decide_eq_false h0, Bool.false_and]
    go_wp2_with fail
    all_goals
      go_ret
      exact ⟨ret_bool HF.out.symm, B.out⟩

end Go.Proofs.YtmlkpdeidpcidaaDoor
namespace Go.Proofs.YtmlkpdeidpcidaaDoor
open Go.RowKit
set_option linter.unusedVariables false

/-- Are all of a list seen? -/
def inSeen (seen word : List Int) : Bool := decide ((seenL seen word).length = word.length)
theorem inSeen_iff (seen word : List Int) : inSeen seen word = true ↔ ∀ e ∈ word, e ∈ seen := by
  unfold inSeen seenL
  rw [decide_eq_true_eq, List.length_filter_eq_length_iff]
  constructor
  · intro h e he
    have := h e he
    unfold hasB at this
    simpa using this
  · intro h e he
    have := h e he
    unfold hasB
    simpa using this
/-- What Estimate answers (I2). -/
def estOut (p : Plant) (word : List Int) : List Int × Int := if mayP p = true then (if inSeen p.seen word = true then (estL p word, 0) else ([], 6)) else ([], 2)
/-- What is left by a call that hands back a list and an error. -/
def ListPost (w : World) (r : List Int × Int) (e : Ending) (w' : World) : Prop := ∃ va vc, e = .returned (.tuple #[.slice va r.1.length vc, .int .i64 r.2]) ∧ At w' va r.1 ∧ r.1.length ≤ maxLen ∧ Below w.heap.size w w'
theorem estOut_bad {p : Plant} (h : mayP p = false) (word : List Int) : estOut p word = ([], 2) := by unfold estOut; rw [if_neg (by rw [h]; simp)]
theorem estOut_ok {p : Plant} {word : List Int} (h : mayP p = true) (hs : inSeen p.seen word = true) : estOut p word = (estL p word, 0) := by unfold estOut; rw [if_pos h, if_pos hs]
theorem estOut_out {p : Plant} {word : List Int} (h : mayP p = true) (hs : inSeen p.seen word = false) : estOut p word = ([], 6) := by unfold estOut; rw [if_pos h, if_neg (by rw [hs]; simp)]
/-! What is best, where the lesser lists stand ahead. -/
end Go.Proofs.YtmlkpdeidpcidaaDoor
namespace Go.Proofs.YtmlkpdeidpcidaaDoor
open Go.RowKit
set_option linter.unusedVariables false

theorem allIn_eq (seen xs : List Int) : allIn seen xs = inSeen seen xs := by
  rw [Bool.eq_iff_iff, allIn_iff, inSeen_iff]
/-- What Estimate knows behind the first k events. -/
structure ES (p : Plant) (word : List Int) (k : Nat) (S : Nat → Nat) : Prop where
  rep : RepI S (estL p (word.take k))
theorem est_cl {p : Plant} (hm : mayB p.m = true) (u : List Int) : ClU p (estL p u) := clU_fold hm u _ (clU_start hm)
theorem est_snoc (p : Plant) (u : List Int) (e : Int) : estL p (u ++ [e]) = seeL p (estL p u) e := by
  unfold estL fromL
  rw [List.foldl_append]; rfl
theorem est_more (p : Plant) (hm : mayB p.m = true) (u v : List Int) (h : estL p u = []) : estL p (u ++ v) = [] := by
  unfold estL fromL at h ⊢
  rw [List.foldl_append, h]
  exact fold_nil hm v
theorem es_next {p : Plant} (hp : mayP p = true) {word : List Int} {k : Nat} {S : Nat → Nat} (h : ES p word k S) (hk : k < word.length) {ev : Int} (he : Hid (ev = word[k]?.getD 0)) {j : Nat} (hj : Hid (placeN p.seen ev = some j)) : ES p word (k + 1) (leadS p.seen.length (hideM p.m p.seen).arrows S j) := by
  obtain ⟨hm, -, -, -⟩ := (mayP_iff p).1 hp
  have h1 := placeN_some hj.out
  have hl := (List.getElem?_eq_some_iff.1 h1).1
  have h2 := rep_see hp h.rep (est_cl hm _) hl
  refine ⟨?_⟩
  have h3 : word[k]? = some ev := by rw [he.out, List.getElem?_eq_getElem hk, Option.getD_some]
  rw [List.take_add_one, h3, Option.toList_some, est_snoc]
  have h4 : seeD p (estL p (word.take k)) j = seeL p (estL p (word.take k)) ev := by unfold seeD; rw [h1, Option.getD_some]
  rw [← h4]; exact h2
/-- Nothing more is to be known: what Row answers. -/
theorem es_row {p : Plant} (hm : mayB p.m = true) {word : List Int} {k : Nat} {S : Nat → Nat} (h : ES p word k S) (hk : emptyB S = true ∨ word.length ≤ k) : rowS S = estL p word := by
  rw [rep_row h.rep.1 h.rep.2]
  rcases hk with he | hk
  · have := empty_yes h.rep.1 he
    rw [this]
    have e := est_more p hm (word.take k) (word.drop k) this
    rw [List.take_append_drop] at e
    exact e.symm
  · rw [List.take_of_length_le hk]

/-- What is left by a call that hands back a list of its own, and an error. -/
def ListOwn (w : World) (r : List Int × Int) (e : Ending) (w' : World) : Prop := ∃ v, e = .returned (.tuple #[v, .int .i64 r.2]) ∧ Own w' w.heap.size v r.1 ∧ Below w.heap.size w w'
theorem ListOwn.post {w : World} {r : List Int × Int} {e : Ending} {w' : World} (h : ListOwn w r e w') : ListPost w r e w' := by
  obtain ⟨v, rfl, ov, hb⟩ := h
  obtain ⟨va, vc, rfl, h1, h2⟩ := Own.at ov
  exact ⟨va, vc, rfl, h1, h2, hb⟩

set_option maxRecDepth 100000 in
set_option maxHeartbeats 4000000 in
theorem est_bad (p : Plant) (P : PTL) (wa : Option Addr) (wc : Nat) (word : List Int) (w : World) (h : Hid (PAt w p P)) (hp : Hid (mayP p = false)) :
    Calls Tryd.prog 29 #[ptval p P, .slice wa word.length wc] w fun e w' => ListOwn w (estOut p word) e w' := by
  have B : Hid (Below w.heap.size w (w.alloc (.cells (ptcells p P) 44))) := (Below.refl _ _).alloc (Nat.le_refl _) _
  have KP : Hid (Blk (w.alloc (.cells (ptcells p P) 44)) w.heap.size 44 (ptcells p P)) := Blk.new w _ _
  go_enter Tryd.func29, Tryd.ntmps29
  obtain ⟨x0, x1, x2, x3, x4, x5, x6⟩ := ptcell_at KP.out
  go_wp2_with fail
  clear x0 x1 x2 x3 x4 x5 x6
  revert B KP
  generalize (w.alloc (.cells (ptcells p P) 44)) = V0
  intro B KP
  refine (cwatch_bad p P V0 (Hid.of (h.out.below B.out (Nat.le_refl _))) hp).mono ?_
  rintro e V1 ⟨rfl, hb⟩
  replace B := Hid.of (B.out.trans (hb.mono B.out.size))
  clear hb KP
  have B2 : Hid (Below w.heap.size w (V1.alloc (.cells zs4 85))) := B.out.alloc B.out.size _
  clear B
  go_wp2_with fail
  refine bodyPost_ret (v := .tuple #[.slice none 0 0, .int .i64 2]) (by simp [results, go_sem]) rfl ?_
  rw [estOut_bad hp.out]
  exact ⟨_, rfl, own_nil _ _, B2.out⟩

set_option maxRecDepth 100000 in
set_option maxHeartbeats 16000000 in
theorem est_ok (p : Plant) (P : PTL) (wa : Option Addr) (wc : Nat) (word : List Int) (w : World) (h : Hid (PAt w p P)) (hw : Hid (At w wa word)) (hwl : Hid (word.length ≤ maxLen)) (hT : Hid (Tab w)) (hp : Hid (mayP p = true)) :
    Calls Tryd.prog 29 #[ptval p P, .slice wa word.length wc] w fun e w' => ListOwn w (estOut p word) e w' := by
  obtain ⟨hm, z6, hrr, -⟩ := (mayP_iff p).1 hp.out
  have hz := mayB_size hm
  unfold sizeOk at hz
  have h8 : p.seen.length ≤ 8 := by have := row_short (by omega) (by omega) hrr; omega
  have h256 : p.m.st.toNat ≤ 256 := by omega
  have HMM := Hid.of hm
  have H8 := Hid.of h8
  have H256 := Hid.of h256
  clear hz hrr hm z6 h8 h256
  have B : Hid (Below w.heap.size w (w.alloc (.cells (ptcells p P) 44))) := (Below.refl _ _).alloc (Nat.le_refl _) _
  have KP : Hid (Blk (w.alloc (.cells (ptcells p P) 44)) w.heap.size 44 (ptcells p P)) := Blk.new w _ _
  go_enter Tryd.func29, Tryd.ntmps29
  obtain ⟨x0, x1, x2, x3, x4, x5, x6⟩ := ptcell_at KP.out
  go_wp2_with fail
  clear x0 x1 x2 x3 x4 x5 x6
  revert B KP
  generalize (w.alloc (.cells (ptcells p P) 44)) = V0
  intro B KP
  refine (cwatch_ok p P V0 (Hid.of (h.out.below B.out (Nat.le_refl _))) (Hid.of (hT.out.below B.out hT.out.lt)) hp).mono ?_
  rintro e V1 ⟨pl, pp, L0, rfl, cl, hb⟩
  replace B := Hid.of (B.out.trans (hb.mono B.out.size))
  replace KP := Hid.of (KP.out.below hb KP.out.lt)
  have HCL := Hid.of cl
  clear hb cl
  obtain ⟨Q, HQ⟩ : ∃ Q, Hid (Q = ofS (wideL p.m.arrows p.seen p.m.starts)) := ⟨_, rfl⟩
  have HRQ : Hid (RepI Q (wideL p.m.arrows p.seen p.m.starts)) := by rw [HQ.out]; exact rep_start hp.out
  rw [← HQ.out]
  have BV : Hid (Below V1.heap.size V1 (V1.alloc (.cells (scells Q) 85))) := (Below.refl _ _).alloc (Nat.le_refl _) _
  have KS : Hid (SB (V1.alloc (.cells (scells Q) 85)) V1.heap.size Q) := Blk.new V1 _ _
  obtain ⟨x0, x1, x2, x3, x4, x5, x6⟩ := ptcell_at (KP.out.below BV.out KP.out.lt)
  obtain ⟨y0, y1, y2, y3⟩ := SB.cells KS.out
  go_wp2_with fail
  clear x0 x1 x2 x3 x4 x5 x6 y0 y1 y2 y3
  revert BV KS
  generalize V1.alloc (.cells (scells Q) 85) = V2
  intro BV KS
  refine (cisSeen_any p P wa wc word V2 (Hid.of (h.out.below (B.out.trans (BV.out.mono B.out.size)) (Nat.le_refl _))) (Hid.of (hw.out.below (B.out.trans (BV.out.mono B.out.size)) (Nat.le_refl _))) hwl).mono ?_
  rintro e V3 ⟨rfl, hb⟩
  rw [allIn_eq]
  replace BV := Hid.of (BV.out.trans (hb.mono BV.out.size))
  replace KS := Hid.of (KS.out.below hb KS.out.lt)
  clear hb
  cases hin : inSeen p.seen word with
  | false =>
    have HO : Hid (estOut p word = ([], 6)) := estOut_out hp.out hin
    clear hin
    go_wp2_with fail
    refine bodyPost_ret (v := .tuple #[.slice none 0 0, .int .i64 6]) (by simp [results, go_sem]) rfl ?_
    rw [HO.out]
    exact ⟨_, rfl, own_nil _ _, B.out.trans (BV.out.mono B.out.size)⟩
  | true =>
    have HO : Hid (estOut p word = (estL p word, 0)) := estOut_ok hp.out hin
    have HIN : Hid (∀ e ∈ word, e ∈ p.seen) := (inSeen_iff _ _).1 hin
    have hwl2 : word.length ≤ 9223372036854775807 := hwl.out
    clear hin
    go_wp2_with fail
    go_loopw [26] (fun i wr => ∃ (k : Nat) (S : Nat → Nat), i = .int .i64 k ∧ k ≤ word.length ∧ Hid (ES p word k S) ∧ Hid (Below V1.heap.size V1 wr) ∧ Hid (SB wr V1.heap.size S)) (fun i _ => word.length - (intOf i).toNat)
    case atStart => exact ⟨0, Q, rfl, Nat.zero_le _, Hid.of ⟨HRQ.out⟩, BV, KS⟩
    case round =>
      clear BV KS HRQ HQ
      obtain ⟨k, S, rfl, hk, HES, BV, KS⟩ := hrel
      by_cases hlt : k < word.length
      · obtain ⟨bs, os, ev, rfl, HEV, HSC⟩ : ∃ (bs os : Nat) (ev : Int), wa = some ⟨bs, os, none⟩ ∧ Hid (ev = word[k]?.getD 0) ∧ wr.cell? ⟨bs, os + k, none⟩ = some (.int .i64 ev) := by
          rcases hw.out with h0 | ⟨bs, os, ha, hb, hc⟩
          · have : word.length = 0 := by rw [h0]; rfl
            omega
          · obtain ⟨ev, hev, hcell⟩ := hc.at hlt
            refine ⟨bs, os, ev, ha, hev, ?_⟩
            exact ((B.out.trans (BV.out.mono B.out.size)).cell (p := ⟨bs, os + k, none⟩) hb).trans hcell
        obtain ⟨j, HJ⟩ : ∃ j, Hid (placeN p.seen ev = some j) := placeN_mem (HIN.out ev (by rw [HEV.out, List.getElem?_eq_getElem hlt, Option.getD_some]; exact List.getElem_mem hlt))
        have HJL : Hid (j < p.seen.length) := (List.getElem?_eq_some_iff.1 (placeN_some HJ.out)).1
        obtain ⟨y0, y1, y2, y3⟩ := SB.cells KS.out
        have hgd := run_guard_set
        cases hE : emptyB S with
        | true =>
          have heq : (Op.equalIn 10000 85 (.agg #[.int .u64 (S 0), .int .u64 (S 1), .int .u64 (S 2), .int .u64 (S 3)]) (.agg #[.int .u64 0, .int .u64 0, .int .u64 0, .int .u64 0])).run Tryd.prog wr = .ok true wr := by rw [← hE]; exact run_equalIn_set S wr
          have HEQ : Hid (rowS S = estL p word) := es_row HMM.out HES.out (.inl hE)
          clear hE
          go_wp2_with fail
          refine (rowO_any S _ HES.out.rep.1.ok (hT.out.below (B.out.trans (BV.out.mono B.out.size)) hT.out.lt)).mono ?_
          rintro e W9 ⟨v9, rfl, ov, hb⟩
          obtain ⟨R, HRr⟩ : ∃ R, Hid (R = rowS S) := ⟨_, rfl⟩
          rw [← HRr.out] at ov
          have OV := Hid.of (Own.low ov (Nat.le_trans B.out.size BV.out.size))
          have B9 := Hid.of (B.out.trans ((BV.out.trans (hb.mono BV.out.size)).mono B.out.size))
          clear ov hb
          go_wp2_with fail
          refine bodyPost_ret (v := .tuple #[v9, .int .i64 0]) (by simp [results, go_sem]) rfl ?_
          rw [HO.out, ← HEQ.out, ← HRr.out]
          exact ⟨v9, rfl, OV.out, B9.out⟩
        | false =>
          have heq : (Op.equalIn 10000 85 (.agg #[.int .u64 (S 0), .int .u64 (S 1), .int .u64 (S 2), .int .u64 (S 3)]) (.agg #[.int .u64 0, .int .u64 0, .int .u64 0, .int .u64 0])).run Tryd.prog wr = .ok false wr := by rw [← hE]; exact run_equalIn_set S wr
          have HN : Hid (ES p word (k + 1) (leadS p.seen.length (hideM p.m p.seen).arrows S j)) := es_next hp.out HES.out hlt HEV HJ
          have hcall := Hid.of (cwatch1_any p P S ev j HJ HJL.out H8.out H256.out (Hid.of HES.out.rep.1.ok) (Hid.of (all_lt HES.out.rep (est_cl HMM.out _))) pl pp L0 wr (Hid.of (hT.out.below (B.out.trans (BV.out.mono B.out.size)) hT.out.lt)) (Hid.of (HCL.out.kept BV.out)))
          obtain ⟨Q2, HQ2⟩ : ∃ Q2, Hid (Q2 = leadS p.seen.length (hideM p.m p.seen).arrows S j) := ⟨_, rfl⟩
          rw [← HQ2.out] at hcall HN
          clear hE
          go_wp2_with fail
          refine hcall.out.mono ?_
          rintro r w1 ⟨rfl, hb1⟩
          have BV1 := Hid.of (BV.out.trans (hb1.mono BV.out.size))
          have KS1 := Hid.of (KS.out.below hb1 KS.out.lt)
          clear hb1 y0 y1 y2 y3 heq hcall HSC
          obtain ⟨y0, y1, y2, y3⟩ := SB.cells KS1.out
          have yz := KS1.out.frozen
          have KS2 := Hid.of (SB.set4 KS1.out Q2)
          have BV2 := Hid.of (below_set4 BV1.out (b' := V1.heap.size) (Nat.le_refl _) (.int .u64 (Q2 0)) (.int .u64 (Q2 1)) (.int .u64 (Q2 2)) (.int .u64 (Q2 3)))
          go_wp2_with fail
          go_roundw
          case rel => exact ⟨k + 1, Q2, by go_num, by omega, HN, BV2, KS2⟩
          case measure => simp [intOf]; omega
      · have HEQ : Hid (rowS S = estL p word) := es_row HMM.out HES.out (.inr (by omega))
        obtain ⟨y0, y1, y2, y3⟩ := SB.cells KS.out
        go_wp2_with fail
        refine (rowO_any S _ HES.out.rep.1.ok (hT.out.below (B.out.trans (BV.out.mono B.out.size)) hT.out.lt)).mono ?_
        rintro e W9 ⟨v9, rfl, ov, hb⟩
        obtain ⟨R, HRr⟩ : ∃ R, Hid (R = rowS S) := ⟨_, rfl⟩
        rw [← HRr.out] at ov
        have OV := Hid.of (Own.low ov (Nat.le_trans B.out.size BV.out.size))
        have B9 := Hid.of (B.out.trans ((BV.out.trans (hb.mono BV.out.size)).mono B.out.size))
        clear ov hb
        go_wp2_with fail
        refine bodyPost_ret (v := .tuple #[v9, .int .i64 0]) (by simp [results, go_sem]) rfl ?_
        rw [HO.out, ← HEQ.out, ← HRr.out]
        exact ⟨v9, rfl, OV.out, B9.out⟩

theorem pEstO_any (p : Plant) (P : PTL) (wa : Option Addr) (wc : Nat) (word : List Int) (w : World) (h : PAt w p P) (hw : At w wa word) (hwl : word.length ≤ maxLen) (hT : Tab w) :
    Calls Tryd.prog 29 #[ptval p P, .slice wa word.length wc] w fun e w' => ListOwn w (estOut p word) e w' := by
  cases hp : mayP p with
  | false => exact est_bad p P wa wc word w (Hid.of h) (Hid.of hp)
  | true => exact est_ok p P wa wc word w (Hid.of h) (Hid.of hw) (Hid.of hwl) (Hid.of hT) (Hid.of hp)
theorem pEst_any (p : Plant) (P : PTL) (wa : Option Addr) (wc : Nat) (word : List Int) (w : World) (h : PAt w p P) (hw : At w wa word) (hwl : word.length ≤ maxLen) (hT : Tab w) :
    Calls Tryd.prog 29 #[ptval p P, .slice wa word.length wc] w fun e w' => ListPost w (estOut p word) e w' :=
  (pEstO_any p P wa wc word w h hw hwl hT).mono fun _ _ h => h.post

end Go.Proofs.YtmlkpdeidpcidaaDoor
namespace Go.Proofs.YtmlkpdeidpcidaaDoor
open Go.RowKit
set_option linter.unusedVariables false

theorem fold_take {σ : Type} (f : σ → Int → σ) (s : σ) {word : List Int} {k : Nat} {x : Int} (h : k < word.length) (hx : Hid (x = word[k]?.getD 0)) : (word.take (k + 1)).foldl f s = f ((word.take k).foldl f s) x := by
  rw [List.take_add_one, List.getElem?_eq_getElem h, Option.toList_some, List.foldl_append, hx.out, List.getElem?_eq_getElem h]; rfl

set_option maxRecDepth 100000 in
set_option maxHeartbeats 8000000 in
theorem rfrom_go (st ev : Int) (starts : List Int) (ars : List Arr) (ends seen secret : List Int) (a1 : Option Addr) (c1 : Nat) (a2 : Option Addr) (c2 : Nat) (a3 : Option Addr) (c3 : Nat) (sa : Option Addr) (sc : Nat) (ta : Option Addr) (tc : Nat) (xa wa : Option Addr) (xc wc : Nat) (ss word : List Int) (w : World) (h : Hid (PAt w ⟨⟨st, ev, starts, ars, ends⟩, seen, secret⟩ ⟨⟨a1, c1, a2, c2, a3, c3⟩, sa, sc, ta, tc⟩)) (hm : Hid (mayB ⟨st, ev, starts, ars, ends⟩ = true)) (hs : Hid (At w xa ss)) (hsl : Hid (ss.length ≤ 4096)) (hsn : Hid (xa = none → xc = 0)) (hw : Hid (At w wa word)) (hwl : word.length ≤ 9223372036854775807) :
    Calls Tryd.prog 80 #[ptval ⟨⟨st, ev, starts, ars, ends⟩, seen, secret⟩ ⟨⟨a1, c1, a2, c2, a3, c3⟩, sa, sc, ta, tc⟩, .slice xa ss.length xc, .slice wa word.length wc] w fun e w' => GivesO w (fromL ⟨⟨st, ev, starts, ars, ends⟩, seen, secret⟩ ss word) e w' := by
  have hz := mayB_size hm.out
  unfold sizeOk at hz
  dsimp only at hz
  have hlen : Hid (ars.length ≤ 4096) := show _ ≤ _ by omega
  clear hz
  have hto : Hid (∀ a ∈ ars, 0 ≤ a.t ∧ a.t < (256 : Nat)) := may_to hm.out
  have B : Hid (Below w.heap.size w (w.alloc (.cells (ptcells ⟨⟨st, ev, starts, ars, ends⟩, seen, secret⟩ ⟨⟨a1, c1, a2, c2, a3, c3⟩, sa, sc, ta, tc⟩) 44))) := (Below.refl _ _).alloc (Nat.le_refl _) _
  have K : Hid (Blk (w.alloc (.cells (ptcells ⟨⟨st, ev, starts, ars, ends⟩, seen, secret⟩ ⟨⟨a1, c1, a2, c2, a3, c3⟩, sa, sc, ta, tc⟩) 44)) w.heap.size 44 (ptcells ⟨⟨st, ev, starts, ars, ends⟩, seen, secret⟩ ⟨⟨a1, c1, a2, c2, a3, c3⟩, sa, sc, ta, tc⟩)) := Blk.new w _ _
  go_enter Tryd.func80, Tryd.ntmps80
  go_wp2_with fail
  revert B K
  show Hid (Below w.heap.size w (w.alloc (.cells #[.int .i64 st, .int .i64 ev, .slice a1 starts.length c1, .slice a2 ars.length c2, .slice a3 ends.length c3, .slice sa seen.length sc, .slice ta secret.length tc] 44))) → _
  generalize w.alloc (.cells #[.int .i64 st, .int .i64 ev, .slice a1 starts.length c1, .slice a2 ars.length c2, .slice a3 ends.length c3, .slice sa seen.length sc, .slice ta secret.length tc] 44) = V0
  intro B K
  refine (refWide_any ⟨st, ev, starts, ars, ends⟩ ⟨a1, c1, a2, c2, a3, c3⟩ xa sa xc sc ss seen V0 (h.out.m.a.below B.out (Nat.le_refl _)) hlen.out hto.out (hs.out.below B.out (Nat.le_refl _)) hsl.out hsn.out (h.out.s.at_.below B.out (Nat.le_refl _)) h.out.s.len).mono ?_
  rintro e W1 ⟨v, rfl, ov, hb⟩
  have OV : Hid (Own W1 w.heap.size v (wideL ars seen ss)) := Own.low ov B.out.size
  replace B := Hid.of (B.out.trans (hb.mono B.out.size))
  replace K := Hid.of (K.out.below hb K.out.lt)
  clear hb ov
  go_wp2_with fail
  go_loopw [7, 8] (fun v7 i wr => ∃ k : Nat, i = .int .i64 k ∧ k ≤ word.length ∧ Hid (Own wr w.heap.size v7 ((word.take k).foldl (seeL ⟨⟨st, ev, starts, ars, ends⟩, seen, secret⟩) (wideL ars seen ss))) ∧ Hid (Below w.heap.size w wr) ∧ Hid (Blk wr w.heap.size 44 (ptcells ⟨⟨st, ev, starts, ars, ends⟩, seen, secret⟩ ⟨⟨a1, c1, a2, c2, a3, c3⟩, sa, sc, ta, tc⟩))) (fun _ i _ => word.length - (intOf i).toNat)
  case atStart => exact ⟨0, rfl, Nat.zero_le _, OV, B, K⟩
  case round =>
    clear OV B K
    obtain ⟨k, rfl, hk, OV, B, K⟩ := hrel
    by_cases hlt : k < word.length
    · rcases hw.out with hw0 | ⟨wb, wo, rfl, hwb, hwc⟩
      · rw [hw0] at hlt; simp at hlt
      obtain ⟨x, HX⟩ : ∃ x, Hid (x = word[k]?.getD 0) := ⟨_, rfl⟩
      have cw : wr.cell? ⟨wb, wo + k, none⟩ = some (.int .i64 x) := by
        rw [HX.out, ← List.getD_eq_getElem?_getD]
        exact (B.out.cell (p := ⟨wb, wo + k, none⟩) hwb).trans (hwc k hlt)
      have HWB := Hid.of hwb
      obtain ⟨x0, x1, x2, x3, x4, x5, x6⟩ := ptcell_at K.out
      dsimp only at x0 x1 x2 x3 x4 x5 x6
      obtain ⟨va, vc, hva, vat, vl1, vl2, -⟩ := Own.at2 OV.out
      have hvl : Hid (((word.take k).foldl (seeL ⟨⟨st, ev, starts, ars, ends⟩, seen, secret⟩) (wideL ars seen ss)).length ≤ maxLen) := Nat.le_trans vl1 vl2
      have HV := Hid.of vat
      have HNX : Hid ((word.take (k + 1)).foldl (seeL ⟨⟨st, ev, starts, ars, ends⟩, seen, secret⟩) (wideL ars seen ss) = seeL ⟨⟨st, ev, starts, ars, ends⟩, seen, secret⟩ ((word.take k).foldl (seeL ⟨⟨st, ev, starts, ars, ends⟩, seen, secret⟩) (wideL ars seen ss)) x) := fold_take _ _ hlt HX
      subst hva
      clear vat vl1 vl2 hwc hwb
      revert HNX HV hvl OV
      generalize (word.take k).foldl (seeL ⟨⟨st, ev, starts, ars, ends⟩, seen, secret⟩) (wideL ars seen ss) = cur
      intro hvl HV HNX OV
      go_wp2_with fail
      refine wp_region_held_drew (S := fun w' => w'.cell? ⟨w.heap.size, 0, none⟩ = some (.int .i64 st) ∧ w'.cell? ⟨w.heap.size, 1, none⟩ = some (.int .i64 ev) ∧ w'.cell? ⟨w.heap.size, 2, none⟩ = some (.slice a1 starts.length c1) ∧ w'.cell? ⟨w.heap.size, 3, none⟩ = some (.slice a2 ars.length c2) ∧ w'.cell? ⟨w.heap.size, 4, none⟩ = some (.slice a3 ends.length c3) ∧ w'.cell? ⟨w.heap.size, 5, none⟩ = some (.slice sa seen.length sc) ∧ w'.cell? ⟨w.heap.size, 6, none⟩ = some (.slice ta secret.length tc) ∧ w'.cell? ⟨wb, wo + k, none⟩ = some (.int .i64 x)) (by kernel_rfl) ⟨x0, x1, x2, x3, x4, x5, x6, cw⟩ (fun hS => ?_)
      have Bd : Hid (Below w.heap.size w wr.drew) := B.out.drew
      have Kd : Hid (Blk wr.drew w.heap.size 44 (ptcells ⟨⟨st, ev, starts, ars, ends⟩, seen, secret⟩ ⟨⟨a1, c1, a2, c2, a3, c3⟩, sa, sc, ta, tc⟩)) := Blk.drew K.out
      have HVd : Hid (At wr.drew va cur) := At.drewN HV.out 1
      have CW : Hid (wr.drew.cell? ⟨wb, wo + k, none⟩ = some (.int .i64 x)) := cw
      clear x0 x1 x2 x3 x4 x5 x6 cw B K HV OV
      revert hS Bd Kd HVd CW
      generalize wr.drew = Y
      intro hS Bd Kd HVd CW
      refine wpAnyH_take (i := 0) (v := .pointer (some ⟨w.heap.size, 0, none⟩)) rfl (by kernel_rfl) (by kernel_rfl) (by kernel_rfl) (fun _ _ _ h => h) (Or.inl ⟨by kernel_rfl, fun w' hw' => by obtain ⟨q0, q1, q2, q3, q4, q5, q6, q7⟩ := hw'; go_simp⟩) hS ?_
      refine wpAnyH_take (i := 1) (v := mval ⟨st, ev, starts, ars, ends⟩ ⟨a1, c1, a2, c2, a3, c3⟩) rfl (by kernel_rfl) (by kernel_rfl) (by kernel_rfl) (fun _ _ _ h => h) (Or.inl ⟨by kernel_rfl, fun w' hw' => by obtain ⟨q0, q1, q2, q3, q4, q5, q6, q7⟩ := hw'; go_simp⟩) hS ?_
      refine wpAnyH_take (i := 2) (v := .slice va cur.length vc) rfl (by kernel_rfl) (by kernel_rfl) (by kernel_rfl) (fun _ _ _ h => h) (Or.inl ⟨by kernel_rfl, fun w' hw' => by obtain ⟨q0, q1, q2, q3, q4, q5, q6, q7⟩ := hw'; go_simp⟩) hS ?_
      refine wpAnyH_take (i := 3) (v := .pointer (some ⟨w.heap.size, 5, none⟩)) rfl (by kernel_rfl) (by kernel_rfl) (by kernel_rfl) (fun _ _ _ h => h) (Or.inl ⟨by kernel_rfl, fun w' hw' => by obtain ⟨q0, q1, q2, q3, q4, q5, q6, q7⟩ := hw'; go_simp⟩) hS ?_
      refine wpAnyH_take (i := 4) (v := .slice sa seen.length sc) rfl (by kernel_rfl) (by kernel_rfl) (by kernel_rfl) (fun _ _ _ h => h) (Or.inl ⟨by kernel_rfl, fun w' hw' => by obtain ⟨q0, q1, q2, q3, q4, q5, q6, q7⟩ := hw'; go_simp⟩) hS ?_
      refine wpAnyH_take (i := 5) (v := .slice (some ⟨wb, wo, none⟩) word.length wc) rfl (by kernel_rfl) (by kernel_rfl) (by kernel_rfl) (fun _ _ _ h => h) (Or.inl ⟨by kernel_rfl, fun w' hw' => by obtain ⟨q0, q1, q2, q3, q4, q5, q6, q7⟩ := hw'; go_simp⟩) hS ?_
      refine wpAnyH_take (i := 6) (v := .int .i64 k) rfl (by kernel_rfl) (by kernel_rfl) (by kernel_rfl) (fun _ _ _ h => h) (Or.inl ⟨by kernel_rfl, fun w' hw' => by obtain ⟨q0, q1, q2, q3, q4, q5, q6, q7⟩ := hw'; go_simp⟩) hS ?_
      refine wpAnyH_take (i := 7) (v := .pointer (some ⟨wb, wo + k, none⟩)) rfl (by kernel_rfl) (by kernel_rfl) (by kernel_rfl) (fun _ _ _ h => h) (Or.inl ⟨by kernel_rfl, fun w' hw' => by obtain ⟨q0, q1, q2, q3, q4, q5, q6, q7⟩ := hw'; go_simp⟩) hS ?_
      refine wpAnyH_take (i := 8) (v := .int .i64 x) rfl (by kernel_rfl) (by kernel_rfl) (by kernel_rfl) (fun _ _ _ h => h) (Or.inl ⟨by kernel_rfl, fun w' hw' => by obtain ⟨q0, q1, q2, q3, q4, q5, q6, q7⟩ := hw'; go_simp⟩) hS ?_
      simp only [Act.put, List.setIfInBounds_toArray]
      refine wpAnyH_ready (rs := [9]) (by kernel_rfl) (by simp) ?_
      refine AllReadyH.cons rfl (fun K' hK' => ?_) AllReadyH.nil
      go_simp
      refine (refSeeing_any ⟨st, ev, starts, ars, ends⟩ ⟨a1, c1, a2, c2, a3, c3⟩ va sa vc sc cur seen x Y (h.out.m.a.below Bd.out (Nat.le_refl _)) hlen.out hto.out HVd.out hvl.out (h.out.s.at_.below Bd.out (Nat.le_refl _)) h.out.s.len).mono ?_
      rintro e Y1 ⟨v, rfl, ov, hb⟩
      have OV : Hid (Own Y1 w.heap.size v (seeL ⟨⟨st, ev, starts, ars, ends⟩, seen, secret⟩ cur x)) := Own.low ov Bd.out.size
      have B := Hid.of (Bd.out.trans (hb.mono Bd.out.size))
      have K := Hid.of (Kd.out.below hb Kd.out.lt)
      have cw1 : Y1.cell? ⟨wb, wo + k, none⟩ = some (.int .i64 x) := (hb.cell (p := ⟨wb, wo + k, none⟩) (Nat.lt_of_lt_of_le HWB.out Bd.out.size)).trans CW.out
      obtain ⟨x0, x1, x2, x3, x4, x5, x6⟩ := ptcell_at K.out
      obtain ⟨na, nc, hna, -, -, -⟩ := own_form2 OV.out
      subst hna
      refine hK'.out _ _ ⟨x0, x1, x2, x3, x4, x5, x6, cw1⟩ (fun hS1 => ?_)
      clear hK' K' hb ov hS x0 x1 x2 x3 x4 x5 x6 cw1 Bd Kd HVd CW
      refine wpAnyH_take (i := 10) (v := .slice na (seeL ⟨⟨st, ev, starts, ars, ends⟩, seen, secret⟩ cur x).length nc) rfl (by kernel_rfl) (by kernel_rfl) (by kernel_rfl) (fun _ _ _ h => h) (Or.inl ⟨by kernel_rfl, fun w' hw' => by obtain ⟨q0, q1, q2, q3, q4, q5, q6, q7⟩ := hw'; go_simp⟩) hS1 ?_
      refine wpAnyH_done (by kernel_rfl) ?_ _
      clear hS1
      revert HNX OV
      generalize seeL ⟨⟨st, ev, starts, ars, ends⟩, seen, secret⟩ cur x = nxt
      intro HNX OV
      go_wp2_with fail
      go_roundw
      case rel => exact ⟨k + 1, by go_num, by omega, (by show Own _ _ _ _; rw [HNX.out]; exact OV.out), B, K⟩
      case measure => simp [intOf]; omega
    · have hk2 : k = word.length := by omega
      have HE : Hid ((word.take k).foldl (seeL ⟨⟨st, ev, starts, ars, ends⟩, seen, secret⟩) (wideL ars seen ss) = fromL ⟨⟨st, ev, starts, ars, ends⟩, seen, secret⟩ ss word) := by show _ = _; rw [hk2, List.take_of_length_le (Nat.le_refl _)]; rfl
      have hltD : decide ((k : Int) < (word.length : Int)) = false := by simp; omega
      clear hk2
      rw [HE.out] at OV
      go_wp2_with fail
      go_ret
      exact ⟨_, rfl, OV.out, B.out⟩

theorem rFrom_any (p : Plant) (P : PTL) (xa wa : Option Addr) (xc wc : Nat) (ss word : List Int) (w : World) (h : PAt w p P) (hm : mayB p.m = true) (hs : At w xa ss) (hsl : ss.length ≤ 4096) (hsn : xa = none → xc = 0) (hw : At w wa word) (hwl : word.length ≤ maxLen) :
    Calls Tryd.prog 80 #[ptval p P, .slice xa ss.length xc, .slice wa word.length wc] w fun e w' => GivesO w (fromL p ss word) e w' := by
  obtain ⟨⟨st, ev, starts, ars, ends⟩, seen, secret⟩ := p
  obtain ⟨⟨a1, c1, a2, c2, a3, c3⟩, sa, sc, ta, tc⟩ := P
  exact rfrom_go st ev starts ars ends seen secret a1 c1 a2 c2 a3 c3 sa sc ta tc xa wa xc wc ss word w (Hid.of h) (Hid.of hm) (Hid.of hs) (Hid.of hsl) (Hid.of hsn) (Hid.of hw) hwl

set_option maxRecDepth 100000 in
set_option maxHeartbeats 4000000 in
theorem rEst_any (p : Plant) (P : PTL) (wa : Option Addr) (wc : Nat) (word : List Int) (w : World) (h : PAt w p P) (hm : mayB p.m = true) (hw : At w wa word) (hwl : word.length ≤ maxLen) :
    Calls Tryd.prog 33 #[ptval p P, .slice wa word.length wc] w fun e w' => GivesO w (estL p word) e w' := by
  have hsl : p.m.starts.length ≤ 4096 := by
    have h1 := mayB_size hm
    unfold sizeOk at h1
    have h2 := may_starts hm
    have := nodup_len 256 _ (inc_nodup h2.1) (fun x hx => by have := h2.2 x hx; omega)
    omega
  have B : Hid (Below w.heap.size w (w.alloc (.cells (ptcells p P) 44))) := (Below.refl _ _).alloc (Nat.le_refl _) _
  have H := Hid.of h
  have HM := Hid.of hm
  have HW := Hid.of hw
  have HWL := Hid.of hwl
  have HSL := Hid.of hsl
  clear h hm hw hwl hsl
  go_enter Tryd.func33, Tryd.ntmps33
  go_wp2_with fail
  have KEY := Hid.of (rFrom_any p P P.l.a1 wa P.l.c1 wc p.m.starts word _ (H.out.below B.out (Nat.le_refl _)) HM.out (H.out.m.s.below B.out (Nat.le_refl _)) HSL.out H.out.m.s3 (HW.out.below B.out (Nat.le_refl _)) HWL.out)
  refine KEY.out.mono ?_
  rintro e W1 ⟨v, rfl, ov, hb⟩
  have OV : Hid (Own W1 w.heap.size v (estL p word)) := Own.low ov B.out.size
  have B1 := Hid.of (B.out.trans (hb.mono B.out.size))
  clear ov hb KEY
  go_wp2_with fail
  go_ret
  exact ⟨v, rfl, OV.out, B1.out⟩

end Go.Proofs.YtmlkpdeidpcidaaDoor
namespace Go.Proofs.YtmlkpdeidpcidaaDoor
open Go.RowKit
set_option linter.unusedVariables false
set_option linter.unusedSectionVars false

/-! What is seen from a row is what is seen from one of it. -/
theorem vWide_one {p : Plant} (hm : mayB p.m = true) (S : List Int) (x : Int) : x ∈ wideL p.m.arrows p.seen S ↔ ∃ t ∈ S, x ∈ wideL p.m.arrows p.seen [t] := by
  rw [mem_wide (may_to hm), rch_one]
  refine exists_congr fun t => and_congr_right fun _ => ?_
  rw [mem_wide (may_to hm)]
theorem vSee_one {p : Plant} (hm : mayB p.m = true) (S : List Int) (e x : Int) : x ∈ seeL p S e ↔ ∃ t ∈ S, x ∈ seeL p [t] e := by
  unfold seeL
  rw [vWide_one hm]
  constructor
  · rintro ⟨y, hy, hx⟩
    obtain ⟨a, h1, h2, h3, h4⟩ := (mem_stepL _ _ _ _).1 hy
    exact ⟨a.f, h3, (vWide_one hm _ _).2 ⟨y, (mem_stepL _ _ _ _).2 ⟨a, h1, h2, by simp, h4⟩, hx⟩⟩
  · rintro ⟨t, ht, hx⟩
    obtain ⟨y, hy, hx⟩ := (vWide_one hm _ _).1 hx
    obtain ⟨a, h1, h2, h3, h4⟩ := (mem_stepL _ _ _ _).1 hy
    have h3 : a.f = t := by simpa using h3
    exact ⟨y, (mem_stepL _ _ _ _).2 ⟨a, h1, h2, by rw [h3]; exact ht, h4⟩, hx⟩
theorem vFold_one {p : Plant} (hm : mayB p.m = true) : ∀ (u S : List Int) (x : Int), x ∈ u.foldl (seeL p) S ↔ ∃ t ∈ S, x ∈ u.foldl (seeL p) [t]
  | [], S, x => by simp
  | e :: r, S, x => by
    rw [List.foldl_cons, vFold_one hm r]
    constructor
    · rintro ⟨y, hy, hx⟩
      obtain ⟨t, ht, hyt⟩ := (vSee_one hm _ _ _).1 hy
      exact ⟨t, ht, by rw [List.foldl_cons, vFold_one hm r]; exact ⟨y, hyt, hx⟩⟩
    · rintro ⟨t, ht, hx⟩
      rw [List.foldl_cons, vFold_one hm r] at hx
      obtain ⟨y, hy, hx⟩ := hx
      exact ⟨y, (vSee_one hm _ _ _).2 ⟨t, ht, hy⟩, hx⟩
theorem vFold_sub {p : Plant} (hm : mayB p.m = true) (u : List Int) {S S' : List Int} (h : ∀ x ∈ S, x ∈ S') : ∀ x ∈ u.foldl (seeL p) S, x ∈ u.foldl (seeL p) S' := fun x hx => by
  obtain ⟨t, ht, h1⟩ := (vFold_one hm u S x).1 hx
  exact (vFold_one hm u S' x).2 ⟨t, h t ht, h1⟩
theorem leakB_iffV (secret row : List Int) : leakB secret row = true ↔ (∃ x, x ∈ row) ∧ ∀ x ∈ row, x ∈ secret := by
  unfold leakB
  rw [Bool.and_eq_true, decide_eq_true_eq, decide_eq_true_eq, List.length_eq_zero_iff, List.filter_eq_nil_iff]
  refine and_congr ?_ (forall_congr' fun x => imp_congr_right fun _ => ?_)
  · constructor
    · intro h; exact ⟨row[0], List.getElem_mem h⟩
    · rintro ⟨x, hx⟩; exact List.length_pos_of_mem hx
  · unfold hasB; simp

/-! Rows that can be kept. -/
/-- Whatever can't be forbidden is done, nothing tells. -/
def GoodP (p : Plant) (free row : List Int) : Prop := ∀ u : List Int, (∀ e ∈ u, e ∈ p.seen ∧ e ∉ free) → leakB p.secret (u.foldl (seeL p) row) = false
theorem good_now {p : Plant} {free row : List Int} (h : GoodP p free row) : leakB p.secret row = false := h [] (by simp)
theorem good_see {p : Plant} {free row : List Int} (h : GoodP p free row) {e : Int} (he : e ∈ p.seen) (hf : e ∉ free) : GoodP p free (seeL p row e) := fun u hu =>
  h (e :: u) (fun c hc => by
    rcases List.mem_cons.1 hc with rfl | hc
    · exact ⟨he, hf⟩
    · exact hu c hc)
/-- What holds of rows that do not tell, and goes on so. -/
theorem good_of {p : Plant} {free : List Int} (P : List Int → Prop) (h1 : ∀ r, P r → leakB p.secret r = false) (h2 : ∀ r e, P r → e ∈ p.seen → e ∉ free → P (seeL p r e)) {row : List Int} (h : P row) : GoodP p free row := by
  intro u
  induction u generalizing row with
  | nil => intro _; exact h1 _ h
  | cons e r ih =>
    intro hu
    have := hu e (by simp)
    exact ih (h2 _ _ h this.1 this.2) (fun c hc => hu c (by simp [hc]))
/-- A row made of rows that can be kept can be kept. -/
theorem good_join {p : Plant} (hm : mayB p.m = true) {free row : List Int} (h : ∀ x ∈ row, ∃ r, x ∈ r ∧ (∀ y ∈ r, y ∈ row) ∧ GoodP p free r) : GoodP p free row := by
  intro u hu
  cases hl : leakB p.secret (u.foldl (seeL p) row) with
  | false => rfl
  | true =>
    obtain ⟨⟨y, hy⟩, hs⟩ := (leakB_iffV _ _).1 hl
    obtain ⟨t, ht, hyt⟩ := (vFold_one hm u row y).1 hy
    obtain ⟨r, h1, h2, h3⟩ := h t ht
    have hn := h3 u hu
    have : leakB p.secret (u.foldl (seeL p) r) = true := (leakB_iffV _ _).2 ⟨⟨y, (vFold_one hm u r y).2 ⟨t, h1, hyt⟩⟩, fun x hx => hs x (vFold_sub hm u h2 x hx)⟩
    rw [hn] at this; cases this
theorem good_same {p : Plant} (hm : mayB p.m = true) {free r r' : List Int} (h : ∀ x, x ∈ r ↔ x ∈ r') (hg : GoodP p free r) : GoodP p free r' :=
  good_join hm fun x hx => ⟨r, (h x).2 hx, fun y hy => (h y).1 hy, hg⟩
/-- A way to tell which rows can be kept. -/
def TellsG (p : Plant) (free : List Int) (g : List Int → Bool) : Prop := ∀ r : List Int, Inc r → (∀ x ∈ r, 0 ≤ x ∧ x < p.m.st) → (g r = true ↔ GoodP p free r)

/-! What an event may lead to. -/
/-- All parts of a list, in its order. -/
def subL : List Int → List (List Int)
  | [] => [[]]
  | x :: r => subL r ++ (subL r).map (x :: ·)
theorem mem_subL : ∀ (l to : List Int), l ∈ subL to ↔ l.Sublist to
  | l, [] => by simp [subL]
  | l, x :: r => by
    rw [subL, List.mem_append, mem_subL l r, List.mem_map]
    constructor
    · rintro (h | ⟨q, hq, rfl⟩)
      · exact h.cons x
      · exact ((mem_subL q r).1 hq).cons_cons x
    · intro h
      cases h with
      | cons _ h => exact .inl h
      | cons_cons _ h => exact .inr ⟨_, (mem_subL _ r).2 h, rfl⟩
/-- The greatest part that can be kept. -/
def mostL (p : Plant) (g : List Int → Bool) (to : List Int) : List Int := to.filter fun x => (subL to).any fun l => hasB l x && g (wideL p.m.arrows p.seen l)
theorem mem_most (p : Plant) (g : List Int → Bool) (to : List Int) (x : Int) : x ∈ mostL p g to ↔ ∃ l, l.Sublist to ∧ x ∈ l ∧ g (wideL p.m.arrows p.seen l) = true := by
  unfold mostL
  rw [List.mem_filter, List.any_eq_true]
  constructor
  · rintro ⟨-, l, hl, h⟩
    rw [Bool.and_eq_true, hasB_iff] at h
    exact ⟨l, (mem_subL _ _).1 hl, h.1, h.2⟩
  · rintro ⟨l, hl, h1, h2⟩
    exact ⟨hl.subset h1, l, (mem_subL _ _).2 hl, by rw [Bool.and_eq_true, hasB_iff]; exact ⟨h1, h2⟩⟩
theorem most_good {p : Plant} (hm : mayB p.m = true) {free : List Int} {g : List Int → Bool} (hg : TellsG p free g) {to : List Int} (hb : ∀ x ∈ to, 0 ≤ x ∧ x < p.m.st) : GoodP p free (wideL p.m.arrows p.seen (mostL p g to)) := by
  refine good_join hm fun y hy => ?_
  obtain ⟨t, ht, hyt⟩ := (vWide_one hm _ _).1 hy
  obtain ⟨l, hl, h1, h2⟩ := (mem_most _ _ _ _).1 ht
  refine ⟨wideL p.m.arrows p.seen l, (vWide_one hm _ _).2 ⟨t, h1, hyt⟩, fun z hz => ?_, (hg _ (wide_in hm (fun x hx => hb x (hl.subset hx))).1 (wide_in hm (fun x hx => hb x (hl.subset hx))).2).1 h2⟩
  obtain ⟨q, hq, hz⟩ := (vWide_one hm _ _).1 hz
  exact (vWide_one hm _ _).2 ⟨q, (mem_most _ _ _ _).2 ⟨l, hl, hq, h2⟩, hz⟩
theorem most_has {p : Plant} (hm : mayB p.m = true) {free : List Int} {g : List Int → Bool} (hg : TellsG p free g) {to X : List Int} (hb : ∀ x ∈ to, 0 ≤ x ∧ x < p.m.st) (hX : ∀ x ∈ X, x ∈ to) (hgo : GoodP p free (wideL p.m.arrows p.seen X)) : ∀ x ∈ X, x ∈ mostL p g to := fun x hx => by
  have hmem : ∀ y, y ∈ to.filter (fun y => hasB X y) ↔ y ∈ X := fun y => by
    rw [List.mem_filter, hasB_iff]
    exact ⟨fun h => h.2, fun h => ⟨hX y h, h⟩⟩
  have hb2 : ∀ y ∈ to.filter (fun y => hasB X y), 0 ≤ y ∧ y < p.m.st := fun y hy => hb y (List.mem_filter.1 hy).1
  refine (mem_most _ _ _ _).2 ⟨to.filter (fun y => hasB X y), List.filter_sublist, (hmem x).2 hx, (hg _ (wide_in hm hb2).1 (wide_in hm hb2).2).2 (good_same hm (fun y => ?_) hgo)⟩
  rw [vWide_one hm X, vWide_one hm (to.filter _)]
  exact exists_congr fun t => and_congr_left fun _ => (hmem t).symm
theorem most_sub (p : Plant) (g : List Int → Bool) (to : List Int) : ∀ x ∈ mostL p g to, x ∈ to := fun x hx => (List.mem_filter.1 hx).1
theorem inc_most (p : Plant) (g : List Int → Bool) {to : List Int} (h : Inc to) : Inc (mostL p g to) := List.Pairwise.filter _ h

/-- Where an event leads to from a node, as far as it is let be. -/
def toV (p : Plant) (g : List Int → Bool) (free node : List Int) (e : Int) : List Int := if hasB free e = true then mostL p g (stepL p.m.arrows node e) else stepL p.m.arrows node e
/-- The states of a node from which it is let be. -/
def stayV (p : Plant) (g : List Int → Bool) (free node : List Int) (e : Int) : List Int := node.filter fun s => decide ((stepL p.m.arrows [s] e).length = 1) && hasB (toV p g free node e) ((stepL p.m.arrows [s] e)[0]?.getD 0)
theorem inc_toV (p : Plant) (g : List Int → Bool) (free node : List Int) (e : Int) : Inc (toV p g free node e) := by
  unfold toV; split
  · exact inc_most _ _ (inc_srt _)
  · exact inc_srt _
theorem toV_sub (p : Plant) (g : List Int → Bool) (free node : List Int) (e : Int) : ∀ x ∈ toV p g free node e, x ∈ stepL p.m.arrows node e := fun x hx => by
  unfold toV at hx
  split at hx
  · exact most_sub _ _ _ _ hx
  · exact hx
theorem toV_bd {p : Plant} (hm : mayB p.m = true) (g : List Int → Bool) (free node : List Int) (e : Int) : ∀ x ∈ toV p g free node e, 0 ≤ x ∧ x < p.m.st := fun x hx => step_bd hm x (toV_sub _ _ _ _ _ x hx)
theorem mem_stay (p : Plant) (g : List Int → Bool) (free node : List Int) (e s : Int) : s ∈ stayV p g free node e ↔ s ∈ node ∧ ∃ t, stepL p.m.arrows [s] e = [t] ∧ t ∈ toV p g free node e := by
  unfold stayV
  rw [List.mem_filter, Bool.and_eq_true, decide_eq_true_eq, hasB_iff]
  refine and_congr_right fun _ => ?_
  constructor
  · rintro ⟨h1, h2⟩
    match hl : stepL p.m.arrows [s] e, h1 with
    | [t], _ => exact ⟨t, rfl, by rw [hl] at h2; simpa using h2⟩
  · rintro ⟨t, h1, h2⟩
    rw [h1]; exact ⟨rfl, by simpa using h2⟩
/-- What is come to from a row that can be kept, as far as it is let be, can be kept. -/
theorem good_toV {p : Plant} (hm : mayB p.m = true) {free : List Int} {g : List Int → Bool} (hg : TellsG p free g) {node : List Int} (h : GoodP p free node) {e : Int} (he : e ∈ p.seen) : GoodP p free (wideL p.m.arrows p.seen (toV p g free node e)) := by
  unfold toV
  split
  · exact most_good hm hg (step_bd hm)
  · rename_i hf
    exact good_see h he (fun hc => hf ((hasB_iff _ _).2 hc))

/-! The veil. -/
structure Mv where
  nd : Nat
  ev : Int
  st : List Int
  to : Nat
/-- A row's place among some, or how many there are. -/
def posN : List (List Int) → List Int → Nat
  | [], _ => 0
  | p :: r, s => if p = s then 0 else posN r s + 1
theorem posN_le : ∀ (l : List (List Int)) (s : List Int), posN l s ≤ l.length
  | [], _ => Nat.le_refl _
  | p :: r, s => by
    unfold posN; split
    · simp
    · have := posN_le r s; simp; omega
theorem posN_at : ∀ {l : List (List Int)} {s : List Int}, posN l s < l.length → l[posN l s]? = some s
  | [], _, h => by simp [posN] at h
  | p :: r, s, h => by
    unfold posN at h ⊢
    by_cases e : p = s
    · rw [if_pos e]; simp [e]
    · rw [if_neg e] at h ⊢
      have := posN_at (l := r) (s := s) (by simpa using h)
      simpa using this
theorem posN_new : ∀ {l : List (List Int)} {s : List Int}, posN l s = l.length → s ∉ l
  | [], _, _ => by simp
  | p :: r, s, h => by
    unfold posN at h
    by_cases e : p = s
    · rw [if_pos e] at h; simp at h
    · rw [if_neg e] at h
      intro hm
      rcases List.mem_cons.1 hm with h1 | h1
      · exact e h1.symm
      · exact posN_new (l := r) (s := s) (by simpa using h) h1
abbrev VS : Type := List (List Int) × List Mv
def veStep (p : Plant) (g : List Int → Bool) (free : List Int) (n : Nat) (node : List Int) (s : VS) (e : Int) : VS :=
  if (stayV p g free node e).length = 0 then s
  else (if posN s.1 (wideL p.m.arrows p.seen (toV p g free node e)) = s.1.length then s.1 ++ [wideL p.m.arrows p.seen (toV p g free node e)] else s.1, s.2 ++ [⟨n, e, stayV p g free node e, posN s.1 (wideL p.m.arrows p.seen (toV p g free node e))⟩])
def veRow (p : Plant) (g : List Int → Bool) (free : List Int) (n : Nat) (node : List Int) (s : VS) (k : Nat) : VS := (p.seen.take k).foldl (veStep p g free n node) s
theorem veRow_succ {p : Plant} {g : List Int → Bool} {free : List Int} {n : Nat} {node : List Int} {s : VS} {k : Nat} {e : Int} (h : p.seen[k]? = some e) : veRow p g free n node s (k + 1) = veStep p g free n node (veRow p g free n node s k) e := by
  unfold veRow
  rw [List.take_add_one, h, Option.toList_some, List.foldl_append]; rfl
def veGo (p : Plant) (g : List Int → Bool) (free : List Int) : Nat → Nat → VS → VS
  | 0, _, s => s
  | f + 1, n, s => match s.1[n]? with
    | none => s
    | some node => veGo p g free f (n + 1) (veRow p g free n node s p.seen.length)
def makeV (p : Plant) (g : List Int → Bool) (free : List Int) : Option VS :=
  if decide ((estL p []).length = 0) || !g (estL p []) then none else some (veGo p g free 65 0 ([estL p []], []))

/-- What holds when the nodes below n, and of n the first k events, have been gone through. -/
structure VI (p : Plant) (g : List Int → Bool) (free : List Int) (n k : Nat) (s : VS) : Prop where
  nd : s.1.Nodup
  row : ∀ r ∈ s.1, Inc r ∧ (∀ x ∈ r, 0 ≤ x ∧ x < p.m.st) ∧ (∃ x, x ∈ r) ∧ (∀ a ∈ p.m.arrows, hasB p.seen a.e = false → a.f ∈ r → a.t ∈ r) ∧ GoodP p free r
  hd : s.1[0]? = some (estL p [])
  mv : ∀ m ∈ s.2, ∃ node, s.1[m.nd]? = some node ∧ m.ev ∈ p.seen ∧ m.st = stayV p g free node m.ev ∧ (∃ x, x ∈ m.st) ∧ s.1[m.to]? = some (wideL p.m.arrows p.seen (toV p g free node m.ev))
  all : ∀ (j i : Nat) (node : List Int) (e : Int), (j < n ∨ (j = n ∧ i < k)) → s.1[j]? = some node → p.seen[i]? = some e → (∃ x, x ∈ stayV p g free node e) → ∃ m ∈ s.2, m.nd = j ∧ m.ev = e
theorem vi_bound {p : Plant} (z : p.m.st ≤ 6) {g : List Int → Bool} {free : List Int} {n k : Nat} {s : VS} (h : VI p g free n k s) : s.1.length ≤ 64 := by
  have := nodup_sub (m := subs 6) h.nd (fun r hr => mem_subs 6 _ (h.row r hr).1 (fun y hy => by have := (h.row r hr).2.1 y hy; omega))
  rwa [subs_len] at this
theorem vi_start {p : Plant} (hm : mayB p.m = true) {g : List Int → Bool} {free : List Int} (hg : TellsG p free g) (h0 : ∃ x, x ∈ estL p []) (h1 : g (estL p []) = true) : VI p g free 0 0 ([estL p []], []) := by
  have hi := est_in hm []
  refine ⟨by simp, fun r hr => ?_, rfl, by simp, fun j i node e h => by omega⟩
  have : r = estL p [] := by simpa using hr
  subst this
  exact ⟨hi.1, hi.2, h0, fun a ha hu hf => wide_cl (may_to hm) ha hu hf, (hg _ hi.1 hi.2).1 h1⟩
theorem vi_step {p : Plant} (hm : mayB p.m = true) {g : List Int → Bool} {free : List Int} (hg : TellsG p free g) {n k : Nat} {s : VS} (h : VI p g free n k s) {node : List Int} (hn : s.1[n]? = some node) {e : Int} (he : p.seen[k]? = some e) : VI p g free n (k + 1) (veStep p g free n node s e) := by
  have hnode := h.row node (List.mem_of_getElem? hn)
  have hes : e ∈ p.seen := List.mem_of_getElem? he
  have hold : ∀ (j i : Nat), (j < n ∨ (j = n ∧ i < k + 1)) → (j < n ∨ (j = n ∧ i < k)) ∨ (j = n ∧ i = k) := by omega
  unfold veStep
  by_cases hs : (stayV p g free node e).length = 0
  · rw [if_pos hs]
    refine ⟨h.nd, h.row, h.hd, h.mv, fun j i nd' e' hd hj hi hx => ?_⟩
    rcases hold j i hd with h1 | ⟨rfl, rfl⟩
    · exact h.all j i nd' e' h1 hj hi hx
    · rw [hn] at hj
      rw [he] at hi
      cases hj; cases hi
      obtain ⟨x, hx⟩ := hx
      have := List.length_pos_of_mem hx
      omega
  · rw [if_neg hs]
    obtain ⟨x0, hx0⟩ : ∃ x, x ∈ stayV p g free node e := ⟨_, List.getElem_mem (show 0 < _ by omega)⟩
    obtain ⟨-, t0, -, ht0⟩ := (mem_stay _ _ _ _ _ _).1 hx0
    have hbd := toV_bd hm g free node e
    have hW := wide_in hm hbd
    have hWn : ∃ x, x ∈ wideL p.m.arrows p.seen (toV p g free node e) := ⟨t0, wide_sub (may_to hm) _ ht0⟩
    have hWg := good_toV hm hg hnode.2.2.2.2 hes
    generalize hWd : wideL p.m.arrows p.seen (toV p g free node e) = W at *
    by_cases hp : posN s.1 W = s.1.length
    · rw [if_pos hp]
      have up : ∀ {j : Nat} {q : List Int}, s.1[j]? = some q → (s.1 ++ [W])[j]? = some q := fun {j q} hq => by
        rw [List.getElem?_append_left (List.getElem?_eq_some_iff.1 hq).1]; exact hq
      refine ⟨?_, fun r hr => ?_, up h.hd, fun m hmm => ?_, fun j i nd' e' hd hj hi hx => ?_⟩
      · rw [List.nodup_append]
        refine ⟨h.nd, by simp, fun a ha b hb e1 => ?_⟩
        have : b = W := by simpa using hb
        subst this; subst e1
        exact posN_new hp ha
      · rcases List.mem_append.1 hr with hr | hr
        · exact h.row r hr
        · have : r = W := by simpa using hr
          subst this
          exact ⟨hW.1, hW.2, hWn, fun a ha hu hf => by rw [← hWd] at hf ⊢; exact wide_cl (may_to hm) ha hu hf, hWg⟩
      · rcases List.mem_append.1 hmm with hmm | hmm
        · obtain ⟨nd', q1, q2, q3, q4, q5⟩ := h.mv m hmm
          exact ⟨nd', up q1, q2, q3, q4, up q5⟩
        · have : m = ⟨n, e, stayV p g free node e, posN s.1 W⟩ := by simpa using hmm
          subst this
          refine ⟨node, up hn, hes, rfl, ⟨x0, hx0⟩, ?_⟩
          show (s.1 ++ [W])[posN s.1 W]? = _
          rw [hp, List.getElem?_append_right (Nat.le_refl _), hWd]; simp
      · by_cases hjl : j < s.1.length
        · rw [List.getElem?_append_left hjl] at hj
          rcases hold j i hd with h1 | ⟨rfl, rfl⟩
          · obtain ⟨m, q1, q2⟩ := h.all j i nd' e' h1 hj hi hx
            exact ⟨m, List.mem_append_left _ q1, q2⟩
          · rw [he] at hi
            cases hi
            exact ⟨⟨j, e, stayV p g free node e, posN s.1 W⟩, List.mem_append_right _ (by simp), rfl, rfl⟩
        · have := (List.getElem?_eq_some_iff.1 hn).1
          omega
    · rw [if_neg hp]
      have hlt : posN s.1 W < s.1.length := by have := posN_le s.1 W; omega
      refine ⟨h.nd, h.row, h.hd, fun m hmm => ?_, fun j i nd' e' hd hj hi hx => ?_⟩
      · rcases List.mem_append.1 hmm with hmm | hmm
        · exact h.mv m hmm
        · have : m = ⟨n, e, stayV p g free node e, posN s.1 W⟩ := by simpa using hmm
          subst this
          refine ⟨node, hn, hes, rfl, ⟨x0, hx0⟩, ?_⟩
          show s.1[posN s.1 W]? = _
          rw [posN_at hlt, hWd]
      · rcases hold j i hd with h1 | ⟨rfl, rfl⟩
        · obtain ⟨m, q1, q2⟩ := h.all j i nd' e' h1 hj hi hx
          exact ⟨m, List.mem_append_left _ q1, q2⟩
        · rw [he] at hi
          cases hi
          exact ⟨⟨j, e, stayV p g free node e, posN s.1 W⟩, List.mem_append_right _ (by simp), rfl, rfl⟩
theorem veStep_pre (p : Plant) (g : List Int → Bool) (free : List Int) (n : Nat) (node : List Int) (s : VS) (e : Int) : ∃ t, (veStep p g free n node s e).1 = s.1 ++ t := by
  unfold veStep
  split
  · exact ⟨[], by simp⟩
  · dsimp only
    split
    · exact ⟨_, rfl⟩
    · exact ⟨[], by simp⟩
theorem vi_row {p : Plant} (hm : mayB p.m = true) {g : List Int → Bool} {free : List Int} (hg : TellsG p free g) {n : Nat} {s : VS} (h : VI p g free n 0 s) {node : List Int} (hn : s.1[n]? = some node) : ∀ k, k ≤ p.seen.length → VI p g free n k (veRow p g free n node s k) ∧ (veRow p g free n node s k).1[n]? = some node
  | 0, _ => ⟨h, hn⟩
  | k + 1, hk => by
    have ih := vi_row hm hg h hn k (by omega)
    obtain ⟨e, he⟩ : ∃ e, p.seen[k]? = some e := ⟨_, List.getElem?_eq_getElem (by omega)⟩
    rw [veRow_succ he]
    refine ⟨vi_step hm hg ih.1 ih.2 he, ?_⟩
    obtain ⟨t, ht⟩ := veStep_pre p g free n node (veRow p g free n node s k) e
    rw [ht, List.getElem?_append_left (List.getElem?_eq_some_iff.1 ih.2).1]
    exact ih.2
theorem vi_next {p : Plant} (hm : mayB p.m = true) {g : List Int → Bool} {free : List Int} (hg : TellsG p free g) {n : Nat} {s : VS} (h : VI p g free n 0 s) {node : List Int} (hn : s.1[n]? = some node) : VI p g free (n + 1) 0 (veRow p g free n node s p.seen.length) := by
  have := (vi_row hm hg h hn p.seen.length (Nat.le_refl _)).1
  refine ⟨this.nd, this.row, this.hd, this.mv, fun j i nd' e' hd hj hi hx => this.all j i nd' e' ?_ hj hi hx⟩
  have := (List.getElem?_eq_some_iff.1 hi).1
  omega
/-- Which way tells it does not matter. -/
theorem most_eq {p : Plant} (hm : mayB p.m = true) {g g' : List Int → Bool} {free : List Int} (hg : TellsG p free g) (hg' : TellsG p free g') {to : List Int} (hb : ∀ x ∈ to, 0 ≤ x ∧ x < p.m.st) : mostL p g to = mostL p g' to := by
  unfold mostL
  refine List.filter_congr fun x hx => ?_
  rw [Bool.eq_iff_iff, List.any_eq_true, List.any_eq_true]
  refine exists_congr fun l => and_congr_right fun hl => ?_
  have hw := wide_in hm (fun x hx => hb x (((mem_subL _ _).1 hl).subset hx))
  rw [Bool.and_eq_true, Bool.and_eq_true, hg _ hw.1 hw.2, hg' _ hw.1 hw.2]
theorem toV_eq {p : Plant} (hm : mayB p.m = true) {g g' : List Int → Bool} {free : List Int} (hg : TellsG p free g) (hg' : TellsG p free g') : toV p g free = toV p g' free := by
  funext node e
  unfold toV
  rw [most_eq hm hg hg' (step_bd hm)]
theorem makeV_eq {p : Plant} (hm : mayB p.m = true) {g g' : List Int → Bool} {free : List Int} (hg : TellsG p free g) (hg' : TellsG p free g') : makeV p g free = makeV p g' free := by
  have h1 : toV p g free = toV p g' free := toV_eq hm hg hg'
  have h2 : stayV p g free = stayV p g' free := by funext node e; unfold stayV; rw [h1]
  have h3 : veStep p g free = veStep p g' free := by funext n node s e; unfold veStep; rw [h1, h2]
  have h4 : veRow p g free = veRow p g' free := by funext n node s k; unfold veRow; rw [h3]
  have h5 : ∀ f n s, veGo p g free f n s = veGo p g' free f n s := by
    intro f
    induction f with
    | zero => intro n s; rfl
    | succ f ih =>
      intro n s
      rw [veGo, veGo]
      cases s.1[n]? with
      | none => rfl
      | some node => show veGo p g free f (n + 1) _ = veGo p g' free f (n + 1) _; rw [ih, h4]
  have hi := est_in hm []
  have h6 : g (estL p []) = g' (estL p []) := by rw [Bool.eq_iff_iff, hg _ hi.1 hi.2, hg' _ hi.1 hi.2]
  unfold makeV
  rw [h6, h5]

end Go.Proofs.YtmlkpdeidpcidaaDoor
namespace Go.Proofs.YtmlkpdeidpcidaaDoor
open Go.RowKit
set_option linter.unusedVariables false

theorem one_of {l : List Int} (h : l.length = 1) : l = [l[0]?.getD 0] := by
  match l, h with
  | [t], _ => rfl
end Go.Proofs.YtmlkpdeidpcidaaDoor
