/-
  The walk of text.Parse.
  What text.Parse leaves.
-/
import Derived.Tactics
import Derived.Tactics2
import Derived.Defers
import Derived.Recover
import Derived.Laws.Pointers
import Derived.Test.YtbgiliophmofgaaH13
import Derived.Test.YtbgiliophmofgaaH11
import Derived.Test.YtbgiliophmofgaaH08
namespace Go.Proofs.Ytbgiliophmofgaa
open Go.RowKit
set_option linter.unusedVariables false

theorem assert_fault (v : Value) (w : World) : (Instr.typeAssert (.iface 31 v) 20 31 false).run Try.prog w = .ok v w := by kernel_rfl
set_option maxRecDepth 100000 in
set_option maxHeartbeats 4000000 in
theorem catch_panic (fb : Nat) (x y c p : Int) (w : World) (h0 : w.cell? ⟨fb, 0, none⟩ = some (.int .i64 x)) (h1 : w.cell? ⟨fb, 1, none⟩ = some (.int .i64 y)) (hz : ∀ j, w.frozen? ⟨fb, j, none⟩ = false) :
    CallsD Try.prog 17 #[.pointer (some ⟨fb, 0, none⟩)] (.panicking [{ v := .iface 31 (.agg #[.int .i64 c, .int .i64 p]), recovered := false }]) w fun e u' w' =>
      e = .returned (.tuple #[]) ∧ u' = .panicking [{ v := .iface 31 (.agg #[.int .i64 c, .int .i64 p]), recovered := true }] ∧ w' = (w.setCell ⟨fb, 0, none⟩ (.int .i64 c)).setCell ⟨fb, 1, none⟩ (.int .i64 p) := by
  refine callsD_of_wpS Try.func17 rfl fun c₀ cs hu => ?_
  apply wpS_seq
  apply wpS_region
  simp [wpOpsS, go_sem, recoverD, hu, Try.ntmps17, Exit.thenS]
  apply wpS_seq
  apply wpS_region
  simp [wpOpsS, go_sem, Exit.thenS]
  refine wpS_cond (t := true) (by simp [Act.eval, Array.replicate]) ?_
  simp only [if_true]
  apply wpS_region
  simp [wpOpsS, go_sem, assert_fault, h0, h1, hz, bodyPostS, results, Try.results17]

set_option maxRecDepth 100000 in
set_option maxHeartbeats 4000000 in
theorem catch_idle (fb : Nat) (w : World) :
    CallsD Try.prog 17 #[.pointer (some ⟨fb, 0, none⟩)] .returning w fun e u' w' => e = .returned (.tuple #[]) ∧ u' = .returning ∧ w' = w := by
  refine callsD_of_wpS Try.func17 rfl fun c₀ cs hu => ?_
  apply wpS_seq
  apply wpS_region
  simp [wpOpsS, go_sem, recoverD, hu, Try.ntmps17, Exit.thenS]
  apply wpS_seq
  apply wpS_region
  simp [wpOpsS, go_sem, Exit.thenS]
  refine wpS_cond (t := false) (by simp [Act.eval, Array.replicate]) ?_
  simp only [Bool.false_eq_true, if_false]
  refine wpS_of_wp (wp_skip ?_)
  cases c₀
  simp_all [bodyPostS, results, Try.results17]

theorem rdPart_mem {u : Str} {least : Nat} {l ns r : List Tok} (h : rdPart u least l = .ok (ns, r)) : (∀ t ∈ ns, t ∈ l) ∧ ∀ t ∈ r, t ∈ l := by
  unfold rdPart at h
  cases l with
  | nil => cases h
  | cons t q =>
    dsimp only at h
    by_cases ht : t.text = u
    · rw [if_pos ht] at h
      unfold rdNames at h
      by_cases hc : (nameW q).length < least
      · rw [if_pos hc] at h; cases h
      · rw [if_neg hc] at h
        unfold rdEnd at h
        cases hz : restW q with
        | nil => rw [hz] at h; cases h
        | cons s z =>
          rw [hz] at h
          dsimp only at h
          have hq : nameW q ++ s :: z = q := by rw [← hz]; exact nameW_rest q
          by_cases hs : s.text = [59]
          · rw [if_pos hs] at h
            cases h
            refine ⟨fun t ht => ?_, fun t ht => ?_⟩
            · rw [← hq]; simp [ht]
            · rw [← hq]; simp [ht]
          · rw [if_neg hs] at h; cases h
    · rw [if_neg ht] at h; cases h
theorem rdParts_mem : ∀ (n k : Nat) (l : List Tok) (P : List (List Tok)) (r : List Tok), rdParts k n l = .ok (P, r) → ∀ ns ∈ P, ∀ t ∈ ns, t ∈ l
  | 0, k, l, P, r, h => by
    have h : Except.ok ([], l) = Except.ok (P, r) := h
    cases h
    intro ns hns; cases hns
  | n + 1, k, l, P, r, h => by
    rw [rdParts] at h
    cases hx : rdPart (partsW[k]?.getD []) (if k = 0 then 1 else 0) l with
    | error e => rw [hx] at h; cases h
    | ok y =>
      obtain ⟨ns, r1⟩ := y
      rw [hx] at h
      dsimp only at h
      obtain ⟨m1, m2⟩ := rdPart_mem hx
      cases hz : rdParts (k + 1) n r1 with
      | error e => rw [hz] at h; cases h
      | ok y2 =>
        obtain ⟨P2, r2⟩ := y2
        rw [hz] at h
        cases h
        intro ms hms t ht
        rcases List.mem_cons.1 hms with rfl | hms
        · exact m1 t ht
        · exact m2 t (rdParts_mem n (k + 1) r1 P2 _ hz ms hms t ht)
theorem rdAll_mem {l : List Tok} {P : List (List Tok)} {ts : List Thr} (h : rdAll l = .ok (P, ts)) : ∀ ns ∈ P, ∀ t ∈ ns, t ∈ l := by
  unfold rdAll at h
  cases hx : rdParts 0 8 l with
  | error e => rw [hx] at h; cases h
  | ok y =>
    obtain ⟨P1, r⟩ := y
    rw [hx] at h
    dsimp only at h
    have : P = P1 := by
      unfold rdLast at h
      split at h
      · cases h
      · cases h; rfl
      · cases h
    subst this
    exact rdParts_mem 8 0 l P r hx
theorem tk_bound {t : Tok} (h : TkOk t) : t.text.length ≤ 4000 := by
  rcases h with ⟨-, c, w, ht, -, -, hl⟩ | ⟨-, ht⟩
  · have ht : t.text = c :: w := ht
    rw [ht, List.length_cons]; omega
  · have ht : t.text = [59] ∨ t.text = [44] := ht
    rcases ht with ht | ht <;> (rw [ht]; simp)
theorem lf_own {W W' : World} {B c : Nat} {a : Option Addr} {l : List Tok} (h : OwnTk W B (.slice a l.length c) l) (hc : l.length ≤ c) (hm : c ≤ maxLen) (hb : Below W.heap.size W W') : LfAt W' W.heap.size a l c := by
  obtain ⟨a', c', hv, h2⟩ := OwnTk.tkAt h
  cases hv
  refine ⟨hc, hm, h2.imp id ?_⟩
  rintro ⟨g, o, h3, h4, h5⟩
  refine ⟨g, o, h3, h4, fun j t hj => ?_⟩
  obtain ⟨x, y, z⟩ := h5 j t hj
  exact ⟨(hb.cell (p := ⟨g, _, none⟩) h4).trans x, (hb.cell (p := ⟨g, _, none⟩) h4).trans y, (hb.cell (p := ⟨g, _, none⟩) h4).trans z⟩
set_option maxRecDepth 100000 in
set_option maxHeartbeats 8000000 in
theorem pParse_any (s : Str) (w : World) : Calls Try.prog 7 #[strV s] w fun e w' => ParPost w s e w' := by
  have hmf : ∀ (fn : Fn) (first cap : Array Value) (w : World), (Instr.makeFunc fn first cap).run Try.prog w = .ok (.func fn first cap) w := fun _ _ _ _ => rfl
  have B : Hid (Below w.heap.size w ((w.alloc (.cells #[.slice none 0 0, .slice none 0 0, .int .i64 0, .int .i64 0, .slice none 0 0, .slice none 0 0, .slice none 0 0, .slice none 0 0, .slice none 0 0, .slice none 0 0, .slice none 0 0] 28)).alloc (.cells #[.int .i64 0, .int .i64 0] 31))) := ((Below.refl _ _).alloc (Nat.le_refl _) _).alloc (by simp) _
  have K2 : Hid (Blk ((w.alloc (.cells #[.slice none 0 0, .slice none 0 0, .int .i64 0, .int .i64 0, .slice none 0 0, .slice none 0 0, .slice none 0 0, .slice none 0 0, .slice none 0 0, .slice none 0 0, .slice none 0 0] 28)).alloc (.cells #[.int .i64 0, .int .i64 0] 31)) w.heap.size 28 #[.slice none 0 0, .slice none 0 0, .int .i64 0, .int .i64 0, .slice none 0 0, .slice none 0 0, .slice none 0 0, .slice none 0 0, .slice none 0 0, .slice none 0 0, .slice none 0 0]) := (Blk.new w _ _).alloc _
  have K3 : Hid (Blk ((w.alloc (.cells #[.slice none 0 0, .slice none 0 0, .int .i64 0, .int .i64 0, .slice none 0 0, .slice none 0 0, .slice none 0 0, .slice none 0 0, .slice none 0 0, .slice none 0 0, .slice none 0 0] 28)).alloc (.cells #[.int .i64 0, .int .i64 0] 31)) (w.heap.size + 1) 31 #[.int .i64 0, .int .i64 0]) := by
    have := Blk.new (w.alloc (.cells #[.slice none 0 0, .slice none 0 0, .int .i64 0, .int .i64 0, .slice none 0 0, .slice none 0 0, .slice none 0 0, .slice none 0 0, .slice none 0 0, .slice none 0 0, .slice none 0 0] 28)) 31 #[.int .i64 0, .int .i64 0]
    rwa [World.size_alloc] at this
  have hsz : (⟨s.toArray⟩ : ByteArray).size = s.length := by simp [ByteArray.size]
  go_enter_defers Try.func7, Try.ntmps7
  by_cases hlong : 4000 < s.length
  · have HP := Hid.of (parse_long hlong)
    have hlI : (4000 : Int) < (s.length : Int) := by omega
    have hdl : decide ((4000 : Int) < (s.length : Int)) = true := decide_eq_true hlI
    clear hlong
    go_wp2_with fail
    revert B K2 K3
    generalize ((w.alloc (.cells #[.slice none 0 0, .slice none 0 0, .int .i64 0, .int .i64 0, .slice none 0 0, .slice none 0 0, .slice none 0 0, .slice none 0 0, .slice none 0 0, .slice none 0 0, .slice none 0 0] 28)).alloc (.cells #[.int .i64 0, .int .i64 0] 31)) = V0
    intro B K2 K3
    refine (giveUp_any 1 0 V0).mono ?_
    rintro e V1 ⟨rfl, rfl⟩
    have f0 := K3.out.cell 0 rfl
    have f1 := K3.out.cell 1 rfl
    have fz := K3.out.frozen
    have E3 : Hid (Blk ((V1.setCell ⟨w.heap.size + 1, 0, none⟩ (.int .i64 1)).setCell ⟨w.heap.size + 1, 1, none⟩ (.int .i64 0)) (w.heap.size + 1) 31 #[.int .i64 1, .int .i64 0]) := (K3.out.set 0 _).set 1 _
    have E2 : Hid (Blk ((V1.setCell ⟨w.heap.size + 1, 0, none⟩ (.int .i64 1)).setCell ⟨w.heap.size + 1, 1, none⟩ (.int .i64 0)) w.heap.size 28 #[.slice none 0 0, .slice none 0 0, .int .i64 0, .int .i64 0, .slice none 0 0, .slice none 0 0, .slice none 0 0, .slice none 0 0, .slice none 0 0, .slice none 0 0, .slice none 0 0]) := (K2.out.other (by omega) _).other (by omega) _
    have EB := Hid.of ((B.out.setCell (p := ⟨w.heap.size + 1, 0, none⟩) (show w.heap.size ≤ w.heap.size + 1 by omega) (.int .i64 1)).setCell (p := ⟨w.heap.size + 1, 1, none⟩) (show w.heap.size ≤ w.heap.size + 1 by omega) (.int .i64 0))
    have EP := Hid.of (par_err (pos := 0) HP.out EB.out)
    go_wp2_with fail
    refine leaves_cons (f := 17) (args := #[.pointer (some ⟨w.heap.size + 1, 0, none⟩)]) (by simp) (by simp [go_sem]) ?_
    refine (catch_panic (w.heap.size + 1) 0 0 1 0 V1 f0 f1 fz).mono ?_
    rintro e u' w'' ⟨rfl, rfl, rfl⟩
    exact ⟨_, results_pj (p := 2) (u := 3) rfl _ _ w.heap.size (w.heap.size + 1) _ _ _ _ _ _ _ _ _ _ _ _ _ _ _ _ _ _ _ _ _ _ _ _ _ _ _ _ _ _ _ rfl rfl E2.out E3.out, EP.out⟩
  · have HNL := Hid.of hlong
    have hdl : decide ((4000 : Int) < (s.length : Int)) = false := by simp; omega
    have hlI : (s.length : Int) ≤ 4000 := by omega
    clear hlong
    go_wp2_with fail
    revert B K2 K3
    generalize ((w.alloc (.cells #[.slice none 0 0, .slice none 0 0, .int .i64 0, .int .i64 0, .slice none 0 0, .slice none 0 0, .slice none 0 0, .slice none 0 0, .slice none 0 0, .slice none 0 0, .slice none 0 0] 28)).alloc (.cells #[.int .i64 0, .int .i64 0] 31)) = V0
    intro B K2 K3
    refine (tokens_any2 s (by have := HNL.out; omega) V0).mono ?_
    intro e V1 hq
    obtain ⟨T, HT⟩ : ∃ T, Hid (tokR (s.length + 1) 0 s = T) := ⟨_, rfl⟩
    rw [HT.out] at hq
    have hTl : T.1.length ≤ 4000 := by
      have := tok_len (s.length + 1) 0 s
      rw [HT.out] at this
      have := HNL.out
      omega
    have HTM : Hid (∀ t ∈ T.1, TkOk t) := by rw [← HT.out]; exact tokR_ok _ _ _
    obtain ⟨hb, hq⟩ := hq
    replace K2 := Hid.of (K2.out.below hb K2.out.lt)
    replace K3 := Hid.of (K3.out.below hb K3.out.lt)
    replace B := Hid.of (B.out.trans (hb.mono B.out.size))
    clear hb
    obtain ⟨tl, er, tp⟩ := T
    dsimp only at hTl HTM hq
    by_cases he : er = 0
    · subst he
      rw [if_pos rfl] at hq
      obtain ⟨lv, rfl, ho⟩ := hq
      have HO := Hid.of ho
      obtain ⟨la, lc, hlv, hlc, hlm, -⟩ := own_form2 ho
      subst hlv
      have HPJ := Hid.of (parse_prj HNL.out HT.out rfl)
      dsimp only at HPJ
      clear ho
      have hb : Below V1.heap.size V1 (V1.alloc (.cells #[.slice la tl.length lc, .int .i64 (s.length : Int)] 45)) := (Below.refl _ _).alloc (Nat.le_refl _) _
      have KR : Hid (RdAt (V1.alloc (.cells #[.slice la tl.length lc, .int .i64 (s.length : Int)] 45)) V1.heap.size la lc tl s.length) := ⟨Blk.new V1 _ _, lf_own HO.out hlc hlm hb⟩
      have HR3 : Hid (w.heap.size + 1 < V1.heap.size) := K3.out.lt
      replace K2 := Hid.of (K2.out.below hb K2.out.lt)
      replace K3 := Hid.of (K3.out.below hb K3.out.lt)
      replace B := Hid.of (B.out.trans (hb.mono B.out.size))
      clear hb
      go_wp2_with fail
      revert KR HR3 B K2 K3
      generalize V1.alloc (.cells #[.slice la tl.length lc, .int .i64 (s.length : Int)] 45) = V2
      generalize V1.heap.size = rb
      intro KR HR3 K2 K3 B
      refine (parts_any2 rb lc s.length la tl V2 hTl KR).mono ?_
      intro e V3 hq
      obtain ⟨hbt, hq⟩ := hq
      have K2' := Hid.of (hbt.blk K2.out (by have := HR3.out; omega))
      have K3' := Hid.of (hbt.blk K3.out (by have := HR3.out; omega))
      have B' : Hid (Below w.heap.size w V3) := B.out.trans (hbt.b.mono (by have := HR3.out; omega))
      have HS3 : Hid (w.heap.size + 1 < V3.heap.size) := Nat.lt_of_lt_of_le K3.out.lt hbt.s
      clear hbt K2 K3 B KR
      cases hx : rdAll tl with
      | error el =>
        rw [hx] at hq
        dsimp only at hq
        subst hq
        have HP : Hid (parseL s = (proj0, 2, posE s.length el)) := by
          have h := HPJ.out
          rw [hx] at h
          exact h
        clear hx
        have f0 := K3'.out.cell 0 rfl
        have f1 := K3'.out.cell 1 rfl
        have fz := K3'.out.frozen
        have E3 : Hid (Blk ((V3.setCell ⟨w.heap.size + 1, 0, none⟩ (.int .i64 2)).setCell ⟨w.heap.size + 1, 1, none⟩ (.int .i64 (posE s.length el : Int))) (w.heap.size + 1) 31 #[.int .i64 2, .int .i64 (posE s.length el : Int)]) := (K3'.out.set 0 _).set 1 _
        have E2 : Hid (Blk ((V3.setCell ⟨w.heap.size + 1, 0, none⟩ (.int .i64 2)).setCell ⟨w.heap.size + 1, 1, none⟩ (.int .i64 (posE s.length el : Int))) w.heap.size 28 #[.slice none 0 0, .slice none 0 0, .int .i64 0, .int .i64 0, .slice none 0 0, .slice none 0 0, .slice none 0 0, .slice none 0 0, .slice none 0 0, .slice none 0 0, .slice none 0 0]) := (K2'.out.other (by omega) _).other (by omega) _
        have EB := Hid.of ((B'.out.setCell (p := ⟨w.heap.size + 1, 0, none⟩) (show w.heap.size ≤ w.heap.size + 1 by omega) (.int .i64 2)).setCell (p := ⟨w.heap.size + 1, 1, none⟩) (show w.heap.size ≤ w.heap.size + 1 by omega) (.int .i64 (posE s.length el : Int)))
        have EP := Hid.of (par_err HP.out EB.out)
        go_wp2_with fail
        refine leaves_cons (f := 17) (args := #[.pointer (some ⟨w.heap.size + 1, 0, none⟩)]) (by simp) (by simp [go_sem]) ?_
        refine (catch_panic (w.heap.size + 1) 0 0 2 (posE s.length el : Int) V3 f0 f1 fz).mono ?_
        rintro e u' w'' ⟨rfl, rfl, rfl⟩
        exact ⟨_, results_pj (p := 2) (u := 3) rfl _ _ w.heap.size (w.heap.size + 1) _ _ _ _ _ _ _ _ _ _ _ _ _ _ _ _ _ _ _ _ _ _ _ _ _ _ _ _ _ _ _ rfl rfl E2.out E3.out, EP.out⟩
      | ok z =>
        obtain ⟨P, ts⟩ := z
        rw [hx] at hq
        dsimp only at hq
        obtain ⟨v0, v1, v2, v3, v4, v5, v6, v7, v8, p0, p1, p2, p3, p4, p5, p6, p7, rfl, rfl, hall, hth, htl⟩ := hq
        have HP1 : Hid (parseL s = outE (prjL [p0, p1, p2, p3, p4, p5, p6, p7] ts)) := by
          have h := HPJ.out
          rw [hx] at h
          exact h.2
        have HMM := Hid.of (rdAll_mem hx)
        have hbd : ∀ ns ∈ [p0, p1, p2, p3, p4, p5, p6, p7], ∀ t ∈ ns, t.text.length ≤ 4000 := fun ns hns t ht => tk_bound (HTM.out t (HMM.out ns hns t ht))
        have HBD0 : Hid (∀ t ∈ p0, t.text.length ≤ 4000) := hbd p0 (by simp)
        have HBD1 : Hid (∀ t ∈ p1, t.text.length ≤ 4000) := hbd p1 (by simp)
        have g0 := hall (v0, p0) (by simp)
        have g1 := hall (v1, p1) (by simp)
        have g2 := hall (v2, p2) (by simp)
        have g3 := hall (v3, p3) (by simp)
        have g4 := hall (v4, p4) (by simp)
        have g5 := hall (v5, p5) (by simp)
        have g6 := hall (v6, p6) (by simp)
        have g7 := hall (v7, p7) (by simp)
        have HPR := Hid.of (project_any v0 v1 v2 v3 v4 v5 v6 v7 v8 p0 p1 p2 p3 p4 p5 p6 p7 ts V3 (OwnTk.tkAt g0.1) (OwnTk.tkAt g1.1) (OwnTk.tkAt g2.1) (OwnTk.tkAt g3.1) (OwnTk.tkAt g4.1) (OwnTk.tkAt g5.1) (OwnTk.tkAt g6.1) (OwnTk.tkAt g7.1) (OwnTh.thAt hth) g0.2 g1.2 g2.2 g3.2 g4.2 g5.2 g6.2 g7.2 htl HBD0 HBD1)
        clear hx hall hth hbd g0 g1 g2 g3 g4 g5 g6 g7 HBD0 HBD1 HMM
        go_wp2_with fail
        refine HPR.out.mono ?_
        intro e V4 hq
        obtain ⟨hb, hq⟩ := hq
        have K2 := Hid.of (K2'.out.below hb K2'.out.lt)
        have K3 := Hid.of (K3'.out.below hb K3'.out.lt)
        have B := Hid.of (B'.out.trans (hb.mono B'.out.size))
        clear hb K2' K3' B' HPR
        cases hy : prjL [p0, p1, p2, p3, p4, p5, p6, p7] ts with
        | error er =>
          rw [hy] at hq
          dsimp only at hq
          subst hq
          have HP : Hid (parseL s = (proj0, er.1, er.2)) := by
            show _ = _
            rw [HP1.out, hy]; rfl
          clear hy HP1
          have f0 := K3.out.cell 0 rfl
          have f1 := K3.out.cell 1 rfl
          have fz := K3.out.frozen
          have E3 : Hid (Blk ((V4.setCell ⟨w.heap.size + 1, 0, none⟩ (.int .i64 er.1)).setCell ⟨w.heap.size + 1, 1, none⟩ (.int .i64 (er.2 : Int))) (w.heap.size + 1) 31 #[.int .i64 er.1, .int .i64 (er.2 : Int)]) := (K3.out.set 0 _).set 1 _
          have E2 : Hid (Blk ((V4.setCell ⟨w.heap.size + 1, 0, none⟩ (.int .i64 er.1)).setCell ⟨w.heap.size + 1, 1, none⟩ (.int .i64 (er.2 : Int))) w.heap.size 28 #[.slice none 0 0, .slice none 0 0, .int .i64 0, .int .i64 0, .slice none 0 0, .slice none 0 0, .slice none 0 0, .slice none 0 0, .slice none 0 0, .slice none 0 0, .slice none 0 0]) := (K2.out.other (by omega) _).other (by omega) _
          have EB := Hid.of ((B.out.setCell (p := ⟨w.heap.size + 1, 0, none⟩) (show w.heap.size ≤ w.heap.size + 1 by omega) (.int .i64 er.1)).setCell (p := ⟨w.heap.size + 1, 1, none⟩) (show w.heap.size ≤ w.heap.size + 1 by omega) (.int .i64 (er.2 : Int)))
          have EP := Hid.of (par_err HP.out EB.out)
          go_wp2_with fail
          refine leaves_cons (f := 17) (args := #[.pointer (some ⟨w.heap.size + 1, 0, none⟩)]) (by simp) (by simp [go_sem]) ?_
          refine (catch_panic (w.heap.size + 1) 0 0 er.1 (er.2 : Int) V4 f0 f1 fz).mono ?_
          rintro e u' w'' ⟨rfl, rfl, rfl⟩
          exact ⟨_, results_pj (p := 2) (u := 3) rfl _ _ w.heap.size (w.heap.size + 1) _ _ _ _ _ _ _ _ _ _ _ _ _ _ _ _ _ _ _ _ _ _ _ _ _ _ _ _ _ _ _ rfl rfl E2.out E3.out, EP.out⟩
        | ok q =>
          rw [hy] at hq
          dsimp only at hq
          obtain ⟨L, rfl, hpj⟩ := hq
          have HP : Hid (parseL s = (q, 0, 0)) := by
            show _ = _
            rw [HP1.out, hy]; rfl
          clear hy HP1
          obtain ⟨e0, e1, e2, e3, e4, e5, e6, e7, e8, e9, e10⟩ := pj11 K2.out
          have ef := K2.out.frozen
          have f0 := K3.out.cell 0 rfl
          have f1 := K3.out.cell 1 rfl
          have ff := K3.out.frozen
          have GK2 : Hid (Blk (setPJ V4 w.heap.size (w.heap.size + 1) (.slice L.sa q.states.length L.sc) (.slice L.ea q.events.length L.ec) (.int .i64 q.m.st) (.int .i64 q.m.ev) (.slice L.l.a1 q.m.starts.length L.l.c1) (.slice L.l.a2 q.m.arrows.length L.l.c2) (.slice L.l.a3 q.m.ends.length L.l.c3) (.slice L.na q.seen.length L.nc) (.slice L.fa q.free.length L.fc) (.slice L.ta q.faults.length L.tc) (.slice L.ca q.secret.length L.cc) (.int .i64 0) (.int .i64 0)) w.heap.size 28 (pjcells q L)) := setPJ_two _ _ _ _ _ _ _ _ _ _ _ _ _ K2.out (by omega)
          have GK3 : Hid (Blk (setPJ V4 w.heap.size (w.heap.size + 1) (.slice L.sa q.states.length L.sc) (.slice L.ea q.events.length L.ec) (.int .i64 q.m.st) (.int .i64 q.m.ev) (.slice L.l.a1 q.m.starts.length L.l.c1) (.slice L.l.a2 q.m.arrows.length L.l.c2) (.slice L.l.a3 q.m.ends.length L.l.c3) (.slice L.na q.seen.length L.nc) (.slice L.fa q.free.length L.fc) (.slice L.ta q.faults.length L.tc) (.slice L.ca q.secret.length L.cc) (.int .i64 0) (.int .i64 0)) (w.heap.size + 1) 31 #[.int .i64 0, .int .i64 0]) := setPJ_three _ _ _ _ _ _ _ _ _ _ _ _ _ K3.out (by omega)
          have GB : Hid (Below w.heap.size w (setPJ V4 w.heap.size (w.heap.size + 1) (.slice L.sa q.states.length L.sc) (.slice L.ea q.events.length L.ec) (.int .i64 q.m.st) (.int .i64 q.m.ev) (.slice L.l.a1 q.m.starts.length L.l.c1) (.slice L.l.a2 q.m.arrows.length L.l.c2) (.slice L.l.a3 q.m.ends.length L.l.c3) (.slice L.na q.seen.length L.nc) (.slice L.fa q.free.length L.fc) (.slice L.ta q.faults.length L.tc) (.slice L.ca q.secret.length L.cc) (.int .i64 0) (.int .i64 0))) := setPJ_below _ _ _ _ _ _ _ _ _ _ _ _ _ B.out (Nat.le_refl _) (by omega)
          have GP : Hid (PjAt (setPJ V4 w.heap.size (w.heap.size + 1) (.slice L.sa q.states.length L.sc) (.slice L.ea q.events.length L.ec) (.int .i64 q.m.st) (.int .i64 q.m.ev) (.slice L.l.a1 q.m.starts.length L.l.c1) (.slice L.l.a2 q.m.arrows.length L.l.c2) (.slice L.l.a3 q.m.ends.length L.l.c3) (.slice L.na q.seen.length L.nc) (.slice L.fa q.free.length L.fc) (.slice L.ta q.faults.length L.tc) (.slice L.ca q.secret.length L.cc) (.int .i64 0) (.int .i64 0)) q L) := hpj _ (fun k h1 h2 => setPJ_heap _ _ _ _ _ _ _ _ _ _ _ _ _ (by have := HS3.out; omega) (by have := HS3.out; omega))
          clear hpj K2 K3 B
          go_wp2_with fail
          refine leaves_cons (f := 17) (args := #[.pointer (some ⟨w.heap.size + 1, 0, none⟩)]) (by simp) (by simp [go_sem]) ?_
          refine (catch_idle (w.heap.size + 1) (setPJ V4 w.heap.size (w.heap.size + 1) (.slice L.sa q.states.length L.sc) (.slice L.ea q.events.length L.ec) (.int .i64 q.m.st) (.int .i64 q.m.ev) (.slice L.l.a1 q.m.starts.length L.l.c1) (.slice L.l.a2 q.m.arrows.length L.l.c2) (.slice L.l.a3 q.m.ends.length L.l.c3) (.slice L.na q.seen.length L.nc) (.slice L.fa q.free.length L.fc) (.slice L.ta q.faults.length L.tc) (.slice L.ca q.secret.length L.cc) (.int .i64 0) (.int .i64 0))).mono ?_
          rintro e u' w'' ⟨rfl, rfl, rfl⟩
          exact ⟨_, results_pj (p := 2) (u := 3) rfl _ _ w.heap.size (w.heap.size + 1) _ _ _ _ _ _ _ _ _ _ _ _ _ _ _ _ _ _ _ _ _ _ _ _ _ _ _ _ _ _ _ rfl rfl GK2.out GK3.out, ⟨L, by rw [HP.out]; rfl, by rw [HP.out]; exact GP.out, GB.out⟩⟩
    · rw [if_neg he] at hq
      have HP := Hid.of (parse_tok HNL.out HT.out he)
      dsimp only at hq HP
      subst hq
      clear he
      have f0 := K3.out.cell 0 rfl
      have f1 := K3.out.cell 1 rfl
      have fz := K3.out.frozen
      have E3 : Hid (Blk ((V1.setCell ⟨w.heap.size + 1, 0, none⟩ (.int .i64 er)).setCell ⟨w.heap.size + 1, 1, none⟩ (.int .i64 (tp : Int))) (w.heap.size + 1) 31 #[.int .i64 er, .int .i64 (tp : Int)]) := (K3.out.set 0 _).set 1 _
      have E2 : Hid (Blk ((V1.setCell ⟨w.heap.size + 1, 0, none⟩ (.int .i64 er)).setCell ⟨w.heap.size + 1, 1, none⟩ (.int .i64 (tp : Int))) w.heap.size 28 #[.slice none 0 0, .slice none 0 0, .int .i64 0, .int .i64 0, .slice none 0 0, .slice none 0 0, .slice none 0 0, .slice none 0 0, .slice none 0 0, .slice none 0 0, .slice none 0 0]) := (K2.out.other (by omega) _).other (by omega) _
      have EB := Hid.of ((B.out.setCell (p := ⟨w.heap.size + 1, 0, none⟩) (show w.heap.size ≤ w.heap.size + 1 by omega) (.int .i64 er)).setCell (p := ⟨w.heap.size + 1, 1, none⟩) (show w.heap.size ≤ w.heap.size + 1 by omega) (.int .i64 (tp : Int)))
      have EP := Hid.of (par_err HP.out EB.out)
      go_wp2_with fail
      refine leaves_cons (f := 17) (args := #[.pointer (some ⟨w.heap.size + 1, 0, none⟩)]) (by simp) (by simp [go_sem]) ?_
      refine (catch_panic (w.heap.size + 1) 0 0 er (tp : Int) V1 f0 f1 fz).mono ?_
      rintro e u' w'' ⟨rfl, rfl, rfl⟩
      exact ⟨_, results_pj (p := 2) (u := 3) rfl _ _ w.heap.size (w.heap.size + 1) _ _ _ _ _ _ _ _ _ _ _ _ _ _ _ _ _ _ _ _ _ _ _ _ _ _ _ _ _ _ _ rfl rfl E2.out E3.out, EP.out⟩

end Go.Proofs.Ytbgiliophmofgaa
namespace Go.Proofs.Ytbgiliophmofgaa
open Go.RowKit

theorem pPar_any (s : Str) (w : World) : Calls Try.prog 7 #[strV s] w fun e w' => ParPost w s e w' := pParse_any s w

end Go.Proofs.Ytbgiliophmofgaa
