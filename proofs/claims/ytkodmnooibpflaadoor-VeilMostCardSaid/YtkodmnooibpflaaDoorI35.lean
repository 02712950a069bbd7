/-
  The walk of jalousieref15.Move.
  Plain: another way of forbidding, by a machine's runs: if it keeps the secret, the veil lets all be that it lets be. No program, no model.
  Plain: all that lists lead to, by another way of forbidding, as the reference looks for it. No program, no model.
  What is said of a slice of whereabouts (jalousieref15.At: a state and a row each).
  The walks of jalousieref15.ats and Same.
  The walk of jalousieref15.on.
-/
import Derived.Test.YtkodmnooibpflaaDoorI33
import Derived.Test.YtkodmnooibpflaaDoorI29
import Derived.Test.YtkodmnooibpflaaDoorI06
import Derived.Test.YtkodmnooibpflaaDoorI10
import Derived.Test.YtkodmnooibpflaaDoorI04
import Derived.Deep.QuietTactic
import Derived.Deep.RegionWith
import Derived.BigQuiet
import Derived.Test.YtkodmnooibpflaaDoorI14
import Derived.Test.YtkodmnooibpflaaDoorI30
import Derived.Test.YtkodmnooibpflaaDoorI18
namespace Go.Proofs.YtkodmnooibpflaaDoor
open Go.RowKit
set_option linter.unusedVariables false

abbrev mvarr (nd : Int) (ev : Int) (sa : Option Addr) (n sc : Nat) (to : Int) : Array Value := #[.int .i64 nd, .int .i64 ev, .slice sa n sc, .int .i64 to]
theorem mvcell_at {W : World} {b : Nat} {nd ev to : Int} {sa : Option Addr} {n sc : Nat} (h : Blk W b 67 (mvarr nd ev sa n sc to)) : W.cell? ⟨b, 0, none⟩ = some (.int .i64 nd) ∧ W.cell? ⟨b, 1, none⟩ = some (.int .i64 ev) ∧ W.cell? ⟨b, 2, none⟩ = some (.slice sa n sc) ∧ W.cell? ⟨b, 3, none⟩ = some (.int .i64 to) := ⟨h.cell 0 rfl, h.cell 1 rfl, h.cell 2 rfl, h.cell 3 rfl⟩
theorem blk_mv {W : World} {b : Nat} {nd ev to : Int} {sa : Option Addr} {n sc : Nat} (h : Blk W b 67 (mvarr nd ev sa n sc to)) (nd' ev' to' : Int) (sa' : Option Addr) (n' sc' : Nat) : Blk ((((W.setCell ⟨b, 0, none⟩ (.int .i64 nd')).setCell ⟨b, 1, none⟩ (.int .i64 ev')).setCell ⟨b, 2, none⟩ (.slice sa' n' sc')).setCell ⟨b, 3, none⟩ (.int .i64 to')) b 67 (mvarr nd' ev' sa' n' sc' to') :=
  (((h.set 0 _).set 1 _).set 2 _).set 3 _
theorem below_setm {W V : World} {B b' : Nat} (h : Below B V W) (hb : B ≤ b') (v0 v1 v2 v3 : Value) : Below B V ((((W.setCell ⟨b', 0, none⟩ v0).setCell ⟨b', 1, none⟩ v1).setCell ⟨b', 2, none⟩ v2).setCell ⟨b', 3, none⟩ v3) :=
  (((h.setCell (p := ⟨b', 0, none⟩) hb v0).setCell (p := ⟨b', 1, none⟩) hb v1).setCell (p := ⟨b', 2, none⟩) hb v2).setCell (p := ⟨b', 3, none⟩) hb v3
theorem results_mvTmp {fn : Func} {p u : Tmp} (h : fn.results = #[.cell p 67, .tmp u]) (tmps : Array Value) (w : World) (g : Nat) (nd ev to : Int) (sa : Option Addr) (n sc : Nat) (x : Value) (hp : tmps.getD p undef = .pointer (some ⟨g, 0, none⟩)) (hu : tmps.getD u undef = x) (hB : Blk w g 67 (mvarr nd ev sa n sc to)) :
    (results fn tmps).run Tryd.prog w = .ok (.tuple #[.agg (mvarr nd ev sa n sc to), x]) w := by
  obtain ⟨x0, x1, x2, x3⟩ := mvcell_at hB
  have e : (results fn tmps).run Tryd.prog w = ((asAddr (tmps.getD p undef)).run Tryd.prog w).andThen fun a w₁ => ((loadVar 67 a).run Tryd.prog w₁).andThen fun r w₂ => .ok (.tuple #[r, tmps.getD u undef]) w₂ := by
    simp only [results, h]
    simp [Sem.run_bind, Result.andThen]
  rw [e, hp, hu]
  go_simp
/-- What Move leaves. -/
def MovePost (w0 w : World) (o : Option Mv) (e : Ending) (w' : World) : Prop :=
  match o with
  | none => e = .returned (.tuple #[.agg (mvarr 0 0 none 0 0 0), .bool false]) ∧ Below w.heap.size w w'
  | some m => ∃ sa sc, e = .returned (.tuple #[.agg (mvarr (m.nd : Int) m.ev sa m.st.length sc (m.to : Int)), .bool true]) ∧ At w0 sa m.st ∧ m.st.length ≤ maxLen ∧ Below w.heap.size w w'
theorem mvF_skip {mv : List Mv} {k nd : Nat} {e : Int} {m : Mv} (hk : mv[k]? = some m) (h : mvF mv nd e = mvF (mv.drop k) nd e) (hn : ¬ (m.nd = nd ∧ m.ev = e)) : mvF mv nd e = mvF (mv.drop (k + 1)) nd e := by
  obtain ⟨hl, e1⟩ := List.getElem?_eq_some_iff.1 hk
  rw [h, List.drop_eq_getElem_cons hl, e1]
  unfold mvF
  rw [List.find?_cons_of_neg (by simpa using hn)]
theorem mvF_hit {mv : List Mv} {k nd : Nat} {e : Int} {m : Mv} (hk : mv[k]? = some m) (h : mvF mv nd e = mvF (mv.drop k) nd e) (h1 : m.nd = nd) (h2 : m.ev = e) : mvF mv nd e = some m := by
  obtain ⟨hl, e1⟩ := List.getElem?_eq_some_iff.1 hk
  rw [h, List.drop_eq_getElem_cons hl, e1]
  unfold mvF
  rw [List.find?_cons_of_pos (by simp [h1, h2])]
theorem mvF_end {mv : List Mv} {k nd : Nat} {e : Int} (hk : mv.length ≤ k) (h : mvF mv nd e = mvF (mv.drop k) nd e) : mvF mv nd e = none := by
  rw [h, List.drop_eq_nil_of_le hk]; rfl

set_option maxRecDepth 100000 in
set_option maxHeartbeats 8000000 in
theorem rmove_any (w0 : World) (v : VS) (L : VL) (nd : Nat) (ev : Int) (w : World) (hb0 : Hid (Below w0.heap.size w0 w)) (h : Hid (VAt w0 v L)) :
    Calls Tryd.prog 93 #[vval v L, .int .i64 (nd : Int), .int .i64 ev] w fun r w' => MovePost w0 w (mvF v.2 nd ev) r w' := by
  have hml := h.out.ml
  have B0 : Hid (Below w.heap.size w ((w.alloc (.cells (vcells v L) 60)).alloc (.cells (mvarr 0 0 none 0 0 0) 67))) := ((Below.refl _ _).alloc (Nat.le_refl _) _).alloc (by simp) _
  have K1 : Hid (Blk ((w.alloc (.cells (vcells v L) 60)).alloc (.cells (mvarr 0 0 none 0 0 0) 67)) w.heap.size 60 (vcells v L)) := (Blk.new w _ _).alloc _
  have K2 : Hid (Blk ((w.alloc (.cells (vcells v L) 60)).alloc (.cells (mvarr 0 0 none 0 0 0) 67)) (w.heap.size + 1) 67 (mvarr 0 0 none 0 0 0)) := by
    have := Blk.new (w.alloc (.cells (vcells v L) 60)) 67 (mvarr 0 0 none 0 0 0)
    rwa [World.size_alloc] at this
  go_enter Tryd.func93, Tryd.ntmps93
  go_wp2_with fail
  revert B0 K1 K2
  generalize (w.alloc (.cells (vcells v L) 60)).alloc (.cells (mvarr 0 0 none 0 0 0) 67) = V
  intro B0 K1 K2
  have B00 := Hid.of (hb0.out.trans (B0.out.mono hb0.out.size))
  have HS : Hid (mvF v.2 nd ev = mvF (v.2.drop 0) nd ev) := rfl
  go_loop [8] (fun i => ∃ k : Nat, i = .int .i64 k ∧ k ≤ v.2.length ∧ Hid (mvF v.2 nd ev = mvF (v.2.drop k) nd ev)) (fun i => v.2.length - (intOf i).toNat)
  case atStart => exact ⟨0, rfl, Nat.zero_le _, HS⟩
  case round =>
    clear HS
    obtain ⟨k, rfl, hk, HS⟩ := hrel
    obtain ⟨y0, y1⟩ := vcell_at K1.out
    by_cases hlt : k < v.2.length
    · obtain ⟨m, HM⟩ : ∃ m, Hid (v.2[k]? = some m) := ⟨_, List.getElem?_eq_getElem hlt⟩
      rcases h.out.m with h0 | ⟨g, o, hma, hg, hc⟩
      · rw [h0] at hlt; simp at hlt
      obtain ⟨sa, sc, d0, d1, d2, d3, hat, hsl⟩ := hc k m HM.out
      have c0 := (B00.out.cell (p := ⟨g, o + k * 4, none⟩) hg).trans d0
      have c1 := (B00.out.cell (p := ⟨g, o + k * 4 + 1, none⟩) hg).trans d1
      have c2 := (B00.out.cell (p := ⟨g, o + k * 4 + 2, none⟩) hg).trans d2
      have c3 := (B00.out.cell (p := ⟨g, o + k * 4 + 3, none⟩) hg).trans d3
      have HAT := Hid.of hat
      have HSL := Hid.of hsl
      rw [hma] at y1
      have hltI : (k : Int) < (v.2.length : Int) := by omega
      clear hc hat hsl d0 d1 d2 d3
      by_cases hn : m.nd = nd
      · by_cases he : m.ev = ev
        · have HF : Hid (mvF v.2 nd ev = some m) := mvF_hit HM.out HS.out hn he
          have e1 : (((m.nd : Nat) : Int) == ((nd : Nat) : Int)) = true := beq_iff_eq.2 (by omega)
          have e2 : (m.ev == ev) = true := beq_iff_eq.2 he
          have fz := K2.out.frozen
          obtain ⟨r0, r1, r2, r3⟩ := mvcell_at K2.out
          have BB := Hid.of (below_setm B0.out (b' := w.heap.size + 1) (by omega) (.int .i64 (m.nd : Int)) (.int .i64 m.ev) (.slice sa m.st.length sc) (.int .i64 (m.to : Int)))
          have KK := Hid.of (blk_mv K2.out (m.nd : Int) m.ev (m.to : Int) sa m.st.length sc)
          clear hn he
          go_wp2_with fail
          refine bodyPost_ret (v := .tuple #[.agg (mvarr (m.nd : Int) m.ev sa m.st.length sc (m.to : Int)), .bool true]) (results_mvTmp (p := 6) (u := 7) rfl _ _ (w.heap.size + 1) _ _ _ _ _ _ _ rfl rfl KK.out) rfl ?_
          unfold MovePost
          rw [HF.out]
          exact ⟨sa, sc, rfl, HAT.out, HSL.out, BB.out⟩
        · have HN : Hid (mvF v.2 nd ev = mvF (v.2.drop (k + 1)) nd ev) := mvF_skip HM.out HS.out (fun h => he h.2)
          have e1 : (((m.nd : Nat) : Int) == ((nd : Nat) : Int)) = true := beq_iff_eq.2 (by omega)
          have e2 : (m.ev == ev) = false := beq_eq_false_iff_ne.2 he
          clear hn he
          go_wp2_with fail
          go_round
          case rel => exact ⟨k + 1, by go_num, by omega, HN⟩
          case measure => simp [intOf]; omega
      · have HN : Hid (mvF v.2 nd ev = mvF (v.2.drop (k + 1)) nd ev) := mvF_skip HM.out HS.out (fun h => hn h.1)
        have e1 : (((m.nd : Nat) : Int) == ((nd : Nat) : Int)) = false := beq_eq_false_iff_ne.2 (by omega)
        clear hn
        go_wp2_with fail
        go_round
        case rel => exact ⟨k + 1, by go_num, by omega, HN⟩
        case measure => simp [intOf]; omega
    · have hkl : k = v.2.length := by omega
      subst hkl
      have HF : Hid (mvF v.2 nd ev = none) := mvF_end (Nat.le_refl _) HS.out
      have fz := K2.out.frozen
      obtain ⟨r0, r1, r2, r3⟩ := mvcell_at K2.out
      have BB := Hid.of (below_setm B0.out (b' := w.heap.size + 1) (by omega) (.int .i64 0) (.int .i64 0) (.slice none 0 0) (.int .i64 0))
      have KK := Hid.of (blk_mv K2.out 0 0 0 none 0 0)
      clear hlt
      go_wp2_with fail
      refine bodyPost_ret (v := .tuple #[.agg (mvarr 0 0 none 0 0 0), .bool false]) (results_mvTmp (p := 6) (u := 7) rfl _ _ (w.heap.size + 1) _ _ _ _ _ _ _ rfl rfl KK.out) rfl ?_
      unfold MovePost
      rw [HF.out]
      exact ⟨rfl, BB.out⟩

end Go.Proofs.YtkodmnooibpflaaDoor
namespace Go.Proofs.YtkodmnooibpflaaDoor
open Go.RowKit
set_option linter.unusedVariables false

/-- Where the plant is, and where the other machine may be. -/
abbrev PlO : Type := Int × List Int
/-- Where a place leads to at an event. -/
def onO (p : Plant) (o : Mach) (x : PlO) (e : Int) : Option PlO := if (stepL p.m.arrows [x.1] e).length = 1 ∧ 0 < (stepL o.arrows x.2 e).length then some ((stepL p.m.arrows [x.1] e)[0]?.getD 0, stepL o.arrows x.2 e) else none
theorem onO_step {p : Plant} {o : Mach} {x z : PlO} {e : Int} (h : onO p o x e = some z) : stepL p.m.arrows [x.1] e = [z.1] := by
  unfold onO at h
  split at h
  · rename_i hc
    have := Option.some.inj h
    subst this
    exact one_of hc.1
  · cases h
/-- What unseen events come to from some places. -/
def UnO (p : Plant) (o : Mach) (X : PlO → Prop) (x : PlO) : Prop := ∀ P : PlO → Prop, (∀ y, X y → P y) → (∀ y e z, P y → 0 ≤ e → e < p.m.ev → e ∉ p.seen → onO p o y e = some z → P z) → P x
theorem un_start {p : Plant} {o : Mach} {X : PlO → Prop} {x : PlO} (h : X x) : UnO p o X x := fun P h1 _ => h1 x h
theorem un_step {p : Plant} {o : Mach} {X : PlO → Prop} {y z : PlO} {e : Int} (h : UnO p o X y) (h0 : 0 ≤ e) (h1 : e < p.m.ev) (h2 : e ∉ p.seen) (hz : onO p o y e = some z) : UnO p o X z := fun P k1 k2 => k2 y e z (h P k1 k2) h0 h1 h2 hz
/-- What a list of seen events leads to. -/
def atU (p : Plant) (o : Mach) (x0 : PlO) : List Int → PlO → Prop
  | [] => UnO p o (· = x0)
  | e :: r => UnO p o fun z => ∃ y, atU p o x0 r y ∧ onO p o y e = some z
theorem atU_step {p : Plant} {o : Mach} {x0 : PlO} {r : List Int} {y z : PlO} {e : Int} (h : atU p o x0 r y) (h0 : 0 ≤ e) (h1 : e < p.m.ev) (h2 : e ∉ p.seen) (hz : onO p o y e = some z) : atU p o x0 r z := by
  cases r with
  | nil => exact un_step h h0 h1 h2 hz
  | cons c r => exact un_step h h0 h1 h2 hz
theorem atU_seen {p : Plant} {o : Mach} {x0 : PlO} {r : List Int} {y z : PlO} {e : Int} (h : atU p o x0 r y) (hz : onO p o y e = some z) : atU p o x0 (e :: r) z := un_start ⟨y, h, hz⟩
/-- It keeps the secret, and forbids nothing but what is free (O1). -/
def KeepO (p : Plant) (free : List Int) (X : PlO → Prop) (o : Mach) : Prop := ((∃ x, X x) → ∃ x, X x ∧ x.1 ∉ p.secret) ∧ ∀ x, X x → ∀ e, 0 ≤ e → e < p.m.ev → (stepL p.m.arrows [x.1] e).length = 1 → onO p o x e = none → e ∈ free
def KeepA (p : Plant) (free : List Int) (o : Mach) (x0 : PlO) : Prop := ∀ u : List Int, (∀ e ∈ u, e ∈ p.seen) → KeepO p free (atU p o x0 u) o
/-- A plant is plain: from each state at each event at most one arrow. -/
def PlainP (p : Plant) : Prop := ∀ s e : Int, 0 ≤ s → s < p.m.st → 0 ≤ e → e < p.m.ev → (stepL p.m.arrows [s] e).length ≤ 1
/-- Any states below a number are a row. -/
theorem row_of (n : Nat) (P : Int → Prop) : ∃ r : List Int, Inc r ∧ ∀ x : Int, x ∈ r ↔ (0 ≤ x ∧ x < (n : Int)) ∧ P x := by
  induction n with
  | zero => exact ⟨[], by simp [Inc], fun x => by simp; omega⟩
  | succ n ih =>
    obtain ⟨r, h1, h2⟩ := ih
    rcases Classical.em (P (n : Int)) with hp | hp
    · refine ⟨r ++ [(n : Int)], ?_, fun x => ?_⟩
      · unfold Inc at h1 ⊢
        rw [List.pairwise_append]
        refine ⟨h1, by simp, fun a ha b hb => ?_⟩
        have : b = (n : Int) := by simpa using hb
        have := ((h2 a).1 ha).1
        omega
      · rw [List.mem_append, h2, List.mem_singleton]
        constructor
        · rintro (⟨h3, h4⟩ | h3)
          · exact ⟨by omega, h4⟩
          · subst h3; exact ⟨by omega, hp⟩
        · rintro ⟨h3, h4⟩
          by_cases e : x = (n : Int)
          · exact .inr e
          · exact .inl ⟨by omega, h4⟩
    · refine ⟨r, h1, fun x => ?_⟩
      rw [h2]
      constructor
      · rintro ⟨h3, h4⟩; exact ⟨by omega, h4⟩
      · rintro ⟨h3, h4⟩
        by_cases e : x = (n : Int)
        · subst e; exact absurd h4 hp
        · exact ⟨by omega, h4⟩

section
variable {p : Plant} {free : List Int} {o : Mach} {x0 : PlO}
/-- The states of places. -/
def IsRowU (p : Plant) (o : Mach) (x0 : PlO) (u r : List Int) : Prop := ∀ s : Int, s ∈ r ↔ ∃ y, atU p o x0 u y ∧ y.1 = s
theorem on_some (hm : mayB p.m = true) (hpl : PlainP p) {u : List Int} (hk : KeepO p free (atU p o x0 u) o) {y : PlO} (hy : atU p o x0 u y) (hyb : 0 ≤ y.1 ∧ y.1 < p.m.st) {e t : Int} (h0 : 0 ≤ e) (h1 : e < p.m.ev) (hf : e ∉ free) (ht : t ∈ stepL p.m.arrows [y.1] e) : ∃ z, onO p o y e = some z ∧ z.1 = t := by
  have hl := hpl y.1 e hyb.1 hyb.2 h0 h1
  have hl1 : (stepL p.m.arrows [y.1] e).length = 1 := by have := List.length_pos_of_mem ht; omega
  cases hz : onO p o y e with
  | none => exact absurd (hk.2 y hy e h0 h1 hl1 hz) hf
  | some z =>
    refine ⟨z, rfl, ?_⟩
    rw [onO_step hz] at ht
    exact (by simpa using ht : t = z.1).symm
theorem un_wide (hm : mayB p.m = true) {X : PlO → Prop} {S : List Int} (h : ∀ y, X y → y.1 ∈ S) {y : PlO} (hy : UnO p o X y) : y.1 ∈ wideL p.m.arrows p.seen S := by
  refine hy (fun y => y.1 ∈ wideL p.m.arrows p.seen S) (fun z hz => wide_sub (may_to hm) _ (h z hz)) (fun z e q hz h0 h1 h2 hq => ?_)
  obtain ⟨a, ha, e1, e2, e3⟩ := step_arrow (p := p) (s := z.1) (e := e) (t := q.1) (by rw [onO_step hq]; simp)
  have := wide_cl (may_to hm) ha (by rw [e1]; unfold hasB; simpa using h2) (by rw [e2]; exact hz)
  rw [e3] at this; exact this
theorem wide_un (hm : mayB p.m = true) (hpl : PlainP p) (hfr : ∀ e ∈ free, e ∈ p.seen) {u : List Int} (hk : KeepO p free (atU p o x0 u) o) {S : List Int} (hb : ∀ x ∈ S, 0 ≤ x ∧ x < p.m.st) (h : ∀ s ∈ S, ∃ y, atU p o x0 u y ∧ y.1 = s) : ∀ s ∈ wideL p.m.arrows p.seen S, ∃ y, atU p o x0 u y ∧ y.1 = s := fun s hs => by
  have hs' := (mem_wide (may_to hm) s).1 hs
  refine (hs' (fun s => (0 ≤ s ∧ s < p.m.st) ∧ ∃ y, atU p o x0 u y ∧ y.1 = s) ⟨fun x hx => ⟨hb x hx, h x hx⟩, fun a ha hq => ?_⟩).2
  obtain ⟨hqb, y, hy, e1⟩ := hq
  obtain ⟨h1, h2⟩ := (mem_unseen _ _ _).1 ha
  have hin := may_arrs hm a h1
  have hns : a.e ∉ p.seen := by unfold hasB at h2; simpa using h2
  obtain ⟨z, hz, e2⟩ := on_some hm hpl hk hy (by rw [e1]; exact hqb) hin.2.2.2.2.1 hin.2.2.2.2.2 (fun hc => hns (hfr _ hc)) (t := a.t) ((mem_stepL _ _ _ _).2 ⟨a, h1, rfl, by rw [e1]; simp, rfl⟩)
  exact ⟨⟨hin.2.2.1, hin.2.2.2.1⟩, z, atU_step hy hin.2.2.2.2.1 hin.2.2.2.2.2 hns hz, e2⟩
theorem seeRow (hm : mayB p.m = true) (hpl : PlainP p) (hfr : ∀ e ∈ free, e ∈ p.seen) (hK : KeepA p free o x0) (hse : ∀ e ∈ p.seen, 0 ≤ e ∧ e < p.m.ev) {u r : List Int} (hu : ∀ e ∈ u, e ∈ p.seen) (hb : ∀ x ∈ r, 0 ≤ x ∧ x < p.m.st) (hr : IsRowU p o x0 u r) {e : Int} (he : e ∈ p.seen) (hf : e ∉ free) : IsRowU p o x0 (e :: u) (seeL p r e) := fun s => by
  have hu' : ∀ c ∈ e :: u, c ∈ p.seen := fun c hc => by
    rcases List.mem_cons.1 hc with rfl | hc
    · exact he
    · exact hu c hc
  constructor
  · refine wide_un hm hpl hfr (hK _ hu') (step_bd hm) (fun t ht => ?_) s
    obtain ⟨a, h1, h2, h3, h4⟩ := (mem_stepL _ _ _ _).1 ht
    obtain ⟨y, hy, e1⟩ := (hr a.f).1 h3
    obtain ⟨z, hz, e2⟩ := on_some hm hpl (hK u hu) hy (by rw [e1]; exact hb _ h3) (hse e he).1 (hse e he).2 hf (t := t) ((mem_stepL _ _ _ _).2 ⟨a, h1, h2, by rw [e1]; simp, h4⟩)
    exact ⟨z, atU_seen hy hz, e2⟩
  · rintro ⟨y, hy, rfl⟩
    refine un_wide hm (S := stepL p.m.arrows r e) (fun z hz => ?_) hy
    obtain ⟨q, hq, hzq⟩ := hz
    obtain ⟨a, ha, e1, e2, e3⟩ := step_arrow (p := p) (s := q.1) (e := e) (t := z.1) (by rw [onO_step hzq]; simp)
    exact (mem_stepL _ _ _ _).2 ⟨a, ha, e1, by rw [e2]; exact (hr q.1).2 ⟨q, hq, rfl⟩, e3⟩
/-- What a list leads to can be kept. -/
theorem row_good (hm : mayB p.m = true) (hpl : PlainP p) (hfr : ∀ e ∈ free, e ∈ p.seen) (hK : KeepA p free o x0) (hse : ∀ e ∈ p.seen, 0 ≤ e ∧ e < p.m.ev) {u r : List Int} (hu : ∀ e ∈ u, e ∈ p.seen) (hb : ∀ x ∈ r, 0 ≤ x ∧ x < p.m.st) (hr : IsRowU p o x0 u r) : GoodP p free r := by
  refine good_of (fun r => (∀ x ∈ r, 0 ≤ x ∧ x < p.m.st) ∧ ∃ u, (∀ e ∈ u, e ∈ p.seen) ∧ IsRowU p o x0 u r) ?_ ?_ ⟨hb, u, hu, hr⟩
  · rintro r ⟨hb, u, hu, hr⟩
    cases hl : leakB p.secret r with
    | false => rfl
    | true =>
      obtain ⟨⟨s, hs⟩, h2⟩ := (leakB_iffV _ _).1 hl
      obtain ⟨y, hy, -⟩ := (hr s).1 hs
      obtain ⟨x, hx, hn⟩ := (hK u hu).1 ⟨y, hy⟩
      exact absurd (h2 x.1 ((hr x.1).2 ⟨x, hx, rfl⟩)) hn
  · rintro r e ⟨hb, u, hu, hr⟩ he hf
    exact ⟨(see_in hm r e).2, e :: u, fun c hc => by
      rcases List.mem_cons.1 hc with rfl | hc
      · exact he
      · exact hu c hc, seeRow hm hpl hfr hK hse hu hb hr he hf⟩
theorem first_row (hm : mayB p.m = true) (hpl : PlainP p) (hfr : ∀ e ∈ free, e ∈ p.seen) (hK : KeepA p free o x0) (h0 : p.m.starts = [x0.1]) : IsRowU p o x0 [] (estL p []) := fun s => by
  have hst := (may_starts hm).2
  constructor
  · refine wide_un hm hpl hfr (hK [] (by simp)) hst (fun t ht => ?_) s
    rw [h0] at ht
    have : t = x0.1 := by simpa using ht
    exact ⟨x0, un_start rfl, this.symm⟩
  · rintro ⟨y, hy, rfl⟩
    refine un_wide hm (S := p.m.starts) (fun z hz => ?_) hy
    have : z = x0 := hz
    rw [this, h0]; simp
/-- What leads on to a list's last event, and what it leads to. -/
theorem img_row (hm : mayB p.m = true) (hpl : PlainP p) (hfr : ∀ e ∈ free, e ∈ p.seen) (hK : KeepA p free o x0) {u : List Int} (hu : ∀ e ∈ u, e ∈ p.seen) {e : Int} (he : e ∈ p.seen) : ∃ X : List Int, (∀ s, s ∈ X ↔ ∃ y z, atU p o x0 u y ∧ onO p o y e = some z ∧ z.1 = s) ∧ (∀ x ∈ X, 0 ≤ x ∧ x < p.m.st) ∧ IsRowU p o x0 (e :: u) (wideL p.m.arrows p.seen X) := by
  have hz := mayB_size hm
  unfold sizeOk at hz
  obtain ⟨X, -, hX⟩ := row_of p.m.st.toNat (fun s => ∃ y z, atU p o x0 u y ∧ onO p o y e = some z ∧ z.1 = s)
  have hin : ∀ y z, onO p o y e = some z → 0 ≤ z.1 ∧ z.1 < p.m.st := fun y z hz => step_bd hm z.1 (ss := [y.1]) (e := e) (by rw [onO_step hz]; simp)
  have hX' : ∀ s, s ∈ X ↔ ∃ y z, atU p o x0 u y ∧ onO p o y e = some z ∧ z.1 = s := fun s => by
    rw [hX]
    refine ⟨fun h => h.2, fun h => ⟨?_, h⟩⟩
    obtain ⟨y, z, -, hz, rfl⟩ := h
    have := hin y z hz; omega
  have hb : ∀ x ∈ X, 0 ≤ x ∧ x < p.m.st := fun x hx => by have := ((hX x).1 hx).1; omega
  refine ⟨X, hX', hb, fun s => ⟨?_, ?_⟩⟩
  · have hu' : ∀ c ∈ e :: u, c ∈ p.seen := fun c hc => by
      rcases List.mem_cons.1 hc with rfl | hc
      · exact he
      · exact hu c hc
    refine wide_un hm hpl hfr (hK _ hu') hb (fun t ht => ?_) s
    obtain ⟨y, z, hy, hz, e1⟩ := (hX' t).1 ht
    exact ⟨z, atU_seen hy hz, e1⟩
  · rintro ⟨y, hy, rfl⟩
    refine un_wide hm (S := X) (fun z hz => ?_) hy
    obtain ⟨q, hq, hzq⟩ := hz
    exact (hX' z.1).2 ⟨q, z, hq, hzq, rfl⟩
/-- The veil goes on wherever the other way does. -/
theorem cov_seen (hm : mayB p.m = true) (hpl : PlainP p) (hfr : ∀ e ∈ free, e ∈ p.seen) (hK : KeepA p free o x0) (hse : ∀ e ∈ p.seen, 0 ≤ e ∧ e < p.m.ev) {g : List Int → Bool} (hg : TellsG p free g) {v : VS} (h : VI p g free v.1.length 0 v) {u : List Int} (hu : ∀ e ∈ u, e ∈ p.seen) {nd : Nat} {node : List Int} (hn : v.1[nd]? = some node) (hc : ∀ y, atU p o x0 u y → y.1 ∈ node) {x z : PlO} (hx : atU p o x0 u x) {e : Int} (he : e ∈ p.seen) (hz : onO p o x e = some z) :
    ∃ m, mvF v.2 nd e = some m ∧ x.1 ∈ m.st ∧ ∃ node', v.1[m.to]? = some node' ∧ ∀ y, atU p o x0 (e :: u) y → y.1 ∈ node' := by
  obtain ⟨X, hX, hXb, hXr⟩ := img_row hm hpl hfr hK hu he
  have hsub : ∀ t ∈ X, t ∈ stepL p.m.arrows node e := fun t ht => by
    obtain ⟨y, q, hy, hq, rfl⟩ := (hX t).1 ht
    obtain ⟨a, ha, e1, e2, e3⟩ := step_arrow (p := p) (s := y.1) (e := e) (t := q.1) (by rw [onO_step hq]; simp)
    exact (mem_stepL _ _ _ _).2 ⟨a, ha, e1, by rw [e2]; exact hc y hy, e3⟩
  have hto : ∀ t ∈ X, t ∈ toV p g free node e := fun t ht => by
    unfold toV
    split
    · have hu' : ∀ c ∈ e :: u, c ∈ p.seen := fun c hc => by
        rcases List.mem_cons.1 hc with rfl | hc
        · exact he
        · exact hu c hc
      exact most_has hm hg (step_bd hm) hsub (row_good hm hpl hfr hK hse hu' (wide_in hm hXb).2 hXr) t ht
    · exact hsub t ht
  have hst : x.1 ∈ stayV p g free node e := (mem_stay _ _ _ _ _ _).2 ⟨hc x hx, z.1, onO_step hz, hto _ ((hX z.1).2 ⟨x, z, hx, hz, rfl⟩)⟩
  obtain ⟨i, hi⟩ := List.mem_iff_getElem?.1 he
  obtain ⟨m, hm1, hm2, hm3⟩ := h.all nd i node e (.inl (List.getElem?_eq_some_iff.1 hn).1) hn hi ⟨x.1, hst⟩
  cases hmv : mvF v.2 nd e with
  | none =>
    unfold mvF at hmv
    rw [List.find?_eq_none] at hmv
    have := hmv m hm1
    simp [hm2, hm3] at this
  | some m' =>
    unfold mvF at hmv
    have hmem := List.mem_of_find?_eq_some hmv
    have hkey := List.find?_some hmv
    simp only [Bool.and_eq_true, decide_eq_true_eq] at hkey
    obtain ⟨nd', q1, q2, q3, q4, q5⟩ := h.mv m' hmem
    rw [hkey.1, hn] at q1
    cases q1
    rw [hkey.2] at q3 q5
    refine ⟨m', rfl, by rw [q3]; exact hst, _, q5, fun y hy => ?_⟩
    have h1 := (hXr y.1).2 ⟨y, hy, rfl⟩
    obtain ⟨t, ht, h2⟩ := (vWide_one hm _ _).1 h1
    exact (vWide_one hm _ _).2 ⟨t, hto t ht, h2⟩
theorem cov_unseen (hm : mayB p.m = true) {u : List Int} {x z : PlO} (hx : atU p o x0 u x) {e : Int} (h0 : 0 ≤ e) (h1 : e < p.m.ev) (h2 : e ∉ p.seen) (hz : onO p o x e = some z) : atU p o x0 u z := atU_step hx h0 h1 h2 hz
/-- There is a veil. -/
theorem cov_there (hm : mayB p.m = true) (hpl : PlainP p) (hfr : ∀ e ∈ free, e ∈ p.seen) (hK : KeepA p free o x0) (hse : ∀ e ∈ p.seen, 0 ≤ e ∧ e < p.m.ev) {g : List Int → Bool} (hg : TellsG p free g) (h0 : p.m.starts = [x0.1]) : ∃ v, makeV p g free = some v := by
  have hr := first_row hm hpl hfr hK h0
  have hi := est_in hm []
  have hg1 : g (estL p []) = true := (hg _ hi.1 hi.2).2 (row_good hm hpl hfr hK hse (by simp) hi.2 hr)
  have hne : 0 < (estL p []).length := List.length_pos_of_mem ((hr x0.1).2 ⟨x0, un_start rfl, rfl⟩)
  unfold makeV
  rw [hg1, if_neg (by simp; intro hc; rw [hc] at hne; simp at hne)]
  exact ⟨_, rfl⟩
theorem cov_first (hm : mayB p.m = true) (hpl : PlainP p) (hfr : ∀ e ∈ free, e ∈ p.seen) (hK : KeepA p free o x0) (h0 : p.m.starts = [x0.1]) {g : List Int → Bool} {v : VS} {n : Nat} (h : VI p g free n 0 v) : ∃ node, v.1[0]? = some node ∧ ∀ y, atU p o x0 [] y → y.1 ∈ node :=
  ⟨_, h.hd, fun y hy => (first_row hm hpl hfr hK h0 y.1).2 ⟨y, hy, rfl⟩⟩
end

end Go.Proofs.YtkodmnooibpflaaDoor
namespace Go.Proofs.YtkodmnooibpflaaDoor
open Go.RowKit
set_option linter.unusedVariables false
set_option linter.unusedSectionVars false

def nxO (p : Plant) (o : Mach) (x : PlO) : List PlO := (rngI p.m.ev.toNat).filterMap fun e => if hasB p.seen e = true then none else onO p o x e
def widO (p : Plant) (o : Mach) (l : List PlO) : List PlO := cGo (nxO p o) (0, []) 1000 0 l
def stpO (p : Plant) (o : Mach) (l : List PlO) (e : Int) : List PlO := cRow [] (l.filterMap fun x => onO p o x e)
def seeO (p : Plant) (o : Mach) (l : List PlO) (e : Int) : List PlO := widO p o (stpO p o l e)
def sameO (a b : List PlO) : Bool := decide (a.length = b.length) && a.all fun x => decide (x ∈ b)
def knownO (l : List (List PlO)) (n : List PlO) : Bool := l.any fun x => sameO x n
def setStep (p : Plant) (o : Mach) (L : List PlO) (l : List (List PlO)) (e : Int) : List (List PlO) := if knownO l (seeO p o L e) = true then l else l ++ [seeO p o L e]
def setRow (p : Plant) (o : Mach) (L : List PlO) (l : List (List PlO)) (k : Nat) : List (List PlO) := (p.seen.take k).foldl (setStep p o L) l
theorem setRow_succ {p : Plant} {o : Mach} {L : List PlO} {l : List (List PlO)} {k : Nat} {e : Int} (h : p.seen[k]? = some e) : setRow p o L l (k + 1) = setStep p o L (setRow p o L l k) e := by
  unfold setRow
  rw [List.take_add_one, h, Option.toList_some, List.foldl_append]; rfl
def setGo (p : Plant) (o : Mach) : Nat → Nat → List (List PlO) → Option (List (List PlO))
  | 0, _, _ => none
  | f + 1, k, l => match l[k]? with
    | none => some l
    | some L => if 600 < l.length then none else setGo p o f (k + 1) (setRow p o L l p.seen.length)
def setsO (p : Plant) (o : Mach) (x0 : PlO) : Option (List (List PlO)) := setGo p o 602 0 [widO p o [x0]]
def okO (p : Plant) (free : List Int) (o : Mach) (x : PlO) (e : Int) : Bool := !(decide ((stepL p.m.arrows [x.1] e).length = 1) && ((onO p o x e).isNone && !hasB free e))
def holdsO (p : Plant) (free : List Int) (o : Mach) (L : List PlO) : Bool := (L.all fun x => (rngI p.m.ev.toNat).all (okO p free o x)) && ((L.any fun x => !hasB p.secret x.1) || decide (L.length = 0))
def keepsO (p : Plant) (free : List Int) (o : Mach) (x0 : PlO) : Bool := match setsO p o x0 with
  | none => false
  | some l => l.all (holdsO p free o)
/-- All places. -/
def allO (p : Plant) : List PlO := (rngI p.m.st.toNat).flatMap fun x => (subs 6).map fun S => (x, S)
theorem allO_len {p : Plant} (z : p.m.st ≤ 6) : (allO p).length ≤ 384 := by
  unfold allO
  rw [List.length_flatMap]
  have : ((rngI p.m.st.toNat).map fun x => ((subs 6).map fun S => (x, S)).length) = (rngI p.m.st.toNat).map fun _ => 64 := by
    refine List.map_congr_left fun x _ => ?_
    rw [List.length_map, subs_len]
  rw [this, List.map_const', List.sum_replicate_nat]
  have h1 : (rngI p.m.st.toNat).length ≤ 6 := by simp [rngI]; omega
  exact Nat.mul_le_mul h1 (Nat.le_refl 64)
/-- A place that may be. -/
def OkP (p : Plant) (o : Mach) (x : PlO) : Prop := (0 ≤ x.1 ∧ x.1 < p.m.st) ∧ Inc x.2 ∧ ∀ y ∈ x.2, 0 ≤ y ∧ y < o.st
theorem mem_allO {p : Plant} {o : Mach} (z : o.st ≤ 6) {x : PlO} (h : OkP p o x) : x ∈ allO p := by
  unfold allO
  rw [List.mem_flatMap]
  refine ⟨x.1, ?_, List.mem_map.2 ⟨x.2, mem_subs 6 _ h.2.1 (fun y hy => by have := h.2.2 y hy; omega), rfl⟩⟩
  unfold rngI
  exact List.mem_map.2 ⟨x.1.toNat, List.mem_range.2 (by have := h.1; omega), by have := h.1; omega⟩
section
variable {p : Plant} {o : Mach}
theorem onO_ok (hm : mayB p.m = true) (ho : mayB o = true) {x y : PlO} {e : Int} (h : onO p o x e = some y) : OkP p o y := by
  unfold onO at h
  split at h
  · rename_i hc
    have := Option.some.inj h
    subst this
    exact ⟨step_bd hm _ (ss := [x.1]) (e := e) (by
      show (stepL p.m.arrows [x.1] e)[0]?.getD 0 ∈ _
      rw [List.getElem?_eq_getElem (by omega), Option.getD_some]
      exact List.getElem_mem _), inc_srt _, step_bd ho⟩
  · cases h
theorem mem_nxO (hm : mayB p.m = true) (x y : PlO) : y ∈ nxO p o x ↔ ∃ e, (0 ≤ e ∧ e < p.m.ev) ∧ e ∉ p.seen ∧ onO p o x e = some y := by
  have hz := mayB_size hm
  unfold sizeOk at hz
  unfold nxO
  rw [List.mem_filterMap]
  constructor
  · rintro ⟨e, he, h⟩
    unfold rngI at he
    obtain ⟨k, hk, rfl⟩ := List.mem_map.1 he
    have := List.mem_range.1 hk
    split at h
    · cases h
    · rename_i hn
      exact ⟨(k : Int), by omega, fun hc => hn ((hasB_iff _ _).2 hc), h⟩
  · rintro ⟨e, he, hn, h⟩
    refine ⟨e, ?_, ?_⟩
    · unfold rngI
      exact List.mem_map.2 ⟨e.toNat, List.mem_range.2 (by omega), by omega⟩
    · rw [if_neg (fun hc => hn ((hasB_iff _ _).1 hc))]; exact h
theorem widO_spec (hm : mayB p.m = true) (ho : mayB o = true) (z6 : p.m.st ≤ 6) (zo : o.st ≤ 6) {l : List PlO} (hn : l.Nodup) (hl : ∀ x ∈ l, OkP p o x) : (widO p o l).Nodup ∧ (∀ x ∈ widO p o l, OkP p o x) ∧ ∀ x, x ∈ widO p o l ↔ UnO p o (· ∈ l) x := by
  have hU : ∀ y ∈ allO p, ∀ x ∈ nxO p o y, x ∈ allO p := fun y _ x hx => by
    obtain ⟨e, -, -, h⟩ := (mem_nxO hm _ _).1 hx
    exact mem_allO zo (onO_ok hm ho h)
  have hlen : (allO p).length < 1000 := by have := allO_len z6; omega
  have h := cGo_start (nxO p o) (d := (0, [])) hU hn (fun x hx => mem_allO zo (hl x hx)) hlen (fun x => OkP p o x ∧ UnO p o (· ∈ l) x) (fun y hy x hx => by
    obtain ⟨e, he, hs, hq⟩ := (mem_nxO hm _ _).1 hx
    exact ⟨onO_ok hm ho hq, un_step hy.2 he.1 he.2 hs hq⟩) (fun x hx => ⟨hl x hx, un_start hx⟩)
  refine ⟨h.1, fun x hx => (h.2.1 x hx).2.1, fun x => ⟨fun hx => (h.2.1 x hx).2.2, fun hx => ?_⟩⟩
  exact hx (· ∈ widO p o l) (fun y hy => h.2.2.2 y hy) (fun y e q hy h0 h1 h2 hq => h.2.2.1 y hy q ((mem_nxO hm _ _).2 ⟨e, ⟨h0, h1⟩, h2, hq⟩))
theorem stpO_spec (hm : mayB p.m = true) (ho : mayB o = true) (l : List PlO) (e : Int) : (stpO p o l e).Nodup ∧ (∀ x ∈ stpO p o l e, OkP p o x) ∧ ∀ x, x ∈ stpO p o l e ↔ ∃ y ∈ l, onO p o y e = some x := by
  have hmem : ∀ x, x ∈ stpO p o l e ↔ ∃ y ∈ l, onO p o y e = some x := fun x => by
    unfold stpO
    rw [mem_cRow, List.mem_filterMap]; simp
  refine ⟨nodup_cRow _ List.nodup_nil, fun x hx => ?_, hmem⟩
  obtain ⟨y, -, hy⟩ := (hmem x).1 hx
  exact onO_ok hm ho hy
theorem seeO_spec (hm : mayB p.m = true) (ho : mayB o = true) (z6 : p.m.st ≤ 6) (zo : o.st ≤ 6) (l : List PlO) (e : Int) : (seeO p o l e).Nodup ∧ (∀ x ∈ seeO p o l e, OkP p o x) ∧ ∀ x, x ∈ seeO p o l e ↔ UnO p o (fun q => ∃ y ∈ l, onO p o y e = some q) x := by
  have h1 := stpO_spec hm ho (p := p) (o := o) l e
  have h2 := widO_spec hm ho z6 zo h1.1 h1.2.1
  refine ⟨h2.1, h2.2.1, fun x => ?_⟩
  unfold seeO
  rw [h2.2.2]
  constructor
  · exact fun h P q1 q2 => h P (fun y hy => q1 y ((h1.2.2 y).1 hy)) q2
  · exact fun h P q1 q2 => h P (fun y hy => q1 y ((h1.2.2 y).2 hy)) q2
theorem sameO_iff {a b : List PlO} (ha : a.Nodup) (hb : b.Nodup) : sameO a b = true ↔ ∀ x, x ∈ a ↔ x ∈ b := by
  unfold sameO
  rw [Bool.and_eq_true, decide_eq_true_eq, List.all_eq_true, ← same_sets ha hb]
  refine and_congr_right fun _ => forall_congr' fun x => imp_congr_right fun _ => by simp
/-- What holds of the sets found, when those below k, and of k the first i events, have been gone through. -/
structure SO (p : Plant) (o : Mach) (x0 : PlO) (k i : Nat) (l : List (List PlO)) : Prop where
  ok : ∀ L ∈ l, L.Nodup ∧ ∀ x ∈ L, OkP p o x
  hd : l[0]? = some (widO p o [x0])
  dn : ∀ (j n : Nat) (L : List PlO) (e : Int), (j < k ∨ (j = k ∧ n < i)) → l[j]? = some L → p.seen[n]? = some e → ∃ L' ∈ l, ∀ x, x ∈ L' ↔ x ∈ seeO p o L e
theorem ok_one {x0 : PlO} (h0 : OkP p o x0) : ∀ x ∈ [x0], OkP p o x := fun x hx => by
  have : x = x0 := by simpa using hx
  rw [this]; exact h0
theorem so_start (hm : mayB p.m = true) (ho : mayB o = true) (z6 : p.m.st ≤ 6) (zo : o.st ≤ 6) {x0 : PlO} (h0 : OkP p o x0) : SO p o x0 0 0 [widO p o [x0]] := by
  have h := widO_spec hm ho z6 zo (l := [x0]) (by simp) (ok_one h0)
  refine ⟨fun L hL => ?_, rfl, fun j n L e hd => by omega⟩
  have : L = widO p o [x0] := by simpa using hL
  subst this; exact ⟨h.1, h.2.1⟩
theorem so_step (hm : mayB p.m = true) (ho : mayB o = true) (z6 : p.m.st ≤ 6) (zo : o.st ≤ 6) {x0 : PlO} {k i : Nat} {l : List (List PlO)} (h : SO p o x0 k i l) {L : List PlO} (hL : l[k]? = some L) {e : Int} (he : p.seen[i]? = some e) : SO p o x0 k (i + 1) (setStep p o L l e) := by
  have hs := seeO_spec hm ho z6 zo L e
  have hold : ∀ (j n : Nat), (j < k ∨ (j = k ∧ n < i + 1)) → (j < k ∨ (j = k ∧ n < i)) ∨ (j = k ∧ n = i) := by omega
  unfold setStep
  by_cases hk : knownO l (seeO p o L e) = true
  · rw [if_pos hk]
    refine ⟨h.ok, h.hd, fun j n L' e' hd hj hn => ?_⟩
    rcases hold j n hd with h1 | ⟨rfl, rfl⟩
    · exact h.dn j n L' e' h1 hj hn
    · rw [hL] at hj
      rw [he] at hn
      cases hj; cases hn
      unfold knownO at hk
      rw [List.any_eq_true] at hk
      obtain ⟨L', h1, h2⟩ := hk
      exact ⟨L', h1, (sameO_iff (h.ok L' h1).1 hs.1).1 h2⟩
  · rw [if_neg hk]
    have dw : ∀ {j : Nat} {q : List PlO}, (l ++ [seeO p o L e])[j]? = some q → j < l.length → l[j]? = some q := fun {j q} hq hj => by
      rw [List.getElem?_append_left hj] at hq; exact hq
    have hkl := (List.getElem?_eq_some_iff.1 hL).1
    refine ⟨fun L' hL' => ?_, ?_, fun j n L' e' hd hj hn => ?_⟩
    · rcases List.mem_append.1 hL' with hL' | hL'
      · exact h.ok L' hL'
      · have : L' = seeO p o L e := by simpa using hL'
        subst this; exact ⟨hs.1, hs.2.1⟩
    · rw [List.getElem?_append_left (by omega)]; exact h.hd
    · have hj' := dw hj (by omega)
      rcases hold j n hd with h1 | ⟨rfl, rfl⟩
      · obtain ⟨L2, q1, q2⟩ := h.dn j n L' e' h1 hj' hn
        exact ⟨L2, List.mem_append_left _ q1, q2⟩
      · rw [hL] at hj'
        rw [he] at hn
        cases hj'; cases hn
        exact ⟨_, List.mem_append_right _ (List.mem_singleton.2 rfl), fun x => Iff.rfl⟩
theorem setStep_pre (L : List PlO) (l : List (List PlO)) (e : Int) : ∃ t, setStep p o L l e = l ++ t := by
  unfold setStep
  split
  · exact ⟨[], by simp⟩
  · exact ⟨_, rfl⟩
theorem so_row (hm : mayB p.m = true) (ho : mayB o = true) (z6 : p.m.st ≤ 6) (zo : o.st ≤ 6) {x0 : PlO} {k : Nat} {l : List (List PlO)} (h : SO p o x0 k 0 l) {L : List PlO} (hL : l[k]? = some L) : ∀ i, i ≤ p.seen.length → SO p o x0 k i (setRow p o L l i) ∧ (setRow p o L l i)[k]? = some L
  | 0, _ => ⟨h, hL⟩
  | i + 1, hi => by
    have ih := so_row hm ho z6 zo h hL i (by omega)
    obtain ⟨e, he⟩ : ∃ e, p.seen[i]? = some e := ⟨_, List.getElem?_eq_getElem (by omega)⟩
    rw [setRow_succ he]
    refine ⟨so_step hm ho z6 zo ih.1 ih.2 he, ?_⟩
    obtain ⟨t, ht⟩ := setStep_pre (p := p) (o := o) L (setRow p o L l i) e
    rw [ht, List.getElem?_append_left (List.getElem?_eq_some_iff.1 ih.2).1]
    exact ih.2
theorem so_go (hm : mayB p.m = true) (ho : mayB o = true) (z6 : p.m.st ≤ 6) (zo : o.st ≤ 6) {x0 : PlO} : ∀ (f k : Nat) (l l' : List (List PlO)), SO p o x0 k 0 l → k ≤ l.length → setGo p o f k l = some l' → SO p o x0 l'.length 0 l'
  | 0, k, l, l', h, hk, e => by cases e
  | f + 1, k, l, l', h, hk, e => by
    rw [setGo] at e
    cases hx : l[k]? with
    | none =>
      rw [hx] at e
      have := Option.some.inj e
      subst this
      have hkl : k = l.length := by have := List.getElem?_eq_none_iff.1 hx; omega
      rw [← hkl]; exact h
    | some L =>
      rw [hx] at e
      dsimp only at e
      split at e
      · cases e
      · have h2 := so_row hm ho z6 zo h hx p.seen.length (Nat.le_refl _)
        refine so_go hm ho z6 zo f (k + 1) _ l' ⟨h2.1.ok, h2.1.hd, fun j n L' e' hd hj hn => h2.1.dn j n L' e' ?_ hj hn⟩ ?_ e
        · have := (List.getElem?_eq_some_iff.1 hn).1
          omega
        · have := (List.getElem?_eq_some_iff.1 h2.2).1
          omega
/-- Each list's set is there. -/
theorem so_all (hm : mayB p.m = true) (ho : mayB o = true) (z6 : p.m.st ≤ 6) (zo : o.st ≤ 6) {x0 : PlO} (h0 : OkP p o x0) {l : List (List PlO)} (h : SO p o x0 l.length 0 l) : ∀ u : List Int, (∀ e ∈ u, e ∈ p.seen) → ∃ L ∈ l, ∀ x, x ∈ L ↔ atU p o x0 u x
  | [], _ => by
    refine ⟨_, List.mem_of_getElem? h.hd, fun x => ?_⟩
    rw [(widO_spec hm ho z6 zo (l := [x0]) (by simp) (ok_one h0)).2.2]
    unfold atU
    constructor
    · exact fun h P q1 q2 => h P (fun y hy => q1 y (by simpa using hy)) q2
    · exact fun h P q1 q2 => h P (fun y hy => q1 y (by simpa using hy)) q2
  | e :: r, hu => by
    obtain ⟨L, hL, h1⟩ := so_all hm ho z6 zo h0 h r (fun c hc => hu c (by simp [hc]))
    obtain ⟨j, hj⟩ := List.mem_iff_getElem?.1 hL
    obtain ⟨n, hn⟩ := List.mem_iff_getElem?.1 (hu e (by simp))
    obtain ⟨L', q1, q2⟩ := h.dn j n L e (.inl (List.getElem?_eq_some_iff.1 hj).1) hj hn
    refine ⟨L', q1, fun x => ?_⟩
    rw [q2, (seeO_spec hm ho z6 zo L e).2.2]
    unfold atU
    constructor
    · exact fun h P k1 k2 => h P (fun y hy => by
        obtain ⟨q, hq, hy⟩ := hy
        exact k1 y ⟨q, (h1 q).1 hq, hy⟩) k2
    · exact fun h P k1 k2 => h P (fun y hy => by
        obtain ⟨q, hq, hy⟩ := hy
        exact k1 y ⟨q, (h1 q).2 hq, hy⟩) k2
theorem holds_keep (hm : mayB p.m = true) {free : List Int} {L : List PlO} {X : PlO → Prop} (h : holdsO p free o L = true) (hX : ∀ x, x ∈ L ↔ X x) : KeepO p free X o := by
  have hz := mayB_size hm
  unfold sizeOk at hz
  unfold holdsO at h
  rw [Bool.and_eq_true, List.all_eq_true, Bool.or_eq_true, List.any_eq_true, decide_eq_true_eq] at h
  refine ⟨fun hx => ?_, fun x hx e h0 h1 hl hno => ?_⟩
  · obtain ⟨x, hx⟩ := hx
    rcases h.2 with ⟨y, hy, h3⟩ | h3
    · exact ⟨y, (hX y).1 hy, by unfold hasB at h3; simpa using h3⟩
    · have := List.length_pos_of_mem ((hX x).2 hx)
      omega
  · have h2 := h.1 x ((hX x).2 hx)
    rw [List.all_eq_true] at h2
    have h3 := h2 e (by
      unfold rngI
      exact List.mem_map.2 ⟨e.toNat, List.mem_range.2 (by omega), by omega⟩)
    unfold okO at h3
    rw [hl, hno] at h3
    have h4 : hasB free e = true := by simpa using h3
    exact (hasB_iff _ _).1 h4
theorem keeps_all (hm : mayB p.m = true) (ho : mayB o = true) (z6 : p.m.st ≤ 6) (zo : o.st ≤ 6) {free : List Int} {x0 : PlO} (h0 : OkP p o x0) (h : keepsO p free o x0 = true) : KeepA p free o x0 := by
  unfold keepsO at h
  cases hs : setsO p o x0 with
  | none => rw [hs] at h; cases h
  | some l =>
    rw [hs] at h
    dsimp only at h
    rw [List.all_eq_true] at h
    have hso := so_go hm ho z6 zo 602 0 _ l (so_start hm ho z6 zo h0) (Nat.zero_le _) hs
    intro u hu
    obtain ⟨L, hL, h1⟩ := so_all hm ho z6 zo h0 hso u hu
    exact holds_keep hm (h L hL) h1
end

end Go.Proofs.YtkodmnooibpflaaDoor
namespace Go.Proofs.YtkodmnooibpflaaDoor
open Go.RowKit
set_option linter.unusedVariables false

theorem Tryd.infoAtQ : (Tryd.prog.info? 135).map (fun i => (i.zero, i.size, i.bytes)) = some (some (.agg #[.int .i64 0, .slice none 0 0]), 2, 32) := by kernel_rfl

theorem cells_duoQ (W W' : World) (hW : W'.heap = W.heap) (t : TypeId) (x y : Value) : ∀ j u, ([x, y] : List Value)[j]? = some u → (W'.alloc (.cells #[x, y] t)).cell? ((⟨W.heap.size, 0, none⟩ : Addr).add j) = some u := by
  intro j u hu
  rw [addr0_add, Nat.zero_add, ← hW]
  exact (Blk.new W' t #[x, y]).cell j (by rw [← Array.getElem?_toList]; exact hu)
/-- Whereabouts in memory, in a block of theirs. -/
def AtQ (n : Nat) (W : World) (a : Option Addr) (l : List PlO) : Prop := l = [] ∨ ∃ g o, a = some ⟨g, o, none⟩ ∧ (∃ cs, W.heap[g]? = some (.cells cs 135 (0, 0))) ∧ ∀ (k : Nat) (x : PlO), l[k]? = some x → W.cell? ⟨g, o + k * 2, none⟩ = some (.int .i64 x.1) ∧ ∃ z, W.cell? ⟨g, o + k * 2 + 1, none⟩ = some z ∧ InnW n W z x.2
theorem AtQ.kept {n : Nat} {W W' : World} {a : Option Addr} {l : List PlO} (h : AtQ n W a l) (hz : W.heap.size ≤ W'.heap.size) (h1 : ∀ j, j < n → W'.heap[j]? = W.heap[j]?) (h2 : ∀ (g : Nat) (cs : Array Value), W.heap[g]? = some (.cells cs 3 (0, 0)) → W'.heap[g]? = W.heap[g]?) (h3 : ∀ (g : Nat) (cs : Array Value), W.heap[g]? = some (.cells cs 135 (0, 0)) → W'.heap[g]? = W.heap[g]?) : AtQ n W' a l := by
  rcases h with h | ⟨g, o, e, ⟨cs, hg⟩, hc⟩
  · exact .inl h
  · have hb := h3 g cs hg
    refine .inr ⟨g, o, e, ⟨cs, hb.trans hg⟩, fun k x hx => ?_⟩
    obtain ⟨c1, z, c2, hi⟩ := hc k x hx
    refine ⟨?_, z, ?_, hi.kept hz h1 h2⟩
    · rw [World.cell?_of_block (w := W) hb]; exact c1
    · rw [World.cell?_of_block (w := W) hb]; exact c2
theorem AtQ.below {n : Nat} {W W' : World} {a : Option Addr} {l : List PlO} (h : AtQ n W a l) (hb : Below W.heap.size W W') (hn : n ≤ W.heap.size) : AtQ n W' a l :=
  h.kept hb.size (fun j hj => hb.block j (by omega)) (fun g cs hg => hb.block g (Array.getElem?_eq_some_iff.1 hg).1) (fun g cs hg => hb.block g (Array.getElem?_eq_some_iff.1 hg).1)
/-- What the cells hold. -/
theorem AtQ.get {n : Nat} {W : World} {a : Option Addr} {l : List PlO} (h : AtQ n W a l) {k : Nat} {x : PlO} (hx : l[k]? = some x) : ∃ g o sa sc, a = some ⟨g, o, none⟩ ∧ g < W.heap.size ∧ W.cell? ⟨g, o + k * 2, none⟩ = some (.int .i64 x.1) ∧ W.cell? ⟨g, o + k * 2 + 1, none⟩ = some (.slice sa x.2.length sc) ∧ At W sa x.2 ∧ x.2.length ≤ maxLen ∧ InnW n W (.slice sa x.2.length sc) x.2 := by
  rcases h with h | ⟨g, o, e, ⟨cs, hg⟩, hc⟩
  · rw [h] at hx; simp at hx
  · obtain ⟨c1, z, c2, hi⟩ := hc k x hx
    obtain ⟨sa, sc, rfl, i1, i2, -⟩ := hi.at
    exact ⟨g, o, sa, sc, e, (Array.getElem?_eq_some_iff.1 hg).1, c1, c2, i1, i2, hi⟩
/-- Whereabouts of the call's own, in a row from block B on. -/
def OwnQ (n : Nat) (W : World) (B : Nat) (v : Value) (l : List PlO) : Prop := ∃ vs : List Value, W.ownsRow B 135 2 v l.length vs ∧ ∀ (k : Nat) (x : PlO), l[k]? = some x → vs[k * 2]? = some (.int .i64 x.1) ∧ ∃ z, vs[k * 2 + 1]? = some z ∧ InnW n W z x.2
theorem ownQ_nil (n : Nat) (W : World) (B : Nat) : OwnQ n W B (.slice none 0 0) [] := ⟨[], ⟨rfl, .inl ⟨rfl, rfl⟩⟩, fun k x h => by simp at h⟩
theorem OwnQ.at {n : Nat} {W : World} {B : Nat} {v : Value} {l : List PlO} (h : OwnQ n W B v l) : ∃ a cap, v = .slice a l.length cap ∧ AtQ n W a l ∧ l.length ≤ maxLen := by
  obtain ⟨vs, ho, hi⟩ := h
  rcases ho.2 with ⟨rfl, hn⟩ | ⟨g, cap, cur, rfl, hg, hh, hnc, hcm, hcs, ht⟩
  · have : l = [] := List.eq_nil_of_length_eq_zero hn
    subst this
    exact ⟨none, 0, rfl, .inl rfl, Nat.zero_le _⟩
  · refine ⟨some ⟨g, 0, none⟩, cap, rfl, .inr ⟨g, 0, rfl, ⟨cur, hh⟩, fun k x hx => ?_⟩, Nat.le_trans hnc hcm⟩
    obtain ⟨c1, z, c2, hz⟩ := hi k x hx
    have d1 := ho.cells (g := g) rfl _ _ c1
    have d2 := ho.cells (g := g) rfl _ _ c2
    rw [addr0_add] at d1 d2
    exact ⟨d1, z, d2, hz⟩
theorem OwnQ.form {n : Nat} {W : World} {B : Nat} {v : Value} {l : List PlO} (h : OwnQ n W B v l) : ∃ a cap, v = .slice a l.length cap := by
  obtain ⟨a, cap, e, -, -⟩ := h.at
  exact ⟨a, cap, e⟩
theorem OwnQ.kept {n : Nat} {W W' : World} {B : Nat} {v : Value} {l : List PlO} (h : OwnQ n W B v l) (hz : W.heap.size ≤ W'.heap.size) (h1 : ∀ j, j < n → W'.heap[j]? = W.heap[j]?) (h2 : ∀ (g : Nat) (cs : Array Value), W.heap[g]? = some (.cells cs 3 (0, 0)) → W'.heap[g]? = W.heap[g]?) (h3 : ∀ (g : Nat) (cs : Array Value), W.heap[g]? = some (.cells cs 135 (0, 0)) → W'.heap[g]? = W.heap[g]?) : OwnQ n W' B v l := by
  obtain ⟨vs, ho, hi⟩ := h
  refine ⟨vs, own_same ho (fun k hk => ?_), fun k x hx => ?_⟩
  · obtain ⟨cs, hc⟩ := own_type ho hk
    exact h3 k cs hc
  · obtain ⟨c1, z, c2, hz'⟩ := hi k x hx
    exact ⟨c1, z, c2, hz'.kept hz h1 h2⟩
theorem OwnQ.below {n : Nat} {W W' : World} {B : Nat} {v : Value} {l : List PlO} (h : OwnQ n W B v l) (hb : Below W.heap.size W W') (hn : n ≤ W.heap.size) : OwnQ n W' B v l :=
  h.kept hb.size (fun j hj => hb.block j (by omega)) (fun g cs hg => hb.block g (Array.getElem?_eq_some_iff.1 hg).1) (fun g cs hg => hb.block g (Array.getElem?_eq_some_iff.1 hg).1)
/-- One more. -/
theorem OwnQ.push {n : Nat} {W W2 : World} {B : Nat} {v v' z : Value} {l : List PlO} {x : PlO} {vs : List Value} (hn : n ≤ B) (hB : B ≤ W.heap.size) (ho : W.ownsRow B 135 2 v l.length vs) (hi : ∀ (k : Nat) (x : PlO), l[k]? = some x → vs[k * 2]? = some (.int .i64 x.1) ∧ ∃ z, vs[k * 2 + 1]? = some z ∧ InnW n W z x.2) (hz : InnW n W z x.2) (o1 : W2.ownsRow B 135 2 v' (l.length + 1) (vs ++ [.int .i64 x.1, z])) (g : W.grownBy W2 v.ownBlock) : OwnQ n W2 B v' (l ++ [x]) := by
  have low : ∀ j, j < n → W2.heap[j]? = W.heap[j]? := fun j hj => g.block j (by omega) (fun e => by have := (World.ownsRow.lt ho j e.symm).1; omega)
  have hty : ∀ (q : Nat) (cs : Array Value), W.heap[q]? = some (.cells cs 3 (0, 0)) → W2.heap[q]? = W.heap[q]? := fun q cs hq => g.block q (Array.getElem?_eq_some_iff.1 hq).1 (fun e => by
    obtain ⟨c2, h2⟩ := own_type ho e.symm
    rw [hq] at h2; cases h2)
  have hl : vs.length = l.length * 2 := ho.1
  refine ⟨vs ++ [.int .i64 x.1, z], by rw [List.length_append]; exact o1, fun k y hy => ?_⟩
  by_cases hk : k < l.length
  · rw [List.getElem?_append_left hk] at hy
    obtain ⟨c1, u, c2, hu⟩ := hi k y hy
    exact ⟨by rw [List.getElem?_append_left (by omega)]; exact c1, u, by rw [List.getElem?_append_left (by omega)]; exact c2, hu.kept g.size low hty⟩
  · have hk' := (List.getElem?_eq_some_iff.1 hy).1
    simp at hk'
    have e : k = l.length := by omega
    subst e
    rw [List.getElem?_append_right (Nat.le_refl _)] at hy
    have : x = y := by simpa using hy
    subst this
    refine ⟨?_, z, ?_, hz.kept g.size low hty⟩
    · rw [List.getElem?_append_right (by omega), hl, Nat.sub_self]; rfl
    · rw [List.getElem?_append_right (by omega), hl]
      have : l.length * 2 + 1 - l.length * 2 = 1 := by omega
      rw [this]; rfl
theorem one_vals {n : Nat} {W : World} {z : Value} {x : PlO} (hz : InnW n W z x.2) : ∀ u ∈ ([.int .i64 x.1, z] : List Value), u.oneCell' = true := fun u hu => by
  rcases List.mem_cons.1 hu with rfl | hu
  · rfl
  · rw [List.mem_singleton.1 hu]; exact hz.one

end Go.Proofs.YtkodmnooibpflaaDoor
namespace Go.Proofs.YtkodmnooibpflaaDoor
open Go.RowKit
set_option linter.unusedVariables false

/-- Is a place among some? -/
def memQ (l : List PlO) (x : PlO) : Bool := decide (x ∈ l)
/-- None of the first k is. -/
def noneQ (l : List PlO) (k : Nat) (x : PlO) : Prop := ∀ (j : Nat) (y : PlO), j < k → l[j]? = some y → y ≠ x
theorem memQ_hit {l : List PlO} {k : Nat} {y x : PlO} (h : Hid (l[k]? = some y)) (e : Hid (y = x)) : true = memQ l x := (decide_eq_true (by rw [← e.out]; exact List.mem_of_getElem? h.out)).symm
theorem noneQ_succ {l : List PlO} {k : Nat} {y x : PlO} (h0 : Hid (noneQ l k x)) (h : Hid (l[k]? = some y)) (h1 : Hid (y ≠ x)) : Hid (noneQ l (k + 1) x) := fun j q hj hq => by
  by_cases e : j < k
  · exact h0.out j q e hq
  · have : j = k := by omega
    subst this
    rw [h.out] at hq
    have := Option.some.inj hq
    subst this
    exact h1.out
theorem noneQ_end {l : List PlO} {k : Nat} {x : PlO} (h0 : Hid (noneQ l k x)) (h : ¬ k < l.length) : false = memQ l x := by
  symm
  refine decide_eq_false (fun hx => ?_)
  obtain ⟨i, hi⟩ := List.mem_iff_getElem?.1 hx
  exact h0.out i x (Nat.lt_of_lt_of_le (List.getElem?_eq_some_iff.1 hi).1 (by omega)) hi rfl

set_option maxRecDepth 100000 in
set_option maxHeartbeats 4000000 in
theorem rqhas_any (n : Nat) (a : Option Addr) (c : Nat) (l : List PlO) (xm : Int) (xs : List Int) (xa : Option Addr) (xc : Nat) (w : World) (hl : Hid (AtQ n w a l)) (hll : l.length ≤ 9223372036854775807) (hx : Hid (At w xa xs)) (hxl : Hid (xs.length ≤ maxLen)) :
    Calls Tryd.prog 123 #[.slice a l.length c, .agg #[.int .i64 xm, .slice xa xs.length xc]] w fun e w' => e = .returned (.bool (memQ l (xm, xs))) ∧ Below w.heap.size w w' := by
  have B0 : Hid (Below w.heap.size w (w.alloc (.cells #[.int .i64 xm, .slice xa xs.length xc] 135))) := (Below.refl _ _).alloc (Nat.le_refl _) _
  have K0 : Hid (Blk (w.alloc (.cells #[.int .i64 xm, .slice xa xs.length xc] 135)) w.heap.size 135 #[.int .i64 xm, .slice xa xs.length xc]) := Blk.new w _ _
  go_enter Tryd.func123, Tryd.ntmps123
  go_wp2_with fail
  revert B0 K0
  generalize w.alloc (.cells #[.int .i64 xm, .slice xa xs.length xc] 135) = V
  intro B0 K0
  go_loopw [5] (fun i wr => ∃ k q : Nat, i = .int .i64 k ∧ k ≤ l.length ∧ wr = V.drewN q ∧ Hid (noneQ l k (xm, xs))) (fun i _ => l.length - (intOf i).toNat)
  case atStart => exact ⟨0, 0, rfl, Nat.zero_le _, rfl, fun j p hj => by omega⟩
  case round =>
    obtain ⟨k, q, rfl, hk, rfl, he⟩ := hrel
    by_cases hlt : k < l.length
    · obtain ⟨⟨ym, ys⟩, HY⟩ : ∃ y, Hid (l[k]? = some y) := ⟨_, List.getElem?_eq_getElem hlt⟩
      obtain ⟨g, o, sa, sc, hga, hg, c1, c2, a1, l1, -⟩ := hl.out.get HY.out
      dsimp only at c1 c2 a1 l1
      subst hga
      have A1 := Hid.of (a1.below B0.out (Nat.le_refl _))
      have L1 := Hid.of l1
      have A2 := Hid.of (hx.out.below B0.out (Nat.le_refl _))
      obtain ⟨U, HU⟩ : ∃ U, Hid (U = V.drewN q) := ⟨_, rfl⟩
      have d1 : U.cell? ⟨g, o + k * 2, none⟩ = some (.int .i64 ym) := by rw [HU.out]; exact (B0.out.cell (p := ⟨g, o + k * 2, none⟩) hg).trans c1
      have d2 : U.cell? ⟨g, o + k * 2 + 1, none⟩ = some (.slice sa ys.length sc) := by rw [HU.out]; exact (B0.out.cell (p := ⟨g, o + k * 2 + 1, none⟩) hg).trans c2
      have b0 : U.cell? ⟨w.heap.size, 0, none⟩ = some (.int .i64 xm) := by rw [HU.out]; exact K0.out.cell 0 rfl
      have b1 : U.cell? ⟨w.heap.size, 1, none⟩ = some (.slice xa xs.length xc) := by rw [HU.out]; exact K0.out.cell 1 rfl
      have KEY : Hid (∀ r, Calls Tryd.prog 19 #[.slice sa ys.length sc, .slice xa xs.length xc] (U.drewN r) fun e w' => e = .returned (.bool (sameB ys xs)) ∧ ∃ m, w' = (U.drewN r).drewN m) := fun r => by
        rw [HU.out]
        exact same_any sa xa sc xc ys xs _ (At.drewN (At.drewN A1.out q) r) (At.drewN (At.drewN A2.out q) r) L1.out hxl.out
      rw [← HU.out]
      clear c1 c2 a1 l1 hg A1 A2 L1
      go_wp2_with fail
      by_cases e1 : ym = xm
      · have g1 : (ym == xm) = true := by simp [e1]
        have E1 := Hid.of e1
        clear e1
        cases e2 : sameB ys xs with
        | true =>
          have E2 : Hid (((ym, ys) : PlO) = (xm, xs)) := by
            have : ys = xs := by simpa [sameB] using e2
            show _ = _
            rw [E1.out, this]
          rw [e2] at KEY
          clear e2
          go_quiet (first | (go_at_call 19; exact Calls.quiet_of (KEY.out _)))
          have HUr : Hid (U.drewN nq = V.drewN (q + nq)) := by show _ = _; rw [HU.out, World.drewN_drewN]
          rw [HUr.out]
          clear d1 d2 b0 b1 KEY
          go_wp2_with fail
          go_ret
          exact ⟨ret_bool (memQ_hit HY E2), below_drewN B0.out _⟩
        | false =>
          have E2 : Hid (((ym, ys) : PlO) ≠ (xm, xs)) := fun e => by
            have : ys = xs := congrArg Prod.snd e
            rw [this] at e2
            simp [sameB] at e2
          rw [e2] at KEY
          clear e2
          go_quiet (first | (go_at_call 19; exact Calls.quiet_of (KEY.out _)))
          have HUr : Hid (U.drewN nq = V.drewN (q + nq)) := by show _ = _; rw [HU.out, World.drewN_drewN]
          rw [HUr.out]
          clear d1 d2 b0 b1 KEY
          go_wp2_with fail
          go_roundw
          case rel => exact ⟨k + 1, q + nq, by go_num, by omega, rfl, noneQ_succ he HY E2⟩
          case measure => simp [intOf]; omega
      · have g1 : (ym == xm) = false := by simp [e1]
        have E2 : Hid (((ym, ys) : PlO) ≠ (xm, xs)) := fun e => e1 (congrArg Prod.fst e)
        clear e1
        go_quiet (first | (go_at_call 19; exact Calls.quiet_of (KEY.out _)))
        have HUr : Hid (U.drewN nq = V.drewN (q + nq)) := by show _ = _; rw [HU.out, World.drewN_drewN]
        rw [HUr.out]
        clear d1 d2 b0 b1 KEY
        go_wp2_with fail
        go_roundw
        case rel => exact ⟨k + 1, q + nq, by go_num, by omega, rfl, noneQ_succ he HY E2⟩
        case measure => simp [intOf]; omega
    · have hkD : decide ((k : Int) < (l.length : Int)) = false := by simp; omega
      go_wp2_with fail
      go_ret
      exact ⟨ret_bool (noneQ_end he hlt), below_drewN B0.out _⟩

/-- As many, and all of the one in the other? -/
def sameQ (a b : List PlO) : Bool := decide (a.length = b.length) && a.all fun x => memQ b x
set_option maxRecDepth 100000 in
set_option maxHeartbeats 4000000 in
theorem rqsame_any (n : Nat) (a b : Option Addr) (ca cb : Nat) (l l' : List PlO) (w : World) (h : Hid (AtQ n w a l)) (h' : Hid (AtQ n w b l')) (hl : l.length ≤ 9223372036854775807) (hl' : l'.length ≤ 9223372036854775807) (hn : n ≤ w.heap.size) :
    Calls Tryd.prog 124 #[.slice a l.length ca, .slice b l'.length cb] w fun e w' => e = .returned (.bool (sameQ l l')) ∧ Below w.heap.size w w' := by
  go_enter Tryd.func124, Tryd.ntmps124
  by_cases hne : l.length = l'.length
  · have g1 : ((l.length : Int) != (l'.length : Int)) = false := by simp [hne]
    have HE := Hid.of hne
    clear hne
    go_wp2_with fail
    go_loopw [5] (fun i wr => ∃ k : Nat, i = .int .i64 k ∧ k ≤ l.length ∧ Hid (Below w.heap.size w wr) ∧ Hid (∀ (j : Nat) (y : PlO), j < k → l[j]? = some y → memQ l' y = true)) (fun i _ => l.length - (intOf i).toNat)
    case atStart => exact ⟨0, rfl, Nat.zero_le _, Below.refl _ _, fun j p hj => by omega⟩
    case round =>
      obtain ⟨k, rfl, hk, B, HA⟩ := hrel
      by_cases hlt : k < l.length
      · obtain ⟨⟨ym, ys⟩, HY⟩ : ∃ y, Hid (l[k]? = some y) := ⟨_, List.getElem?_eq_getElem hlt⟩
        obtain ⟨g, o, sa, sc, hga, hg, c1, c2, a1, l1, -⟩ := (h.out.below B.out hn).get HY.out
        dsimp only at c1 c2 a1 l1
        subst hga
        have KEY := Hid.of (rqhas_any n b cb l' ym ys sa sc wr (Hid.of (h'.out.below B.out hn)) hl' (Hid.of a1) (Hid.of l1))
        clear a1 l1
        go_wp2_with fail
        refine KEY.out.mono ?_
        rintro e W1 ⟨rfl, hb⟩
        have B1 := Hid.of (B.out.trans (hb.mono B.out.size))
        clear KEY hb c1 c2 B
        cases hm : memQ l' (ym, ys) with
        | true =>
          have HA1 : Hid (∀ (j : Nat) (y : PlO), j < k + 1 → l[j]? = some y → memQ l' y = true) := fun j y hj hy => by
            by_cases e : j < k
            · exact HA.out j y e hy
            · have : j = k := by omega
              subst this
              rw [HY.out] at hy
              have := Option.some.inj hy
              subst this; exact hm
          clear hm
          go_wp2_with fail
          go_roundw
          case rel => exact ⟨k + 1, by go_num, by omega, B1, HA1⟩
          case measure => simp [intOf]; omega
        | false =>
          have HR : Hid (false = sameQ l l') := by
            show _ = _
            unfold sameQ
            symm
            rw [Bool.and_eq_false_iff]
            right
            rw [List.all_eq_false]
            exact ⟨_, List.mem_of_getElem? HY.out, by rw [hm]; simp⟩
          clear hm
          go_wp2_with fail
          go_ret
          exact ⟨ret_bool HR.out, B1.out⟩
      · have hkD : decide ((k : Int) < (l.length : Int)) = false := by simp; omega
        have HR : Hid (true = sameQ l l') := by
          show _ = _
          unfold sameQ
          symm
          rw [Bool.and_eq_true, decide_eq_true_eq, List.all_eq_true]
          refine ⟨HE.out, fun x hx => ?_⟩
          obtain ⟨j, hj⟩ := List.mem_iff_getElem?.1 hx
          exact HA.out j x (by have := (List.getElem?_eq_some_iff.1 hj).1; omega) hj
        go_wp2_with fail
        go_ret
        exact ⟨ret_bool HR.out, B.out⟩
  · have g1 : ((l.length : Int) != (l'.length : Int)) = true := by simp; omega
    have HR : Hid (false = sameQ l l') := by show _ = _; unfold sameQ; rw [decide_eq_false hne]; rfl
    clear hne
    go_wp2_with fail
    go_ret
    exact ⟨ret_bool HR.out, Below.refl _ _⟩

end Go.Proofs.YtkodmnooibpflaaDoor
namespace Go.Proofs.YtkodmnooibpflaaDoor
open Go.RowKit
set_option linter.unusedVariables false

/-- What on leaves. -/
def OnPost (w : World) (o : Option PlO) (e : Ending) (w' : World) : Prop := match o with
 | none => e = .returned (.tuple #[.agg #[.int .i64 0, .slice none 0 0], .bool false]) ∧ Below w.heap.size w w'
 | some z => ∃ ta tc, e = .returned (.tuple #[.agg #[.int .i64 z.1, .slice ta z.2.length tc], .bool true]) ∧ (∀ n, InnW n w' (.slice ta z.2.length tc) z.2) ∧ Below w.heap.size w w'
theorem results_atTmp {fn : Func} {p u : Tmp} (h : fn.results = #[.cell p 135, .tmp u]) (tmps : Array Value) (w : World) (g : Nat) (k : Int) (b : Value) (x : Value) (hp : tmps.getD p undef = .pointer (some ⟨g, 0, none⟩)) (hu : tmps.getD u undef = x) (hB : Blk w g 135 #[.int .i64 k, b]) (hb : ∃ q n c, b = .slice q n c) :
  (results fn tmps).run Tryd.prog w = .ok (.tuple #[.agg #[.int .i64 k, b], x]) w := by
 obtain ⟨q', n', c', rfl⟩ := hb
 have x0 := hB.cell 0 rfl
 have x1 := hB.cell 1 rfl
 have e : (results fn tmps).run Tryd.prog w = ((asAddr (tmps.getD p undef)).run Tryd.prog w).andThen fun a w₁ => ((loadVar 135 a).run Tryd.prog w₁).andThen fun r w₂ => .ok (.tuple #[r, tmps.getD u undef]) w₂ := by
  simp only [results, h]
  simp [Sem.run_bind, Result.andThen]
 rw [e, hp, hu]
 go_simp
theorem below_set2 {W V : World} {B b' : Nat} (h : Below B V W) (hb : B ≤ b') (v0 v1 : Value) : Below B V ((W.setCell ⟨b', 0, none⟩ v0).setCell ⟨b', 1, none⟩ v1) :=
 (h.setCell (p := ⟨b', 0, none⟩) hb v0).setCell (p := ⟨b', 1, none⟩) hb v1

set_option maxRecDepth 100000 in
set_option maxHeartbeats 8000000 in
theorem ron_any (p : Plant) (Pl : ML) (sa : Option Addr) (sc : Nat) (ta : Option Addr) (tc : Nat) (o : Mach) (lo : ML) (s : Int) (xa : Option Addr) (xc : Nat) (xs : List Int) (ev : Int) (w : World) (h : Hid (PAt w p ⟨Pl, sa, sc, ta, tc⟩)) (ho : Hid (MAt w o lo)) (hx : Hid (At w xa xs)) (hxl : Hid (xs.length ≤ maxLen)) (hl1 : Hid (p.m.arrows.length ≤ 4096)) (hl2 : Hid (o.arrows.length ≤ 4096)) :
  Calls Tryd.prog 96 #[ptval p ⟨Pl, sa, sc, ta, tc⟩, mval o lo, .agg #[.int .i64 s, .slice xa xs.length xc], .int .i64 ev] w fun e w' => OnPost w (onO p o (s, xs) ev) e w' := by
 have B4 : Below w.heap.size w ((((w.alloc (.cells (ptcells p ⟨Pl, sa, sc, ta, tc⟩) 44)).alloc (.cells (mcells o lo) 25)).alloc (.cells #[.int .i64 s, .slice xa xs.length xc] 135)).alloc (.cells #[.int .i64 0, .slice none 0 0] 135)) := ((((Below.refl _ _).alloc (Nat.le_refl _) _).alloc (by simp) _).alloc (by simp; omega) _).alloc (by simp; omega) _
 have KP4 : Blk ((((w.alloc (.cells (ptcells p ⟨Pl, sa, sc, ta, tc⟩) 44)).alloc (.cells (mcells o lo) 25)).alloc (.cells #[.int .i64 s, .slice xa xs.length xc] 135)).alloc (.cells #[.int .i64 0, .slice none 0 0] 135)) (w.heap.size) 44 (ptcells p ⟨Pl, sa, sc, ta, tc⟩) := (((Blk.new w _ _).alloc _).alloc _).alloc _
 have KO4 : Blk ((((w.alloc (.cells (ptcells p ⟨Pl, sa, sc, ta, tc⟩) 44)).alloc (.cells (mcells o lo) 25)).alloc (.cells #[.int .i64 s, .slice xa xs.length xc] 135)).alloc (.cells #[.int .i64 0, .slice none 0 0] 135)) (w.heap.size + 1) 25 (mcells o lo) := by
  have := ((Blk.new (w.alloc (.cells (ptcells p ⟨Pl, sa, sc, ta, tc⟩) 44)) 25 (mcells o lo)).alloc (.cells #[.int .i64 s, .slice xa xs.length xc] 135)).alloc (.cells #[.int .i64 0, .slice none 0 0] 135)
  rwa [World.size_alloc] at this
 have KX4 : Blk ((((w.alloc (.cells (ptcells p ⟨Pl, sa, sc, ta, tc⟩) 44)).alloc (.cells (mcells o lo) 25)).alloc (.cells #[.int .i64 s, .slice xa xs.length xc] 135)).alloc (.cells #[.int .i64 0, .slice none 0 0] 135)) (w.heap.size + 1 + 1) 135 #[.int .i64 s, .slice xa xs.length xc] := by
  have := (Blk.new ((w.alloc (.cells (ptcells p ⟨Pl, sa, sc, ta, tc⟩) 44)).alloc (.cells (mcells o lo) 25)) 135 #[.int .i64 s, .slice xa xs.length xc]).alloc (.cells #[.int .i64 0, .slice none 0 0] 135)
  rwa [World.size_alloc, World.size_alloc] at this
 have KR4 : Blk ((((w.alloc (.cells (ptcells p ⟨Pl, sa, sc, ta, tc⟩) 44)).alloc (.cells (mcells o lo) 25)).alloc (.cells #[.int .i64 s, .slice xa xs.length xc] 135)).alloc (.cells #[.int .i64 0, .slice none 0 0] 135)) (w.heap.size + 1 + 1 + 1) 135 #[.int .i64 0, .slice none 0 0] := by
  have := Blk.new (((w.alloc (.cells (ptcells p ⟨Pl, sa, sc, ta, tc⟩) 44)).alloc (.cells (mcells o lo) 25)).alloc (.cells #[.int .i64 s, .slice xa xs.length xc] 135)) 135 #[.int .i64 0, .slice none 0 0]
  rwa [World.size_alloc, World.size_alloc, World.size_alloc] at this
 have B := Hid.of (B4.alloc (by simp; omega) (.cells #[.int .i64 s] 3))
 have KO := Hid.of (KO4.alloc (.cells #[.int .i64 s] 3))
 have KX := Hid.of (KX4.alloc (.cells #[.int .i64 s] 3))
 have KR := Hid.of (KR4.alloc (.cells #[.int .i64 s] 3))
 have AA : Hid (At (((((w.alloc (.cells (ptcells p ⟨Pl, sa, sc, ta, tc⟩) 44)).alloc (.cells (mcells o lo) 25)).alloc (.cells #[.int .i64 s, .slice xa xs.length xc] 135)).alloc (.cells #[.int .i64 0, .slice none 0 0] 135)).alloc (.cells #[.int .i64 s] 3)) (some ⟨w.heap.size + 1 + 1 + 1 + 1, 0, none⟩) [s]) := by
  have := at_one15 ((((w.alloc (.cells (ptcells p ⟨Pl, sa, sc, ta, tc⟩) 44)).alloc (.cells (mcells o lo) 25)).alloc (.cells #[.int .i64 s, .slice xa xs.length xc] 135)).alloc (.cells #[.int .i64 0, .slice none 0 0] 135)) s
  rwa [World.size_alloc, World.size_alloc, World.size_alloc, World.size_alloc] at this
 obtain ⟨x0, x1, x2, x3, x4, x5, x6⟩ := ptcell_at KP4
 have y0 := KX4.cell 0 rfl
 clear B4 KP4 KO4 KX4 KR4
 go_enter Tryd.func96, Tryd.ntmps96
 go_wp2_with fail
 clear x0 x1 x2 x3 x4 x5 x6 y0
 revert B KO KX KR AA
 generalize (((((w.alloc (.cells (ptcells p ⟨Pl, sa, sc, ta, tc⟩) 44)).alloc (.cells (mcells o lo) 25)).alloc (.cells #[.int .i64 s, .slice xa xs.length xc] 135)).alloc (.cells #[.int .i64 0, .slice none 0 0] 135)).alloc (.cells #[.int .i64 s] 3)) = X0
 intro B KO KX KR AA
 obtain ⟨t1, HT1⟩ : ∃ t1, Hid (t1 = stepL p.m.arrows [s] ev) := ⟨_, rfl⟩
 obtain ⟨t2, HT2⟩ : ∃ t2, Hid (t2 = stepL o.arrows xs ev) := ⟨_, rfl⟩
 refine (refStep_own p.m Pl (some ⟨w.heap.size + 1 + 1 + 1 + 1, 0, none⟩) 1 [s] ev X0 (h.out.below B.out (Nat.le_refl _)).m.a (by have := hl1.out; omega) AA.out (by show 1 ≤ maxLen; decide)).mono ?_
 rw [← HT1.out]
 rintro e1 X1 ⟨v1, rfl, o1, hb⟩
 obtain ⟨va, vc, rfl, ha1, -⟩ := o1.at
 replace B := Hid.of (B.out.trans (hb.mono B.out.size))
 replace KO := Hid.of (KO.out.below hb KO.out.lt)
 replace KX := Hid.of (KX.out.below hb KX.out.lt)
 replace KR := Hid.of (KR.out.below hb KR.out.lt)
 have HA1 := Hid.of ha1
 clear hb AA o1 ha1
 obtain ⟨x0, x1, x2, x3, x4⟩ := mcell_at KO.out
 have y1 := KX.out.cell 1 rfl
 go_wp2_with fail
 clear x0 x1 x2 x3 x4 y1
 refine (refStep_own o lo xa xc xs ev X1 (ho.out.below B.out (Nat.le_refl _)).a (by have := hl2.out; omega) (hx.out.below B.out (Nat.le_refl _)) hxl.out).mono ?_
 rw [← HT2.out]
 rintro e1 X2 ⟨v2, rfl, o2, hb⟩
 have hi : ∀ n, InnW n X2 v2 t2 := fun n => InnW.of_own o2
 obtain ⟨ua, uc, rfl, ha2, -⟩ := o2.at
 replace B := Hid.of (B.out.trans (hb.mono B.out.size))
 replace KR := Hid.of (KR.out.below hb KR.out.lt)
 replace HA1 := Hid.of (HA1.out.below hb (Nat.le_refl _))
 have HI := Hid.of hi
 have OO2 := Hid.of o2
 clear hb ha2 o2 KO KX hi
 by_cases h1 : t1.length = 1
 ·have d1 : ((t1.length : Int) != 1) = false := by rw [h1]; rfl
  by_cases h2 : t2.length = 0
  ·have d2 : ((t2.length : Int) == 0) = true := by rw [h2]; rfl
   have HO : Hid (onO p o (s, xs) ev = none) := by show _ = _; unfold onO; rw [if_neg (by dsimp only; rw [← HT1.out, ← HT2.out]; omega)]
   clear h1 h2
   have f := KR.out.frozen
   have r0 := KR.out.cell 0 rfl
   have r1 := KR.out.cell 1 rfl
   go_wp2_with fail
   clear f r0 r1
   replace B := Hid.of (below_set2 B.out (b' := w.heap.size + 1 + 1 + 1) (by omega) (.int .i64 0) (.slice none 0 0))
   replace KR := Hid.of ((KR.out.set 0 (.int .i64 0)).set 1 (.slice none 0 0))
   exact bodyPost_ret (v := .tuple #[.agg #[.int .i64 0, .slice none 0 0], .bool false]) (results_atTmp (p := 8) (u := 9) rfl _ _ (w.heap.size + 1 + 1 + 1) _ _ _ rfl rfl KR.out ⟨_, _, _, rfl⟩) rfl (by rw [HO.out]; exact ⟨rfl, B.out⟩)
  ·have d2 : ((t2.length : Int) == 0) = false := by simpa using (by omega : (t2.length : Int) ≠ 0)
   obtain ⟨y, hy⟩ : ∃ y, t1 = [y] := ⟨_, one_of h1⟩
   have HO : Hid (onO p o (s, xs) ev = some (y, t2)) := by
    show _ = _
    unfold onO
    dsimp only
    rw [← HT1.out, ← HT2.out, if_pos ⟨h1, by omega⟩, hy]; rfl
   rw [hy] at HA1
   rcases HA1.out with h0 | ⟨b, off, rfl, hbl, hc⟩
   ·cases h0
   have c1 : X2.cell? ⟨b, off, none⟩ = some (.int .i64 y) := hc 0 (by simp)
   have hll : t1.length = 1 := h1
   have hl0 : (0 : Int) < (t1.length : Int) := by omega
   have hl1' : 0 < t1.length := by omega
   have HOW : Hid (Own ((X2.setCell ⟨w.heap.size + 1 + 1 + 1, 0, none⟩ (.int .i64 y)).setCell ⟨w.heap.size + 1 + 1 + 1, 1, none⟩ (.slice ua t2.length uc)) X1.heap.size (.slice ua t2.length uc) t2) := own_same OO2.out (fun k hk => by
    obtain ⟨cs, hcs⟩ := own_type OO2.out hk
    have hne : k ≠ w.heap.size + 1 + 1 + 1 := fun e => by
     have hkr := KR.out
     unfold Blk at hkr
     rw [← e, hcs] at hkr
     injection hkr with hkr
     injection hkr with _ h3 _
     exact absurd h3 (by decide)
    exact (Below.heap_setCell _ _ _ k hne).trans (Below.heap_setCell _ _ _ k hne))
   clear h1 h2 hy hc
   have f := KR.out.frozen
   have r0 := KR.out.cell 0 rfl
   have r1 := KR.out.cell 1 rfl
   go_wp2_with fail
   clear f r0 r1
   replace B := Hid.of (below_set2 B.out (b' := w.heap.size + 1 + 1 + 1) (by omega) (.int .i64 y) (.slice ua t2.length uc))
   replace KR := Hid.of ((KR.out.set 0 (.int .i64 y)).set 1 (.slice ua t2.length uc))
   refine bodyPost_ret (v := .tuple #[.agg #[.int .i64 y, .slice ua t2.length uc], .bool true]) (results_atTmp (p := 8) (u := 9) rfl _ _ (w.heap.size + 1 + 1 + 1) _ _ _ rfl rfl KR.out ⟨_, _, _, rfl⟩) rfl (by rw [HO.out]; exact ⟨ua, uc, rfl, fun n => InnW.of_own HOW.out, B.out⟩)
 ·have d1 : ((t1.length : Int) != 1) = true := by simpa using (by omega : (t1.length : Int) ≠ 1)
  have HO : Hid (onO p o (s, xs) ev = none) := by show _ = _; unfold onO; rw [if_neg (by dsimp only; rw [← HT1.out]; omega)]
  clear h1
  have f := KR.out.frozen
  have r0 := KR.out.cell 0 rfl
  have r1 := KR.out.cell 1 rfl
  go_wp2_with fail
  clear f r0 r1
  replace B := Hid.of (below_set2 B.out (b' := w.heap.size + 1 + 1 + 1) (by omega) (.int .i64 0) (.slice none 0 0))
  replace KR := Hid.of ((KR.out.set 0 (.int .i64 0)).set 1 (.slice none 0 0))
  exact bodyPost_ret (v := .tuple #[.agg #[.int .i64 0, .slice none 0 0], .bool false]) (results_atTmp (p := 8) (u := 9) rfl _ _ (w.heap.size + 1 + 1 + 1) _ _ _ rfl rfl KR.out ⟨_, _, _, rfl⟩) rfl (by rw [HO.out]; exact ⟨rfl, B.out⟩)

end Go.Proofs.YtkodmnooibpflaaDoor
