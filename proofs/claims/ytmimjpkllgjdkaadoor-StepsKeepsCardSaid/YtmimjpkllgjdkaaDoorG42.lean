/-
  What steps.Was and Leak leave.
  The walk of steps.upTo.
  The walk of steps.Was.
-/
import Derived.Test.YtmimjpkllgjdkaaDoorG30
import Derived.Test.YtmimjpkllgjdkaaDoorCEstM
import Derived.Test.YtmimjpkllgjdkaaDoorG40
import Derived.Test.YtmimjpkllgjdkaaDoorCPCur
import Derived.Test.YtmimjpkllgjdkaaDoorCPIni
import Derived.Test.YtmimjpkllgjdkaaDoorCSFst
namespace Go.Proofs.YtmimjpkllgjdkaaDoor
open Go.RowKit
set_option linter.unusedVariables false

/-- What Was answers (K1). -/
def wasOut (p : Plant) (before behind : List Int) : List Int × Int := if mayP p = true then (if inSeen p.seen before = true ∧ inSeen p.seen behind = true then (wasL p before behind, 0) else ([], 6)) else ([], 2)
theorem wasOut_bad {p : Plant} (h : mayP p = false) (a b : List Int) : wasOut p a b = ([], 2) := by unfold wasOut; rw [if_neg (by rw [h]; simp)]
theorem wasOut_ok {p : Plant} {a b : List Int} (h : mayP p = true) (ha : inSeen p.seen a = true) (hb : inSeen p.seen b = true) : wasOut p a b = (wasL p a b, 0) := by unfold wasOut; rw [if_pos h, if_pos ⟨ha, hb⟩]
theorem wasOut_out1 {p : Plant} {a : List Int} (h : mayP p = true) (ha : inSeen p.seen a = false) (b : List Int) : wasOut p a b = ([], 6) := by unfold wasOut; rw [if_pos h, if_neg (fun q => by rw [ha] at q; cases q.1)]
theorem wasOut_out2 {p : Plant} {b : List Int} (h : mayP p = true) (a : List Int) (hb : inSeen p.seen b = false) : wasOut p a b = ([], 6) := by unfold wasOut; rw [if_pos h, if_neg (fun q => by rw [hb] at q; cases q.2)]
/-- What Leak answers (K2). -/
def stepOut (p : Plant) (most : Int) : Bool × (List Int × List Int) × Int := if mayP p = true then (if -1 ≤ most ∧ most ≤ 1000 then ((outS p most).isSome, (outS p most).getD ([], []), 0) else (false, ([], []), 6)) else (false, ([], []), 2)
theorem stepOut_bad {p : Plant} (h : mayP p = false) (most : Int) : stepOut p most = (false, ([], []), 2) := by unfold stepOut; rw [if_neg (by rw [h]; simp)]
theorem stepOut_ok {p : Plant} {most : Int} (h : mayP p = true) (hm : -1 ≤ most ∧ most ≤ 1000) : stepOut p most = ((outS p most).isSome, (outS p most).getD ([], []), 0) := by unfold stepOut; rw [if_pos h, if_pos hm]
theorem stepOut_out {p : Plant} {most : Int} (h : mayP p = true) (hm : ¬ (-1 ≤ most ∧ most ≤ 1000)) : stepOut p most = (false, ([], []), 6) := by unfold stepOut; rw [if_pos h, if_neg hm]
/-- What is left by a call that hands back two lists. -/
def StepPost (w : World) (r : Bool × (List Int × List Int) × Int) (e : Ending) (w' : World) : Prop := ∃ va vc vb vd, e = .returned (.tuple #[.bool r.1, .slice va r.2.1.1.length vc, .slice vb r.2.1.2.length vd, .int .i64 r.2.2]) ∧ At w' va r.2.1.1 ∧ At w' vb r.2.1.2 ∧ r.2.1.1.length ≤ maxLen ∧ r.2.1.2.length ≤ maxLen ∧ Below w.heap.size w w'

end Go.Proofs.YtmimjpkllgjdkaaDoor
namespace Go.Proofs.YtmimjpkllgjdkaaDoor
open Go.RowKit
set_option linter.unusedVariables false

/-- The head of a row of places. -/
theorem slice_headP (a : Option Addr) (len cap Q : Nat) (h2 : Q ≤ cap) : ∃ X Y, (∀ w : World, (Instr.slice 95 (.slice a len cap) none (some (.int .i64 (Q : Int))) none).run Tryd.prog w = .ok (.slice X Q Y) w) ∧ (0 < cap → ∀ b off, a = some ⟨b, off, none⟩ → X = some ⟨b, off, none⟩) := by
  refine ⟨if cap = 0 then a else a.map (·.add (0 * 5)), cap - 0, fun w => ?_, fun hlt b off ha => ?_⟩
  · have := run_slice_h (P := Tryd.prog) (w := w) 95 a len cap (by kernel_rfl) .i64 (Q : Int) (by omega) (by omega)
    rw [this]
    go_simp
    try simp [sliced]
  · rw [if_neg (by omega), ha, Option.map_some]; simp [Addr.add]
section
variable {L : List PlC} {l : List (List Int × List Int)} {seen : List Int} {most : Int}
theorem long_iff (hr : RepCL L l) (hw : WdC seen L l) {k : Nat} {q : PlC} {x : List Int × List Int} (hq : L[k]? = some q) (hx : l[k]? = some x) : longP most q = decide (most < (x.2.length : Int)) := by
  unfold longP
  rw [hw k q x hq hx, wordS_len]
theorem up_all (hr : RepCL L l) (hw : WdC seen L l) (h : ∀ q ∈ L, longP most q = false) : UpTo most l l := by
  refine upTo_none (fun x hx => ?_)
  obtain ⟨k, hk⟩ := List.mem_iff_getElem?.1 hx
  obtain ⟨q, hq, -⟩ := hr.at hk
  have := h q (List.mem_of_getElem? hq)
  rw [long_iff hr hw hq hk] at this
  simpa using this
theorem up_at (h0 : 0 ≤ most) (hi : l.Pairwise fun a b => lessB a.2 b.2 = true) (hr : RepCL L l) (hw : WdC seen L l) {j : Nat} {q : PlC} (hq : L[j]? = some q) (hl : longP most q = true) (hn : noneP (longP most) L j) : UpTo most l (l.take j) := by
  obtain ⟨x, hx, -⟩ := hr.rep j q hq
  rw [long_iff hr hw hq hx] at hl
  refine upTo_at h0 hi hx (by simpa using hl) (fun i y hij hy => ?_)
  obtain ⟨z, hz, -⟩ := hr.at hy
  have := hn i z hij hz
  rw [long_iff hr hw hz hy] at this
  simpa using this
end

set_option maxRecDepth 100000 in
set_option maxHeartbeats 4000000 in
theorem upTo_go (L : List PlC) (l : List (List Int × List Int)) (seen : List Int) (most : Int) (a : Option Addr) (cap : Nat) (w : World) (hll : L.length ≤ 64) (hcap : L.length ≤ cap) (hrd : Hid (RdC w a L)) (hin : Hid (∀ q ∈ L, InnW 0 w q.v q.word)) (hrep : Hid (RepCL L l)) (hwd : Hid (WdC seen L l)) (hinc : Hid (l.Pairwise fun a b => lessB a.2 b.2 = true)) :
    Calls Tryd.prog 89 #[.slice a L.length cap, .int .i64 most] w fun e w' => ∃ a' c' n, e = .returned (.slice a' (L.take n).length c') ∧ n ≤ L.length ∧ RdC w' a' (L.take n) ∧ UpTo most l (l.take n) ∧ Below w.heap.size w w' := by
  have hmf : ∀ (fn : Fn) (first cap : Array Value) (w : World), (Instr.makeFunc fn first cap).run Tryd.prog w = .ok (.func fn first cap) w := fun _ _ _ _ => rfl
  have B : Hid (Below w.heap.size w (w.alloc (.cells #[.int .i64 most] 3))) := (Below.refl _ _).alloc (Nat.le_refl _) _
  have KM : Hid (Blk (w.alloc (.cells #[.int .i64 most] 3)) w.heap.size 3 #[.int .i64 most]) := Blk.new w _ _
  go_enter Tryd.func89, Tryd.ntmps89
  go_wp2_with fail
  revert B KM
  generalize w.alloc (.cells #[.int .i64 most] 3) = V
  intro B KM
  refine (idxU_any L a cap most w.heap.size V hll (Hid.of (hrd.out.below B.out)) (Hid.of (fun q hq => (hin.out q hq).below B.out (Nat.zero_le _))) (Hid.of (KM.out.cell 0 rfl)) KM.out.lt).mono ?_
  rintro e V1 ⟨r, rfl, hix, hb⟩
  replace B := Hid.of (B.out.trans (hb.mono B.out.size))
  replace KM := Hid.of (KM.out.below hb KM.out.lt)
  have HIX := Hid.of hix
  clear hb hix
  have m0 : V1.cell? ⟨w.heap.size, 0, none⟩ = some (.int .i64 most) := KM.out.cell 0 rfl
  by_cases hneg : most < 0
  · have HU : Hid (UpTo most l (l.take L.length)) := by
      show UpTo _ _ _
      rw [List.take_of_length_le (by rw [hrep.out.len]; exact Nat.le_refl _)]
      exact upTo_any hneg l
    go_wp2_with fail
    refine bodyPost_ret (v := .slice a L.length cap) (by simp [results, go_sem]) rfl ?_
    exact ⟨a, cap, L.length, by rw [List.take_length], Nat.le_refl _, by rw [List.take_length]; exact hrd.out.below B.out, HU.out, B.out⟩
  · have h0 : 0 ≤ most := by omega
    have h0d : decide (most < 0) = false := by simpa using h0
    clear hneg
    rcases HIX.out with ⟨rfl, hno⟩ | ⟨j, q, rfl, hq, hl, hn⟩
    · have HU : Hid (UpTo most l (l.take L.length)) := by
        show UpTo _ _ _
        rw [List.take_of_length_le (by rw [hrep.out.len]; exact Nat.le_refl _)]
        exact up_all hrep.out hwd.out hno
      clear hno HIX
      go_wp2_with fail
      refine bodyPost_ret (v := .slice a L.length cap) (by simp [results, go_sem]) rfl ?_
      exact ⟨a, cap, L.length, by rw [List.take_length], Nat.le_refl _, by rw [List.take_length]; exact hrd.out.below B.out, HU.out, B.out⟩
    · have HU : Hid (UpTo most l (l.take j)) := up_at h0 hinc.out hrep.out hwd.out hq hl hn
      have hjl : j < L.length := (List.getElem?_eq_some_iff.1 hq).1
      obtain ⟨X, Y, hsl, hX⟩ := slice_headP a L.length cap j (by omega)
      have HX := Hid.of hX
      have hj0 : (0 : Int) ≤ (j : Int) := by omega
      have hj1 : decide ((j : Int) < 0) = false := by simp
      clear hq hl hn HIX hX
      go_wp2_with fail
      refine bodyPost_ret (v := .slice X j Y) (by simp [results, go_sem]) rfl ?_
      refine ⟨X, Y, j, by rw [List.length_take, Nat.min_eq_left (Nat.le_of_lt hjl)], Nat.le_of_lt hjl, ?_, HU.out, B.out⟩
      have hr := (hrd.out.below B.out).take j
      rcases hrd.out with h1 | ⟨g, o, ha, -, -⟩
      · rw [h1] at hjl; simp at hjl
      · rw [HX.out (by omega) g o ha, ← ha]; exact hr

end Go.Proofs.YtmimjpkllgjdkaaDoor
namespace Go.Proofs.YtmimjpkllgjdkaaDoor
open Go.RowKit
set_option linter.unusedVariables false

theorem RepCL.take {L : List PlC} {l : List (List Int × List Int)} (h : RepCL L l) (n : Nat) : RepCL (L.take n) (l.take n) := by
  refine ⟨by rw [List.length_take, List.length_take, h.len], fun k p hp => ?_⟩
  have hk := (List.getElem?_eq_some_iff.1 hp).1
  rw [List.length_take] at hk
  rw [List.getElem?_take_of_lt (by omega)] at hp ⊢
  exact h.rep k p hp
theorem WdC.take {seen : List Int} {L : List PlC} {l : List (List Int × List Int)} (h : WdC seen L l) (n : Nat) : WdC seen (L.take n) (l.take n) := fun j p x hp hx => by
  have hk := (List.getElem?_eq_some_iff.1 hp).1
  rw [List.length_take] at hk
  rw [List.getElem?_take_of_lt (by omega)] at hp hx
  exact h j p x hp hx
theorem prok_below {w w' : World} {o : Option (List Int × List Int)} {Q : PrV} (h : PrOk w o Q) (hb : Below w.heap.size w w') : PrOk w' o Q := by
  cases o with
  | none => exact h
  | some q =>
    obtain ⟨h1, h2, h3, h4, h5, h6⟩ := h
    exact ⟨h1, h2, h3.below hb (Nat.le_refl _), h4.below hb (Nat.le_refl _), h5, h6⟩
theorem prok_drew {w : World} {o : Option (List Int × List Int)} {Q : PrV} (h : PrOk w o Q) : PrOk w.drew o Q := prok_below h (Below.refl _ _).drew
theorem at_set2 {W : World} {b : Nat} {cs : Array Value} (hb : Blk W b 113 cs) (v0 v1 : Value) {a : Option Addr} {xs : List Int} (h : At W a xs) (hc : ∀ (j : Nat) (v : Value), cs[j]? = some v → ∃ x y z, v = .slice x y z) (hs : cs.size = 2) : At ((W.setCell ⟨b, 0, none⟩ v0).setCell ⟨b, 1, none⟩ v1) a xs := by
  rcases h with h | ⟨g, o, e, hg, hcl⟩
  · exact .inl h
  · by_cases hx : xs = []
    · exact .inl hx
    have hne : g ≠ b := fun e' => by
      subst e'
      have hl : 0 < xs.length := List.length_pos_iff.2 hx
      have h0 := hcl 0 hl
      simp [World.cell?, show W.heap[g]? = _ from hb] at h0
      obtain ⟨x, y, z, e2⟩ := hc _ _ h0
      cases e2
    refine .inr ⟨g, o, e, ?_, fun j hj => ?_⟩
    · have h1 : W.heap.size ≤ (W.setCell ⟨b, 0, none⟩ v0).heap.size := (Below.refl 0 W |>.setCell (p := ⟨b, 0, none⟩) (Nat.zero_le _) v0).size
      have h2 : (W.setCell ⟨b, 0, none⟩ v0).heap.size ≤ ((W.setCell ⟨b, 0, none⟩ v0).setCell ⟨b, 1, none⟩ v1).heap.size := (Below.refl 0 _ |>.setCell (p := ⟨b, 1, none⟩) (Nat.zero_le _) v1).size
      omega
    · rw [World.cell?_of_block (w := W) ((Below.heap_setCell _ ⟨b, 1, none⟩ v1 g hne).trans (Below.heap_setCell W ⟨b, 0, none⟩ v0 g hne))]
      exact hcl j hj
theorem prok_set {W : World} {b : Nat} {o : Option (List Int × List Int)} {Q : PrV} (h : PrOk W o Q) (hb : Blk W b 113 #[.slice none 0 0, .slice none 0 0]) (v0 v1 : Value) : PrOk ((W.setCell ⟨b, 0, none⟩ v0).setCell ⟨b, 1, none⟩ v1) o Q := by
  have hc : ∀ (j : Nat) (v : Value), (#[.slice none 0 0, .slice none 0 0] : Array Value)[j]? = some v → ∃ x y z, v = .slice x y z := fun j v hv => by
    match j, hv with
    | 0, hv => exact ⟨none, 0, 0, by simpa using hv.symm⟩
    | 1, hv => exact ⟨none, 0, 0, by simpa using hv.symm⟩
    | j + 2, hv => simp at hv
  cases o with
  | none => exact h
  | some q =>
    obtain ⟨h1, h2, h3, h4, h5, h6⟩ := h
    exact ⟨h1, h2, at_set2 hb v0 v1 h3 hc rfl, at_set2 hb v0 v1 h4 hc rfl, h5, h6⟩
theorem prok_post {w W : World} {o : Option (List Int × List Int)} {Q : PrV} (h : PrOk W o Q) (hb : Below w.heap.size w W) : StepPost w (o.isSome, o.getD ([], []), 0) (.returned (.tuple #[.bool o.isSome, .slice Q.a Q.n Q.c, .slice Q.a' Q.n' Q.c', .int .i64 0])) W := by
  cases o with
  | none =>
    rw [show Q = _ from h]
    exact ⟨none, 0, none, 0, rfl, .inl rfl, .inl rfl, Nat.zero_le _, Nat.zero_le _, hb⟩
  | some q =>
    obtain ⟨h1, h2, h3, h4, h5, h6⟩ := h
    refine ⟨Q.a, Q.c, Q.a', Q.c', ?_, h3, h4, Nat.le_trans h5 (by decide), Nat.le_trans h6 (by decide), hb⟩
    rw [h1, h2]; rfl

set_option maxRecDepth 100000 in
set_option maxHeartbeats 8000000 in
theorem was_go (p : Plant) (Pl : ML) (sa : Option Addr) (sc : Nat) (ta : Option Addr) (tc : Nat) (ba : Option Addr) (bc : Nat) (before : List Int) (va : Option Addr) (vc : Nat) (behind : List Int) (w : World) (h : Hid (PAt w p ⟨Pl, sa, sc, ta, tc⟩)) (hba : Hid (At w ba before)) (hbl : Hid (before.length ≤ maxLen)) (hva : Hid (At w va behind)) (hvl : Hid (behind.length ≤ maxLen)) (hT : Hid (Tab w)) :
    Calls Tryd.prog 45 #[ptval p ⟨Pl, sa, sc, ta, tc⟩, .slice ba before.length bc, .slice va behind.length vc] w fun e w' => ListPost w (wasOut p before behind) e w' := by
  have B : Hid (Below w.heap.size w (w.alloc (.cells (ptcells p ⟨Pl, sa, sc, ta, tc⟩) 44))) := (Below.refl _ _).alloc (Nat.le_refl _) _
  have KP : Hid (Blk (w.alloc (.cells (ptcells p ⟨Pl, sa, sc, ta, tc⟩) 44)) w.heap.size 44 (ptcells p ⟨Pl, sa, sc, ta, tc⟩)) := Blk.new w _ _
  go_enter Tryd.func45, Tryd.ntmps45
  obtain ⟨x0, x1, x2, x3, x4, x5, x6⟩ := ptcell_at KP.out
  go_wp2_with fail
  clear x0 x1 x2 x3 x4 x5 x6
  revert B KP
  generalize (w.alloc (.cells (ptcells p ⟨Pl, sa, sc, ta, tc⟩) 44)) = V0
  intro B KP
  refine (pEstO_any p ⟨Pl, sa, sc, ta, tc⟩ ba bc before V0 (h.out.below B.out (Nat.le_refl _)) (hba.out.below B.out (Nat.le_refl _)) hbl.out (hT.out.below B.out hT.out.lt)).mono ?_
  rintro e V1 ⟨v, rfl, ov, hb⟩
  have OV := Hid.of ov
  have HV0 : Hid (w.heap.size < V0.heap.size) := KP.out.lt
  replace B := Hid.of (B.out.trans (hb.mono B.out.size))
  replace KP := Hid.of (KP.out.below hb KP.out.lt)
  clear hb ov
  cases hp : mayP p with
  | false =>
    rw [estOut_bad hp] at OV ⊢
    have HW : Hid (wasOut p before behind = ([], 2)) := wasOut_bad hp _ _
    clear hp
    go_wp2_with fail
    refine bodyPost_ret (v := .tuple #[.slice none 0 0, .int .i64 2]) (by simp [results, go_sem]) rfl ?_
    rw [HW.out]
    exact ⟨none, 0, rfl, .inl rfl, Nat.zero_le _, B.out⟩
  | true =>
    cases hin : inSeen p.seen before with
    | false =>
      rw [estOut_out hp hin] at OV ⊢
      have HW : Hid (wasOut p before behind = ([], 6)) := wasOut_out1 hp hin _
      clear hp hin
      go_wp2_with fail
      refine bodyPost_ret (v := .tuple #[.slice none 0 0, .int .i64 6]) (by simp [results, go_sem]) rfl ?_
      rw [HW.out]
      exact ⟨none, 0, rfl, .inl rfl, Nat.zero_le _, B.out⟩
    | true =>
      rw [estOut_ok hp hin] at OV ⊢
      dsimp only at OV ⊢
      have HP := Hid.of hp
      have HIN := Hid.of hin
      obtain ⟨ea, ec, hev, hat, hec, hmx, hnil⟩ := OV.out.at2
      subst hev
      have HAT := Hid.of hat
      have HEC := Hid.of hec
      have HMX := Hid.of hmx
      have HNIL := Hid.of hnil
      clear hp hin hat hec hmx hnil
      obtain ⟨E, HE⟩ : ∃ E, Hid (E = estL p before) := ⟨_, rfl⟩
      rw [← HE.out] at HAT HEC OV
      rw [← HE.out]
      have c2 : V1.cell? ⟨w.heap.size, 2, none⟩ = some (.slice Pl.a1 p.m.starts.length Pl.c1) := KP.out.cell 2 rfl
      have fz := KP.out.frozen 2
      have KP2 : Hid (Blk (V1.setCell ⟨w.heap.size, 2, none⟩ (.slice ea E.length ec)) w.heap.size 44 (ptcells (atP p before) ⟨{ Pl with a1 := ea, c1 := ec }, sa, sc, ta, tc⟩)) := by
        have := KP.out.set 2 (.slice ea E.length ec)
        rw [HE.out] at this ⊢
        exact this
      have B2 : Hid (Below w.heap.size w (V1.setCell ⟨w.heap.size, 2, none⟩ (.slice ea E.length ec))) := B.out.setCell (p := ⟨w.heap.size, 2, none⟩) (Nat.le_refl _) _
      have PA2 : Hid (PAt (V1.setCell ⟨w.heap.size, 2, none⟩ (.slice ea E.length ec)) (atP p before) ⟨{ Pl with a1 := ea, c1 := ec }, sa, sc, ta, tc⟩) := by
        have h1 := h.out.below B2.out (Nat.le_refl _)
        have h2 : Own (V1.setCell ⟨w.heap.size, 2, none⟩ (.slice ea E.length ec)) V0.heap.size (.slice ea E.length ec) E := own_same OV.out (fun k hk => Below.heap_setCell _ _ _ k (by have := (World.ownsRow.lt OV.out k hk).1; have := HV0.out; show k ≠ w.heap.size; omega))
        obtain ⟨ea', ec', hev, hat, -, -, -⟩ := h2.at2
        cases hev
        refine ⟨⟨?_, h1.m.a, h1.m.e, ?_, HMX.out, HNIL.out, h1.m.a1, h1.m.a2, h1.m.a3, h1.m.e1, h1.m.e2, h1.m.e3⟩, h1.s, h1.t⟩
        · show At _ ea (estL p before)
          rw [← HE.out]; exact hat
        · show (estL p before).length ≤ ec
          rw [← HE.out]; exact HEC.out
      clear B KP OV HAT
      obtain ⟨x0, x1, x2, x3, x4, x5, x6⟩ := ptcell_at KP2.out
      replace x2 : (V1.setCell ⟨w.heap.size, 2, none⟩ (.slice ea E.length ec)).cell? ⟨w.heap.size, 2, none⟩ = some (.slice ea E.length ec) := by rw [x2, HE.out]; rfl
      replace x0 : (V1.setCell ⟨w.heap.size, 2, none⟩ (.slice ea E.length ec)).cell? ⟨w.heap.size, 0, none⟩ = some (.int .i64 p.m.st) := x0
      replace x1 : (V1.setCell ⟨w.heap.size, 2, none⟩ (.slice ea E.length ec)).cell? ⟨w.heap.size, 1, none⟩ = some (.int .i64 p.m.ev) := x1
      replace x3 : (V1.setCell ⟨w.heap.size, 2, none⟩ (.slice ea E.length ec)).cell? ⟨w.heap.size, 3, none⟩ = some (.slice Pl.a2 p.m.arrows.length Pl.c2) := x3
      replace x4 : (V1.setCell ⟨w.heap.size, 2, none⟩ (.slice ea E.length ec)).cell? ⟨w.heap.size, 4, none⟩ = some (.slice Pl.a3 p.m.ends.length Pl.c3) := x4
      replace x5 : (V1.setCell ⟨w.heap.size, 2, none⟩ (.slice ea E.length ec)).cell? ⟨w.heap.size, 5, none⟩ = some (.slice sa p.seen.length sc) := x5
      replace x6 : (V1.setCell ⟨w.heap.size, 2, none⟩ (.slice ea E.length ec)).cell? ⟨w.heap.size, 6, none⟩ = some (.slice ta p.secret.length tc) := x6
      go_wp2_with fail
      clear c2 fz x0 x1 x2 x3 x4 x5 x6
      revert KP2 B2 PA2
      generalize V1.setCell ⟨w.heap.size, 2, none⟩ (.slice ea E.length ec) = V2
      intro KP2 B2 PA2
      have BEG := Hid.of (pBeg_any (atP p before) ⟨{ Pl with a1 := ea, c1 := ec }, sa, sc, ta, tc⟩ va vc behind V2 PA2.out (hva.out.below B2.out (Nat.le_refl _)) hvl.out (hT.out.below B2.out hT.out.lt))
      have HOUT : Hid (begOut (atP p before) behind = wasOut p before behind) := by
        show _ = _
        have hm := may_at HP.out before
        cases h2 : inSeen p.seen behind with
        | true => rw [wasOut_ok HP.out HIN.out h2, begOut_ok hm h2, was_at HP.out]
        | false => rw [wasOut_out2 HP.out _ h2, begOut_out hm h2]
      have hval : ptval (atP p before) ⟨{ Pl with a1 := ea, c1 := ec }, sa, sc, ta, tc⟩ = .agg #[.int .i64 p.m.st, .int .i64 p.m.ev, .slice ea E.length ec, .slice Pl.a2 p.m.arrows.length Pl.c2, .slice Pl.a3 p.m.ends.length Pl.c3, .slice sa p.seen.length sc, .slice ta p.secret.length tc] := by rw [HE.out]; rfl
      rw [hval] at BEG
      refine BEG.out.mono ?_
      rintro e V3 ⟨qa, qc, rfl, hq1, hq2, hb⟩
      rw [HOUT.out] at hq1 hq2 ⊢
      have Q1 := Hid.of hq1
      have Q2 := Hid.of hq2
      have B3 := Hid.of (B2.out.trans (hb.mono B2.out.size))
      clear hq1 hq2 hb
      obtain ⟨rr, HRR⟩ : ∃ rr, Hid (rr = wasOut p before behind) := ⟨_, rfl⟩
      rw [← HRR.out] at Q1 Q2 ⊢
      go_wp2_with fail
      refine bodyPost_ret (v := .tuple #[.slice qa rr.1.length qc, .int .i64 rr.2]) (by simp [results, go_sem]) rfl ?_
      rw [← HRR.out]
      exact ⟨qa, qc, rfl, Q1.out, Q2.out, B3.out⟩

theorem pWas_any (p : Plant) (P : PTL) (ba : Option Addr) (bc : Nat) (before : List Int) (va : Option Addr) (vc : Nat) (behind : List Int) (w : World) (h : PAt w p P) (hba : At w ba before) (hbl : before.length ≤ maxLen) (hva : At w va behind) (hvl : behind.length ≤ maxLen) (hT : Tab w) :
    Calls Tryd.prog 45 #[ptval p P, .slice ba before.length bc, .slice va behind.length vc] w fun e w' => ListPost w (wasOut p before behind) e w' := by
  obtain ⟨Pl, sa, sc, ta, tc⟩ := P
  exact was_go p Pl sa sc ta tc ba bc before va vc behind w (Hid.of h) (Hid.of hba) (Hid.of hbl) (Hid.of hva) (Hid.of hvl) (Hid.of hT)

end Go.Proofs.YtmimjpkllgjdkaaDoor
