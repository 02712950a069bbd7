/-
  A map keyed by sets of states, and rows of places of package current, as the model runs them.
  Plain: a set that has states, all of them another one's. No program, no model.
  The walk of Set.OnlyIn.
  A plant's value, and what is said of it in a world; a plant that came in, opened.
  The walk of current.May.
  The walks of current.IsSeen, of its closure, and of slices.ContainsFunc and slices.IndexFunc at it.
  The walks of current.watch and of its closure.
-/
import Derived.Test.YtmlkpdeidpcidaaDoorJ15
import Derived.Test.YtmlkpdeidpcidaaDoorJ29
import Derived.Test.YtmlkpdeidpcidaaDoorJ06
import Derived.Test.YtmlkpdeidpcidaaDoorJ16
import Derived.Test.YtmlkpdeidpcidaaDoorJ10
import Derived.Test.YtmlkpdeidpcidaaDoorJ05
import Derived.Test.YtmlkpdeidpcidaaDoorJ03
import Derived.Test.YtmlkpdeidpcidaaDoorJ08
import Derived.Deep.RegionHeld3
import Derived.Test.YtmlkpdeidpcidaaDoorJ18
import Derived.Test.YtmlkpdeidpcidaaDoorJ20
import Derived.Test.YtmlkpdeidpcidaaDoorJ14
import Derived.Test.YtmlkpdeidpcidaaDoorJ12
namespace Go.Proofs.YtmlkpdeidpcidaaDoor
open Go.RowKit
set_option linter.unusedVariables false

/-- A place: its set, its list as a value, and what that reads as. -/
structure PlC where
  s : Nat → Nat
  v : Value
  word : List Int
/-- The set stands for a list, which rises. -/
def RepI (S : Nat → Nat) (s : List Int) : Prop := Rep S s ∧ Inc s
def entC (k : Nat) (p : PlC) : MapEntry := { key := sval p.s, val := .agg #[], born := k }
def entsC (L : List PlC) : Array MapEntry := (L.mapIdx entC).toArray
theorem entsC_snoc (L : List PlC) (p : PlC) : entsC (L ++ [p]) = (entsC L).push (entC L.length p) := by
  unfold entsC; rw [List.mapIdx_concat]; simp
/-- The places stand for what has been found, one by one. -/
structure RepCL (L : List PlC) (l : List (List Int × List Int)) : Prop where
  len : L.length = l.length
  rep : ∀ (k : Nat) (p : PlC), L[k]? = some p → ∃ x, l[k]? = some x ∧ RepI p.s x.1
theorem RepCL.at {L : List PlC} {l : List (List Int × List Int)} (h : RepCL L l) {k : Nat} {x : List Int × List Int} (hk : l[k]? = some x) : ∃ p, L[k]? = some p ∧ RepI p.s x.1 := by
  have hlt := (List.getElem?_eq_some_iff.1 hk).1
  have hlt' : k < L.length := by rw [h.len]; exact hlt
  obtain ⟨y, h1, h2⟩ := h.rep k _ (List.getElem?_eq_getElem hlt')
  rw [hk] at h1
  have h1 := Option.some.inj h1
  subst h1
  exact ⟨_, List.getElem?_eq_getElem hlt', h2⟩
theorem find_sc {L : List PlC} {l : List (List Int × List Int)} (hR : RepCL L l) {S : Nat → Nat} {s : List Int} (hr : RepI S s) (w : World) :
    (knownB l s = true ∧ ∃ j, (Instr.findKey 85 (sval S) (entsC L).toList).run Tryd.prog w = .ok (some (j, .agg #[])) w) ∨ (knownB l s = false ∧ (Instr.findKey 85 (sval S) (entsC L).toList).run Tryd.prog w = .ok none w) := by
  obtain ⟨kl, hl⟩ := keySet hr.1.ok
  have hget : ∀ (j : Nat) e, (entsC L).toList[j]? = some e → ∃ p, L[j]? = some p ∧ e = entC j p := by
    intro j e h
    simp only [entsC] at h
    rw [List.getElem?_mapIdx] at h
    cases hq : L[j]? with
    | none => rw [hq] at h; cases h
    | some q => rw [hq] at h; exact ⟨q, rfl, (Option.some.inj h).symm⟩
  have hes : ∀ e ∈ (entsC L).toList, ∃ l, keyOf Tryd.prog 85 e.key = some l := by
    intro e he
    obtain ⟨j, hj⟩ := List.mem_iff_getElem?.1 he
    obtain ⟨p, hp, rfl⟩ := hget j e hj
    obtain ⟨x, -, h2⟩ := hR.rep j p hp
    exact keySet h2.1.ok
  rcases lawSet.find w hl (entsC L).toList hes with ⟨h1, h2⟩ | ⟨j, e, h1, h2, h3⟩
  · refine .inr ⟨?_, h1⟩
    cases hk : knownB l s with
    | false => rfl
    | true =>
      obtain ⟨x, hx, e1⟩ := (knownB_iff _ _).1 hk
      obtain ⟨j, hj⟩ := List.mem_iff_getElem?.1 hx
      obtain ⟨p, hp, hrp⟩ := hR.at hj
      refine absurd (eqS_sval ((eqS_iff hrp.1 hr.1 hrp.2 hr.2).2 e1)) (h2 (entC j p) (List.mem_of_getElem? (i := j) ?_))
      simp only [entsC]
      rw [List.getElem?_mapIdx, hp]; rfl
  · obtain ⟨p, hp, rfl⟩ := hget j e h2
    obtain ⟨x, hx, hrx⟩ := hR.rep j p hp
    exact .inl ⟨(knownB_iff _ _).2 ⟨x, List.mem_of_getElem? hx, (eqS_iff hrx.1 hr.1 hrx.2 hr.2).1 (sval_eq h3)⟩, j, h1⟩
theorem mapSC : Tryd.prog.underlying 165 = some (.map 85 191) := by kernel_rfl
theorem lookC_known {L : List PlC} {l : List (List Int × List Int)} (hR : RepCL L l) {S : Nat → Nat} {s : List Int} (hr : RepI S s) {w : World} {r c : Nat} (hm : w.heap[r]? = some (.map (entsC L) c)) (h : knownB l s = true) :
    (Instr.lookup 165 (.map (some r)) (sval S) true).run Tryd.prog w = .ok (.tuple #[.agg #[], .bool true]) w := by
  obtain ⟨kl, hl⟩ := keySet hr.1.ok
  rcases find_sc hR hr w with ⟨-, j, h1⟩ | ⟨h1, -⟩
  · simp [Instr.lookup, run_underlying mapSC, MapKept.run_getObj_map hm, lawSet.check w _ hl, h1, Result.andThen]
  · rw [h] at h1; cases h1
theorem lookC_new {L : List PlC} {l : List (List Int × List Int)} (hR : RepCL L l) {S : Nat → Nat} {s : List Int} (hr : RepI S s) {w : World} {r c : Nat} (hm : w.heap[r]? = some (.map (entsC L) c)) (h : knownB l s = false) :
    (Instr.lookup 165 (.map (some r)) (sval S) true).run Tryd.prog w = .ok (.tuple #[.agg #[], .bool false]) w := by
  obtain ⟨kl, hl⟩ := keySet hr.1.ok
  rcases find_sc hR hr w with ⟨h1, -⟩ | ⟨-, h1⟩
  · rw [h] at h1; cases h1
  · simp [Instr.lookup, run_underlying mapSC, MapKept.run_getObj_map hm, lawSet.check w _ hl, h1, Result.andThen]
theorem updC_new {L : List PlC} {l : List (List Int × List Int)} (hR : RepCL L l) {p : PlC} {s : List Int} (hr : RepI p.s s) {w : World} {r : Nat} (hm : w.heap[r]? = some (.map (entsC L) L.length)) (h : knownB l s = false) :
    (Instr.mapUpdate 165 (.map (some r)) (sval p.s) (.agg #[])).run Tryd.prog w = .ok () (setMap w r (.map (entsC (L ++ [p])) (L.length + 1))) := by
  obtain ⟨kl, hl⟩ := keySet hr.1.ok
  rcases find_sc hR hr w with ⟨h1, -⟩ | ⟨-, h1⟩
  · rw [h] at h1; cases h1
  · simp [Instr.mapUpdate, run_underlying mapSC, MapKept.run_getObj_map hm, lawSet.check w _ hl, h1, MapKept.run_setObj_map _ hm, Result.andThen, setMap, entsC_snoc, entC]
/-! Rows of places. -/
end Go.Proofs.YtmlkpdeidpcidaaDoor
namespace Go.Proofs.YtmlkpdeidpcidaaDoor
open Go.RowKit
set_option linter.unusedVariables false

/-! A set that has states, all of them another one's. -/
def onlyS (S T : Nat → Nat) : Bool := !emptyB S && emptyB (lessS S T)
theorem only_set {M R : Nat → Nat} {row k : List Int} (hm : Rep M row) (hR : Rep R k) : onlyS M R = leakB k row := by
  unfold onlyS leakB
  cases he : emptyB M with
  | true =>
    have : row = [] := by
      rw [List.eq_nil_iff_forall_not_mem]
      intro x hx
      obtain ⟨b0, b1⟩ := hm.bd x hx
      have h1 := empty_has he x.toNat (by omega)
      rw [(hm.mem x.toNat (by omega)).2 (by rwa [Int.toNat_of_nonneg b0])] at h1
      cases h1
    subst this; rfl
  | false =>
    obtain ⟨n, hn, h1⟩ := empty_not hm.ok he
    have hpos : 0 < row.length := List.length_pos_of_mem ((hm.mem n hn).1 h1)
    rw [decide_eq_true hpos]
    simp only [Bool.not_false, Bool.true_and]
    cases hl : emptyB (lessS M R) with
    | true =>
      symm
      rw [decide_eq_true_eq, List.length_eq_zero_iff, List.filter_eq_nil_iff]
      intro x hx
      obtain ⟨b0, b1⟩ := hm.bd x hx
      have h2 := empty_has hl x.toNat (by omega)
      rw [hasS_less hR.ok, (hm.mem x.toNat (by omega)).2 (by rwa [Int.toNat_of_nonneg b0])] at h2
      have h3 : hasS R x.toNat = true := by simpa using h2
      have := (hR.mem x.toNat (by omega)).1 h3
      rw [Int.toNat_of_nonneg b0] at this
      unfold hasB; simpa using this
    | false =>
      obtain ⟨m, hm1, h2⟩ := empty_not (okS_less hm.ok) hl
      rw [hasS_less hR.ok] at h2
      simp only [Bool.and_eq_true, Bool.not_eq_true'] at h2
      have m1 := (hm.mem m hm1).1 h2.1
      have m2 : ¬ (m : Int) ∈ k := fun hk => by
        have := (hR.mem m hm1).2 hk
        rw [h2.2] at this; cases this
      symm
      rw [decide_eq_false_iff_not]
      have : 0 < (row.filter fun n => hasB k n == false).length := List.length_pos_of_mem (List.mem_filter.2 ⟨m1, by unfold hasB; simpa using m2⟩)
      omega

end Go.Proofs.YtmlkpdeidpcidaaDoor
namespace Go.Proofs.YtmlkpdeidpcidaaDoor
open Go.RowKit
set_option linter.unusedVariables false

set_option maxRecDepth 100000 in
set_option maxHeartbeats 4000000 in
theorem onlyIn_any (S T : Nat → Nat) (oS : okS S) (oT : okS T) (w : World) :
    Calls Tryd.prog 79 #[sval S, sval T] w fun e w' => e = .returned (.bool (onlyS S T)) ∧ Below w.heap.size w w' := by
  have B : Hid (Below w.heap.size w ((w.alloc (.cells (scells S) 85)).alloc (.cells (scells T) 85))) := ((Below.refl _ _).alloc (Nat.le_refl _) _).alloc (by simp) _
  have KS : Hid (SB ((w.alloc (.cells (scells S) 85)).alloc (.cells (scells T) 85)) w.heap.size S) := (Blk.new w _ _).alloc _
  have KT : Hid (SB ((w.alloc (.cells (scells S) 85)).alloc (.cells (scells T) 85)) (w.heap.size + 1) T) := by
    have := Blk.new (w.alloc (.cells (scells S) 85)) 85 (scells T)
    rwa [World.size_alloc] at this
  obtain ⟨x0, x1, x2, x3⟩ := SB.cells KS.out
  obtain ⟨y0, y1, y2, y3⟩ := SB.cells KT.out
  go_enter Tryd.func79, Tryd.ntmps79
  have heq : ∀ V, (Op.equalIn 10000 85 (.agg #[.int .u64 (S 0), .int .u64 (S 1), .int .u64 (S 2), .int .u64 (S 3)]) (.agg #[.int .u64 0, .int .u64 0, .int .u64 0, .int .u64 0])).run Tryd.prog V = .ok (emptyB S) V := fun V => run_equalIn_set S V
  have hgd := run_guard_set
  cases hm : emptyB S with
  | true =>
    have HO : Hid (false = onlyS S T) := by show _ = _; unfold onlyS; rw [hm]; rfl
    rw [hm] at heq
    clear hm
    go_wp2_with fail
    exact bodyPost_ret (v := .bool false) (by simp [results, go_sem]) rfl ⟨ret_bool HO.out, B.out⟩
  | false =>
    have HO : Hid (emptyB (lessS S T) = onlyS S T) := by show _ = _; unfold onlyS; rw [hm]; rfl
    rw [hm] at heq
    clear hm
    go_wp2_with fail
    refine (less_any S T _ oS oT).mono ?_
    rintro e V2 ⟨rfl, hb⟩
    have B2 := Hid.of (B.out.trans (hb.mono B.out.size))
    clear hb B x0 x1 x2 x3 y0 y1 y2 y3 KS KT heq
    obtain ⟨Z, HZ⟩ : ∃ Z, Hid (Z = lessS S T) := ⟨_, rfl⟩
    rw [← HZ.out] at HO
    rw [← HZ.out]
    have heq : (Op.equalIn 10000 85 (.agg #[.int .u64 (Z 0), .int .u64 (Z 1), .int .u64 (Z 2), .int .u64 (Z 3)]) (.agg #[.int .u64 0, .int .u64 0, .int .u64 0, .int .u64 0])).run Tryd.prog V2 = .ok (emptyB Z) V2 := run_equalIn_set Z V2
    go_wp2_with fail
    exact bodyPost_ret (v := .bool (emptyB Z)) (by simp [results, go_sem]) rfl ⟨ret_bool HO.out, B2.out⟩

end Go.Proofs.YtmlkpdeidpcidaaDoor
namespace Go.Proofs.YtmlkpdeidpcidaaDoor
open Go.ChangeShapes Go.WideShapes Go.ChangeAt Go.RowKit Go.Deep
set_option linter.unusedVariables false
set_option maxRecDepth 100000

/-- Where a plant's slices lie. -/
structure PTL where
  l : ML
  sa : Option Addr
  sc : Nat
  ta : Option Addr
  tc : Nat
abbrev ptcells (p : Plant) (L : PTL) : Array Value := #[.int .i64 p.m.st, .int .i64 p.m.ev, .slice L.l.a1 p.m.starts.length L.l.c1, .slice L.l.a2 p.m.arrows.length L.l.c2, .slice L.l.a3 p.m.ends.length L.l.c3, .slice L.sa p.seen.length L.sc, .slice L.ta p.secret.length L.tc]
abbrev ptval (p : Plant) (L : PTL) : Value := .agg (ptcells p L)
structure PAt (w : World) (p : Plant) (L : PTL) : Prop where
  m : MAt w p.m L.l
  s : Sl w L.sa L.sc p.seen
  t : Sl w L.ta L.tc p.secret
theorem PAt.below {w w' : World} {p : Plant} {L : PTL} {B : Nat} (h : PAt w p L) (hb : Below B w w') (hB : w.heap.size ≤ B) : PAt w' p L := ⟨h.m.below hb hB, h.s.below hb hB, h.t.below hb hB⟩
theorem ptcell_at {W : World} {b : Nat} {p : Plant} {L : PTL} (h : Blk W b 44 (ptcells p L)) : W.cell? ⟨b, 0, none⟩ = some (.int .i64 p.m.st) ∧ W.cell? ⟨b, 1, none⟩ = some (.int .i64 p.m.ev) ∧ W.cell? ⟨b, 2, none⟩ = some (.slice L.l.a1 p.m.starts.length L.l.c1) ∧ W.cell? ⟨b, 3, none⟩ = some (.slice L.l.a2 p.m.arrows.length L.l.c2) ∧ W.cell? ⟨b, 4, none⟩ = some (.slice L.l.a3 p.m.ends.length L.l.c3) ∧ W.cell? ⟨b, 5, none⟩ = some (.slice L.sa p.seen.length L.sc) ∧ W.cell? ⟨b, 6, none⟩ = some (.slice L.ta p.secret.length L.tc) :=
  ⟨h.cell 0 rfl, h.cell 1 rfl, h.cell 2 rfl, h.cell 3 rfl, h.cell 4 rfl, h.cell 5 rfl, h.cell 6 rfl⟩

section
variable {H : Type} {enc : TypeId × Value → H} {W : World}
theorem array7 {α : Type} {cs : Array α} (h : cs.size = 7) : ∃ c0 c1 c2 c3 c4 c5 c6, cs = #[c0, c1, c2, c3, c4, c5, c6] := by
  obtain ⟨l⟩ := cs
  match l, h with
  | [c0, c1, c2, c3, c4, c5, c6], _ => exact ⟨c0, c1, c2, c3, c4, c5, c6, rfl⟩
theorem plant_of_cells {fuel : Nat} {c0 c1 c2 c3 c4 c5 c6 : Value} {x : DataW H × List MemPlace} (h : DataW.trod enc Tryd.prog W 0 (fun _ => true) true fuel 44 [c0, c1, c2, c3, c4, c5, c6] = some x) : ∃ p L, Value.agg #[c0, c1, c2, c3, c4, c5, c6] = ptval p L ∧ PAt W p L := by
  obtain ⟨xs, n, _, _, _, hlen, hf⟩ := DataW.trod_struct Tryd.underlying44 h
  have hlen3 : xs.length = 3 := hlen
  match xs, hlen3 with
  | [y0, y1, y2], _ =>
    have i1 : Tryd.prog.cellsOf 25 = 5 := by kernel_rfl
    have i2 : Tryd.prog.cellsOf 22 = 1 := by kernel_rfl
    have h0 := hf 0 { name := "Machine", type := 25, offset := 0, embedded := false, tag := "", pkgPath := "", byteOffset := 0 } rfl
    have h1 := hf 1 { name := "Seen", type := 22, offset := 5, embedded := false, tag := "", pkgPath := "", byteOffset := 88 } rfl
    have h2 := hf 2 { name := "Secret", type := 22, offset := 6, embedded := false, tag := "", pkgPath := "", byteOffset := 112 } rfl
    dsimp only at h0 h1 h2
    simp only [i1, i2, List.drop_succ_cons, List.drop_zero, List.take_succ_cons, List.take_zero, List.getElem?_cons_zero, List.getElem?_cons_succ] at h0 h1 h2
    obtain ⟨m, l, e0, hm⟩ := mach_of_cells h0
    obtain ⟨a1, k1, seen, e1, s1, s2, s3, s4, s5⟩ := ints_of_trod h1
    obtain ⟨a2, k2, secret, e2, r1, r2, r3, r4, r5⟩ := ints_of_trod h2
    simp only [List.cons.injEq, and_true] at e1 e2
    subst e1 e2
    have e0' : #[c0, c1, c2, c3, c4] = mcells m l := by injection e0
    have e3 : [c0, c1, c2, c3, c4] = (mcells m l).toList := by rw [← e0']
    simp only [List.cons.injEq, and_true] at e3
    obtain ⟨q0, q1, q2, q3, q4⟩ := e3
    exact ⟨⟨m, seen, secret⟩, ⟨l, a1, k1, a2, k2⟩, by rw [q0, q1, q2, q3, q4], hm, ⟨s3, s1, s2, s4⟩, ⟨r3, r1, r2, r4⟩⟩
/-- A PLANT THAT CAME IN. -/
theorem open_plant {base : Nat} {v : Value} {d : DataW H} {p : List MemPlace} (hv : Value.okWide Tryd.prog W .any base 44 v) (h : DataW.Trod enc Tryd.prog W 0 (fun _ => true) true 44 v d p) : ∃ q L, v = ptval q L ∧ PAt W q L := by
  obtain ⟨cs, rfl, hsz⟩ := okWide_struct Tryd.underlying44 hv
  obtain ⟨c0, c1, c2, c3, c4, c5, c6, rfl⟩ := array7 (hsz.trans (by kernel_rfl))
  obtain ⟨fuel, hf⟩ := h
  exact plant_of_cells (by simpa [Value.cells] using hf)
end

end Go.Proofs.YtmlkpdeidpcidaaDoor
namespace Go.Proofs.YtmlkpdeidpcidaaDoor
open Go.RowKit
set_option linter.unusedVariables false

set_option maxRecDepth 100000 in
set_option maxHeartbeats 4000000 in
theorem pCurMay_any (p : Plant) (P : PTL) (w : World) (h : PAt w p P) :
    Calls Tryd.prog 28 #[ptval p P] w fun e w' => e = .returned (.bool (mayP p)) ∧ Below w.heap.size w w' := by
  have B : Hid (Below w.heap.size w (w.alloc (.cells (ptcells p P) 44))) := (Below.refl _ _).alloc (Nat.le_refl _) _
  have KP : Hid (Blk (w.alloc (.cells (ptcells p P) 44)) w.heap.size 44 (ptcells p P)) := Blk.new w _ _
  have H := Hid.of h
  clear h
  go_enter Tryd.func28, Tryd.ntmps28
  obtain ⟨x0, x1, x2, x3, x4, x5, x6⟩ := ptcell_at KP.out
  go_wp2_with fail
  clear x0 x1 x2 x3 x4 x5 x6
  revert B KP
  generalize (w.alloc (.cells (ptcells p P) 44)) = V0
  intro B KP
  refine (pMay_any p.m P.l V0 (H.out.m.below B.out (Nat.le_refl _))).mono ?_
  rintro e W1 ⟨rfl, hb⟩
  replace B := Hid.of (B.out.trans (hb.mono B.out.size))
  replace KP := Hid.of (KP.out.below hb KP.out.lt)
  clear hb
  cases hm : mayB p.m with
  | false =>
    have HO : Hid (false = mayP p) := by show _ = _; unfold mayP; rw [hm]; rfl
    clear hm
    go_wp2_with fail
    go_ret
    exact ⟨ret_bool HO.out, B.out⟩
  | true =>
    have HM := Hid.of hm
    clear hm
    obtain ⟨x0, x1, x2, x3, x4, x5, x6⟩ := ptcell_at KP.out
    by_cases hs6 : p.m.st ≤ 6
    · have d1 : decide (p.m.st ≤ (6 : Int)) = true := by simpa using hs6
      have H6 := Hid.of hs6
      clear hs6
      go_wp2_with fail
      refine (rowIs_any P.sa P.sc p.seen p.m.ev W1 (H.out.s.at_.below B.out (Nat.le_refl _)) H.out.s.len).mono ?_
      rintro e W2 ⟨rfl, rfl⟩
      cases hr : rowB p.m.ev p.seen with
      | false =>
        have HO : Hid (false = mayP p) := by show _ = _; unfold mayP; rw [hr]; simp
        clear hr
        go_wp2_with fail
        go_ret
        exact ⟨ret_bool HO.out, B.out⟩
      | true =>
        have HO : Hid (rowB p.m.st p.secret = mayP p) := by show _ = _; unfold mayP; rw [HM.out, hr, decide_eq_true H6.out]; rfl
        clear hr
        go_wp2_with fail
        refine (rowIs_any P.ta P.tc p.secret p.m.st W2 (H.out.t.at_.below B.out (Nat.le_refl _)) H.out.t.len).mono ?_
        rintro e W3 ⟨rfl, rfl⟩
        go_wp2_with fail
        go_ret
        exact ⟨ret_bool HO.out, B.out⟩
    · have d1 : decide (p.m.st ≤ (6 : Int)) = false := by simpa using hs6
      have HO : Hid (false = mayP p) := by show _ = _; unfold mayP; rw [d1]; simp
      clear hs6
      go_wp2_with fail
      go_ret
      exact ⟨ret_bool HO.out, B.out⟩

end Go.Proofs.YtmlkpdeidpcidaaDoor
namespace Go.Proofs.YtmlkpdeidpcidaaDoor
open Go.RowKit
set_option linter.unusedVariables false

/-- Are all of a list seen? -/
def allIn (seen xs : List Int) : Bool := xs.all fun n => hasB seen n
theorem allIn_yes {seen xs : List Int} {k : Nat} {x : Int} (h : k < xs.length) (hx : Hid (x = xs[k]?.getD 0)) (he : Hid (allIn seen xs = allIn seen (xs.drop k))) (hy : hasB seen x = true) : Hid (allIn seen xs = allIn seen (xs.drop (k + 1))) := by
  show allIn seen xs = _
  rw [he.out, drop_cons h, ← hx.out]
  unfold allIn
  rw [List.all_cons, hy, Bool.true_and]
theorem allIn_no {seen xs : List Int} {k : Nat} {x : Int} (h : k < xs.length) (hx : Hid (x = xs[k]?.getD 0)) (he : Hid (allIn seen xs = allIn seen (xs.drop k))) (hy : hasB seen x = false) : allIn seen xs = false := by
  rw [he.out, drop_cons h, ← hx.out]
  unfold allIn
  rw [List.all_cons, hy, Bool.false_and]
theorem allIn_end {seen xs : List Int} {k : Nat} (h : ¬ k < xs.length) (he : Hid (allIn seen xs = allIn seen (xs.drop k))) : allIn seen xs = true := by
  rw [he.out, List.drop_eq_nil_of_le (by omega)]; rfl
theorem allIn_iff (seen xs : List Int) : allIn seen xs = true ↔ ∀ e ∈ xs, e ∈ seen := by
  unfold allIn
  rw [List.all_eq_true]
  exact ⟨fun h e he => (hasB_iff _ _).1 (h e he), fun h e he => (hasB_iff _ _).2 (h e he)⟩

set_option maxHeartbeats 400000 in
theorem isSeen1_any (sa : Option Addr) (sc : Nat) (seen : List Int) (n : Int) (pb : Nat) (w : World) (h5 : w.cell? ⟨pb, 5, none⟩ = some (.slice sa seen.length sc)) (hs : Hid (At w sa seen)) (hl : Hid (seen.length ≤ maxLen)) :
    Calls Tryd.prog 133 #[.int .i64 n, .pointer (some ⟨pb, 0, none⟩)] w fun e w' => e = .returned (.bool (!hasB seen n)) ∧ w' = w := by
  go_enter Tryd.func133, Tryd.ntmps133
  go_wp2_with (go_at_call 128; refine (rowHas_any sa sc seen n _ hs.out hl.out).mono ?_; rintro e w1 ⟨rfl, rfl⟩)
  go_ret
  exact ⟨rfl, rfl⟩

set_option maxHeartbeats 1000000 in
theorem cindexFunc_some (sa : Option Addr) (sc : Nat) (seen : List Int) (pb b off cap : Nat) (xs : List Int) (w : World) (hl : xs.length ≤ 9223372036854775807) (hc : Cells w b off xs) (h5 : Hid (w.cell? ⟨pb, 5, none⟩ = some (.slice sa seen.length sc))) (hs : Hid (At w sa seen)) (hsl : Hid (seen.length ≤ maxLen)) :
    Calls Tryd.prog 179 #[.slice (some ⟨b, off, none⟩) xs.length cap, .func (.func 133) #[] #[.pointer (some ⟨pb, 0, none⟩)]] w fun e w' => ∃ r : Int, e = .returned (.int .i64 r) ∧ decide (0 ≤ r) = !allIn seen xs ∧ w' = w := by
  go_enter Tryd.func179, Tryd.ntmps179
  go_wp2
  go_loop [8] (fun i => ∃ k : Nat, k ≤ xs.length ∧ i = .int .i64 k ∧ Hid (allIn seen xs = allIn seen (xs.drop k))) (fun i => xs.length - (intOf i).toNat)
  case atStart => exact ⟨0, Nat.zero_le _, rfl, rfl⟩
  case round =>
    obtain ⟨k, hk, rfl, he⟩ := hrel
    by_cases hlt : k < xs.length
    · obtain ⟨x, HX, hcx⟩ := hc.at hlt
      cases hi : hasB seen x with
      | true =>
        have HI := Hid.of hi
        go_wp2_with (go_at_call 133; refine (isSeen1_any sa sc seen x pb _ h5.out hs hsl).mono ?_; rintro e w1 ⟨rfl, rfl⟩)
        go_round
        case rel => exact ⟨k + 1, by omega, by go_num, allIn_yes hlt HX he HI.out⟩
        case measure => simp [intOf]; omega
      | false =>
        have HI := Hid.of hi
        go_wp2_with (go_at_call 133; refine (isSeen1_any sa sc seen x pb _ h5.out hs hsl).mono ?_; rintro e w1 ⟨rfl, rfl⟩)
        go_ret
        exact ⟨_, rfl, by rw [allIn_no hlt HX he HI.out]; simp, rfl⟩
    · go_wp2
      go_ret
      exact ⟨_, rfl, by rw [allIn_end hlt he]; simp, rfl⟩

set_option maxHeartbeats 400000 in
theorem cindexFunc_nil (seen : List Int) (a : Option Addr) (cap : Nat) (f : Value) (w : World) :
    Calls Tryd.prog 179 #[.slice a 0 cap, f] w fun e w' => ∃ r : Int, e = .returned (.int .i64 r) ∧ decide (0 ≤ r) = !allIn seen [] ∧ w' = w := by
  go_enter Tryd.func179, Tryd.ntmps179
  go_wp2
  refine wp_loop_rounds 1 ?_
  rw [rounds_succ]
  go_wp2
  go_ret
  exact ⟨_, rfl, rfl, rfl⟩

theorem cindexFunc_any (sa : Option Addr) (sc : Nat) (seen : List Int) (pb cap : Nat) (a : Option Addr) (xs : List Int) (w : World) (hx : At w a xs) (hl : xs.length ≤ maxLen) (h5 : Hid (w.cell? ⟨pb, 5, none⟩ = some (.slice sa seen.length sc))) (hs : Hid (At w sa seen)) (hsl : Hid (seen.length ≤ maxLen)) :
    Calls Tryd.prog 179 #[.slice a xs.length cap, .func (.func 133) #[] #[.pointer (some ⟨pb, 0, none⟩)]] w fun e w' => ∃ r : Int, e = .returned (.int .i64 r) ∧ decide (0 ≤ r) = !allIn seen xs ∧ w' = w := by
  rcases hx with rfl | ⟨b, off, rfl, hb, hc⟩
  · exact cindexFunc_nil seen a cap _ w
  · exact cindexFunc_some sa sc seen pb b off cap xs w hl hc h5 hs hsl

set_option maxHeartbeats 400000 in
theorem ccontainsFunc_any (sa : Option Addr) (sc : Nat) (seen : List Int) (pb cap : Nat) (a : Option Addr) (xs : List Int) (w : World) (hx : At w a xs) (hl : xs.length ≤ maxLen) (h5 : Hid (w.cell? ⟨pb, 5, none⟩ = some (.slice sa seen.length sc))) (hs : Hid (At w sa seen)) (hsl : Hid (seen.length ≤ maxLen)) :
    Calls Tryd.prog 132 #[.slice a xs.length cap, .func (.func 133) #[] #[.pointer (some ⟨pb, 0, none⟩)]] w fun e w' => e = .returned (.bool (!allIn seen xs)) ∧ w' = w := by
  have H := Hid.of (cindexFunc_any sa sc seen pb cap a xs w hx hl h5 hs hsl)
  clear h5 hs hsl hx hl
  go_enter Tryd.func132, Tryd.ntmps132
  go_wp2_with (go_at_call 179; refine H.out.mono ?_; rintro e w1 ⟨r, rfl, hr, rfl⟩; have HR := Hid.of hr; clear hr)
  go_ret
  exact ⟨ret_bool HR.out, rfl⟩

set_option maxRecDepth 100000 in
set_option maxHeartbeats 1000000 in
theorem cisSeen_any (p : Plant) (P : PTL) (a : Option Addr) (cap : Nat) (xs : List Int) (w : World) (hP : Hid (PAt w p P)) (hx : Hid (At w a xs)) (hl : Hid (xs.length ≤ maxLen)) :
    Calls Tryd.prog 77 #[ptval p P, .slice a xs.length cap] w fun e w' => e = .returned (.bool (allIn p.seen xs)) ∧ Below w.heap.size w w' := by
  have hmf : ∀ (fn : Fn) (first cap : Array Value) (w : World), (Instr.makeFunc fn first cap).run Tryd.prog w = .ok (.func fn first cap) w := fun _ _ _ _ => rfl
  have B : Hid (Below w.heap.size w (w.alloc (.cells (ptcells p P) 44))) := (Below.refl _ _).alloc (Nat.le_refl _) _
  have KP : Hid (Blk (w.alloc (.cells (ptcells p P) 44)) w.heap.size 44 (ptcells p P)) := Blk.new w _ _
  go_enter Tryd.func77, Tryd.ntmps77
  go_wp2_with fail
  revert B KP
  generalize (w.alloc (.cells (ptcells p P) 44)) = V0
  intro B KP
  refine (ccontainsFunc_any P.sa P.sc p.seen w.heap.size cap a xs V0 (hx.out.below B.out (Nat.le_refl _)) hl.out (Hid.of (ptcell_at KP.out).2.2.2.2.2.1) (Hid.of (hP.out.s.at_.below B.out (Nat.le_refl _))) (Hid.of hP.out.s.len)).mono ?_
  rintro e V1 ⟨rfl, rfl⟩
  go_wp2_with fail
  go_ret
  exact ⟨ret_bool (by simp), B.out⟩

end Go.Proofs.YtmlkpdeidpcidaaDoor
namespace Go.Proofs.YtmlkpdeidpcidaaDoor
open Go.RowKit
set_option linter.unusedVariables false

theorem idx_place (n : Int) : ∀ (xs : List Int) (k : Nat), (∃ j : Nat, placeN xs n = some j ∧ idxFrom n k xs = ((k + j : Nat) : Int)) ∨ (placeN xs n = none ∧ idxFrom n k xs = -1)
  | [], k => .inr ⟨rfl, rfl⟩
  | x :: r, k => by
    unfold placeN idxFrom
    by_cases h : n = x
    · subst h
      exact .inl ⟨0, by simp, by simp⟩
    · have h' : ¬ x = n := fun e => h e.symm
      rw [if_neg h]
      rcases idx_place n r (k + 1) with ⟨j, h1, h2⟩ | ⟨h1, h2⟩
      · exact .inl ⟨j + 1, by simp [h', h1], by rw [h2]; simp; omega⟩
      · exact .inr ⟨by simp [h', h1], h2⟩
theorem idx_of {n : Int} {xs : List Int} {j : Nat} (h : placeN xs n = some j) : idxFrom n 0 xs = (j : Int) := by
  rcases idx_place n xs 0 with ⟨i, h1, h2⟩ | ⟨h1, -⟩
  · rw [h] at h1
    have := Option.some.inj h1
    subst this
    rw [h2]; simp
  · rw [h] at h1; cases h1

abbrev zs4 : Array Value := #[.int .u64 0, .int .u64 0, .int .u64 0, .int .u64 0]
/-- The closure that tells where an estimate leads to, and what it knows. -/
abbrev cleadV (pl pp : Nat) : Value := .func (.func 130) #[] #[.pointer (some ⟨pl, 0, none⟩), .pointer (some ⟨pp, 0, none⟩)]
structure CL (W : World) (pl pp : Nat) (L : LB) (p : Plant) (P : PTL) : Prop where
  ca : Blk W pl 108 #[leadV L]
  cp : Blk W pp 44 (ptcells p P)
  pt : PAt W p P
  la : LD W L p.seen.length (p.m.st.toNat * p.seen.length) (tabS p.seen.length (hideM p.m p.seen).arrows)
theorem CL.kept {W W' : World} {pl pp : Nat} {L : LB} {p : Plant} {P : PTL} (h : CL W pl pp L p P) (hb : Below W.heap.size W W') : CL W' pl pp L p P :=
  ⟨h.ca.below hb h.ca.lt, h.cp.below hb h.cp.lt, h.pt.below hb (Nat.le_refl _), h.la.kept hb⟩

set_option maxRecDepth 100000 in
set_option maxHeartbeats 8000000 in
theorem cwatch1_any (p : Plant) (P : PTL) (S : Nat → Nat) (e : Int) (k : Nat) (hk : Hid (placeN p.seen e = some k)) (hk2 : k < p.seen.length) (h8 : p.seen.length ≤ 8) (h256 : p.m.st.toNat ≤ 256) (hS : Hid (okS S)) (hall : Hid (∀ n ∈ allS S, n < p.m.st.toNat)) (pl pp : Nat) (L : LB) (w : World) (hT : Hid (Tab w)) (hL : Hid (CL w pl pp L p P)) :
    Calls Tryd.prog 130 #[sval S, .int .i64 e, .pointer (some ⟨pl, 0, none⟩), .pointer (some ⟨pp, 0, none⟩)] w fun e' w' => e' = .returned (sval (leadS p.seen.length (hideM p.m p.seen).arrows S k)) ∧ Below w.heap.size w w' := by
  have B0 : Hid (Below w.heap.size w ((w.alloc (.cells (scells S) 85)).alloc (.cells zs4 85))) := ((Below.refl _ _).alloc (Nat.le_refl _) _).alloc (by simp) _
  have K0 : Hid (SB ((w.alloc (.cells (scells S) 85)).alloc (.cells zs4 85)) w.heap.size S) := (Blk.new w _ _).alloc _
  have R0 : Hid (SB ((w.alloc (.cells (scells S) 85)).alloc (.cells zs4 85)) (w.heap.size + 1) zeroS) := by
    have := Blk.new (w.alloc (.cells (scells S) 85)) 85 zs4
    rwa [World.size_alloc] at this
  go_enter Tryd.func130, Tryd.ntmps130
  go_wp2_with fail
  revert B0 K0 R0
  generalize (w.alloc (.cells (scells S) 85)).alloc (.cells zs4 85) = V0
  intro B0 K0 R0
  have cellsAt : Hid (∀ W, Below w.heap.size w W → SB W w.heap.size S → W.cell? ⟨w.heap.size, 0, none⟩ = some (.int .u64 (S 0)) ∧ W.cell? ⟨w.heap.size, 1, none⟩ = some (.int .u64 (S 1)) ∧ W.cell? ⟨w.heap.size, 2, none⟩ = some (.int .u64 (S 2)) ∧ W.cell? ⟨w.heap.size, 3, none⟩ = some (.int .u64 (S 3)) ∧ W.cell? ⟨pl, 0, none⟩ = some (leadV L) ∧ W.cell? ⟨pp, 5, none⟩ = some (.slice P.sa p.seen.length P.sc)) := fun W hb hp => by
    obtain ⟨x0, x1, x2, x3⟩ := SB.cells hp
    exact ⟨x0, x1, x2, x3, (hL.out.ca.below hb hL.out.ca.lt).cell 0 rfl, (hL.out.cp.below hb hL.out.cp.lt).cell 5 rfl⟩
  refine wp_region_held_drew (S := fun w' => w'.cell? ⟨w.heap.size, 0, none⟩ = some (.int .u64 (S 0)) ∧ w'.cell? ⟨w.heap.size, 1, none⟩ = some (.int .u64 (S 1)) ∧ w'.cell? ⟨w.heap.size, 2, none⟩ = some (.int .u64 (S 2)) ∧ w'.cell? ⟨w.heap.size, 3, none⟩ = some (.int .u64 (S 3)) ∧ w'.cell? ⟨pl, 0, none⟩ = some (leadV L) ∧ w'.cell? ⟨pp, 5, none⟩ = some (.slice P.sa p.seen.length P.sc)) (by kernel_rfl) (cellsAt.out _ B0.out.drew (Blk.drew K0.out)) (fun hS0 => ?_)
  have B1 : Hid (Below w.heap.size w V0.drew) := B0.out.drew
  have K1 : Hid (SB V0.drew w.heap.size S) := Blk.drew K0.out
  have R1 : Hid (SB V0.drew (w.heap.size + 1) zeroS) := Blk.drew R0.out
  clear B0 K0 R0
  revert B1 K1 R1 hS0
  generalize V0.drew = Y0
  intro hS0 B1 K1 R1
  refine wpAnyH_take (i := 0) (v := leadV L) rfl (by kernel_rfl) (by kernel_rfl) (by kernel_rfl) (fun _ _ _ h => h) (Or.inl ⟨by kernel_rfl, fun w' hw' => by obtain ⟨q0, q1, q2, q3, q4, q5⟩ := hw'; go_simp⟩) hS0 ?_
  refine wpAnyH_take (i := 1) (v := sval S) rfl (by kernel_rfl) (by kernel_rfl) (by kernel_rfl) (fun _ _ _ h => h) (Or.inl ⟨by kernel_rfl, fun w' hw' => by obtain ⟨q0, q1, q2, q3, q4, q5⟩ := hw'; go_simp⟩) hS0 ?_
  refine wpAnyH_take (i := 2) (v := .pointer (some ⟨pp, 5, none⟩)) rfl (by kernel_rfl) (by kernel_rfl) (by kernel_rfl) (fun _ _ _ h => h) (Or.inl ⟨by kernel_rfl, fun w' hw' => by obtain ⟨q0, q1, q2, q3, q4, q5⟩ := hw'; go_simp⟩) hS0 ?_
  refine wpAnyH_take (i := 3) (v := .slice P.sa p.seen.length P.sc) rfl (by kernel_rfl) (by kernel_rfl) (by kernel_rfl) (fun _ _ _ h => h) (Or.inl ⟨by kernel_rfl, fun w' hw' => by obtain ⟨q0, q1, q2, q3, q4, q5⟩ := hw'; go_simp⟩) hS0 ?_
  refine wpAnyH_take (i := 4) (v := .int .i64 e) rfl (by kernel_rfl) (by kernel_rfl) (by kernel_rfl) (fun _ _ _ h => h) (Or.inl ⟨by kernel_rfl, fun w' hw' => by obtain ⟨q0, q1, q2, q3, q4, q5⟩ := hw'; go_simp⟩) hS0 ?_
  simp only [Act.put, List.setIfInBounds_toArray]
  refine wpAnyH_ready (rs := [5]) (by kernel_rfl) (by simp) ?_
  refine AllReadyH.cons rfl (fun K' hK' => ?_) AllReadyH.nil
  go_simp
  refine (index_any P.sa P.sc p.seen e Y0 (hL.out.pt.s.at_.below B1.out (Nat.le_refl _)) hL.out.pt.s.len).mono ?_
  rintro e1 Y1 ⟨rfl, rfl⟩
  rw [idx_of hk.out]
  refine hK'.out _ _ (cellsAt.out _ B1.out K1.out) (fun hS1 => ?_)
  clear hK' K' hS0
  refine wpAnyH_ready (rs := [6]) (by kernel_rfl) (by simp) ?_
  refine AllReadyH.cons rfl (fun K' hK' => ?_) AllReadyH.nil
  go_simp
  refine (lead1_any p.m.st.toNat p.seen.length k L _ (okS_tab _ _) S hS.out hall.out hk2 h8 h256 _ (hT.out.below B1.out hT.out.lt) (hL.out.la.below B1.out hL.out.la.lt)).mono ?_
  rintro e1 Y2 ⟨rfl, hb1⟩
  have B3 := Hid.of (B1.out.trans (hb1.mono B1.out.size))
  have K3 := Hid.of (K1.out.below hb1 K1.out.lt)
  have R3 := Hid.of (R1.out.below hb1 R1.out.lt)
  refine hK'.out _ _ (cellsAt.out _ B3.out K3.out) (fun hS2 => ?_)
  clear hK' K' hb1 B1 K1 R1 hS1
  obtain ⟨Q, HQ⟩ : ∃ Q, Hid (Q = leadF (tabS p.seen.length (hideM p.m p.seen).arrows) p.seen.length k (allS S)) := ⟨_, rfl⟩
  rw [← HQ.out]
  have HR : Hid (leadS p.seen.length (hideM p.m p.seen).arrows S k = Q) := by show _ = _; unfold leadS; rw [HQ.out]
  refine wpAnyH_ready (rs := [7]) (by kernel_rfl) (by simp) ?_
  refine AllReadyH.cons rfl (fun K' hK' => ?_) AllReadyH.nil
  have rz := R3.out.frozen
  obtain ⟨r0, r1, r2, r3⟩ := SB.cells R3.out
  have RR := Hid.of (SB.set4 R3.out Q)
  have BB := Hid.of (below_set4 B3.out (b' := w.heap.size + 1) (by omega) (.int .u64 (Q 0)) (.int .u64 (Q 1)) (.int .u64 (Q 2)) (.int .u64 (Q 3)))
  have KK : Hid (SB _ w.heap.size S) := Blk.other4 K3.out (Nat.ne_of_lt (Nat.lt_succ_self w.heap.size)) (.int .u64 (Q 0)) (.int .u64 (Q 1)) (.int .u64 (Q 2)) (.int .u64 (Q 3))
  go_simp
  refine hK'.out _ _ (cellsAt.out _ BB.out KK.out) (fun hS3 => ?_)
  clear hK' K' r0 r1 r2 r3 rz hS2 hS3
  refine wpAnyH_done (by kernel_rfl) ?_ _
  obtain ⟨r0, r1, r2, r3⟩ := SB.cells RR.out
  go_wp2
  refine bodyPost_ret (v := sval Q) ?_ rfl ⟨by rw [HR.out], BB.out⟩
  simp [results, go_sem, r0, r1, r2, r3]

/-- What watch leaves, where the plant may be. -/
def WatchPost (w : World) (p : Plant) (P : PTL) (e : Ending) (w' : World) : Prop := ∃ pl pp L, e = .returned (.tuple #[sval (ofS (wideL p.m.arrows p.seen p.m.starts)), cleadV pl pp, .int .i64 0]) ∧ CL w' pl pp L p P ∧ Below w.heap.size w w'

theorem results_setTwo {fn : Func} {p u v : Tmp} (h : fn.results = #[.cell p 85, .tmp u, .tmp v]) (tmps : Array Value) (w : World) (g : Nat) (S : Nat → Nat) (x y : Value) (hp : tmps.getD p undef = .pointer (some ⟨g, 0, none⟩)) (hu : tmps.getD u undef = x) (hv : tmps.getD v undef = y) (hB : SB w g S) :
    (results fn tmps).run Tryd.prog w = .ok (.tuple #[sval S, x, y]) w := by
  obtain ⟨x0, x1, x2, x3⟩ := SB.cells hB
  have e : (results fn tmps).run Tryd.prog w = ((asAddr (tmps.getD p undef)).run Tryd.prog w).andThen fun a w₁ => ((loadVar 85 a).run Tryd.prog w₁).andThen fun r w₂ => .ok (.tuple #[r, tmps.getD u undef, tmps.getD v undef]) w₂ := by
    simp only [results, h]
    simp [Sem.run_bind, Result.andThen]
  rw [e, hp, hu, hv]
  go_simp

set_option maxRecDepth 100000 in
set_option maxHeartbeats 8000000 in
theorem cwatch_bad (p : Plant) (P : PTL) (w : World) (h : Hid (PAt w p P)) (hp : Hid (mayP p = false)) :
    Calls Tryd.prog 76 #[ptval p P] w fun e w' => e = .returned (.tuple #[sval zeroS, .nilFunc, .int .i64 2]) ∧ Below w.heap.size w w' := by
  have B : Hid (Below w.heap.size w ((w.alloc (.cells (ptcells p P) 44)).alloc (.cells zs4 85))) := ((Below.refl _ _).alloc (Nat.le_refl _) _).alloc (by simp) _
  have KP : Hid (Blk ((w.alloc (.cells (ptcells p P) 44)).alloc (.cells zs4 85)) w.heap.size 44 (ptcells p P)) := (Blk.new w _ _).alloc _
  have KR : Hid (SB ((w.alloc (.cells (ptcells p P) 44)).alloc (.cells zs4 85)) (w.heap.size + 1) zeroS) := by
    have := Blk.new (w.alloc (.cells (ptcells p P) 44)) 85 zs4
    rwa [World.size_alloc] at this
  go_enter Tryd.func76, Tryd.ntmps76
  obtain ⟨x0, x1, x2, x3, x4, x5, x6⟩ := ptcell_at KP.out
  go_wp2_with fail
  clear x0 x1 x2 x3 x4 x5 x6
  revert B KP KR
  generalize ((w.alloc (.cells (ptcells p P) 44)).alloc (.cells zs4 85)) = V0
  intro B KP KR
  refine (pCurMay_any p P V0 (h.out.below B.out (Nat.le_refl _))).mono ?_
  rintro e W1 ⟨rfl, hb⟩
  replace B := Hid.of (B.out.trans (hb.mono B.out.size))
  replace KP := Hid.of (KP.out.below hb KP.out.lt)
  replace KR := Hid.of (KR.out.below hb KR.out.lt)
  clear hb
  rw [hp.out]
  have rz := KR.out.frozen
  obtain ⟨r0, r1, r2, r3⟩ := SB.cells KR.out
  have RR := Hid.of (SB.set4 KR.out zeroS)
  have BB := Hid.of (below_set4 B.out (b' := w.heap.size + 1) (by omega) (.int .u64 (zeroS 0)) (.int .u64 (zeroS 1)) (.int .u64 (zeroS 2)) (.int .u64 (zeroS 3)))
  go_wp2_with fail
  exact bodyPost_ret (v := .tuple #[sval zeroS, .nilFunc, .int .i64 2]) (results_setTwo (p := 2) (u := 3) (v := 4) rfl _ _ (w.heap.size + 1) zeroS _ _ rfl rfl rfl RR.out) rfl ⟨rfl, BB.out⟩

set_option maxRecDepth 100000 in
set_option maxHeartbeats 8000000 in
theorem cwatch_ok (p : Plant) (P : PTL) (w : World) (h : Hid (PAt w p P)) (hT : Hid (Tab w)) (hp : Hid (mayP p = true)) :
    Calls Tryd.prog 76 #[ptval p P] w fun e w' => WatchPost w p P e w' := by
  have hmf : ∀ (fn : Fn) (first cap : Array Value) (w : World), (Instr.makeFunc fn first cap).run Tryd.prog w = .ok (.func fn first cap) w := fun _ _ _ _ => rfl
  obtain ⟨hm, z6, hr, -⟩ := (mayP_iff p).1 hp.out
  have hft := hide_small hm z6 hr
  have HMH := Hid.of (may_hide hm hr hft)
  have HMM := Hid.of hm
  have HRR := Hid.of hr
  have HFT := Hid.of hft
  have sbd : Hid (∀ x ∈ (hideM p.m p.seen).starts, 0 ≤ x ∧ x < 256) := fun x hx => by
    have := (may_starts HMH.out).2 x hx
    have e : (hideM p.m p.seen).st = p.m.st := rfl
    omega
  clear hm hr hft z6
  have B : Hid (Below w.heap.size w ((w.alloc (.cells (ptcells p P) 44)).alloc (.cells zs4 85))) := ((Below.refl _ _).alloc (Nat.le_refl _) _).alloc (by simp) _
  have KP : Hid (Blk ((w.alloc (.cells (ptcells p P) 44)).alloc (.cells zs4 85)) w.heap.size 44 (ptcells p P)) := (Blk.new w _ _).alloc _
  have KR : Hid (SB ((w.alloc (.cells (ptcells p P) 44)).alloc (.cells zs4 85)) (w.heap.size + 1) zeroS) := by
    have := Blk.new (w.alloc (.cells (ptcells p P) 44)) 85 zs4
    rwa [World.size_alloc] at this
  go_enter Tryd.func76, Tryd.ntmps76
  obtain ⟨x0, x1, x2, x3, x4, x5, x6⟩ := ptcell_at KP.out
  go_wp2_with fail
  clear x0 x1 x2 x3 x4 x5 x6
  revert B KP KR
  generalize ((w.alloc (.cells (ptcells p P) 44)).alloc (.cells zs4 85)) = V0
  intro B KP KR
  refine (pCurMay_any p P V0 (h.out.below B.out (Nat.le_refl _))).mono ?_
  rintro e W1 ⟨rfl, hb⟩
  replace B := Hid.of (B.out.trans (hb.mono B.out.size))
  replace KP := Hid.of (KP.out.below hb KP.out.lt)
  replace KR := Hid.of (KR.out.below hb KR.out.lt)
  clear hb
  rw [hp.out]
  obtain ⟨x0, x1, x2, x3, x4, x5, x6⟩ := ptcell_at KP.out
  go_wp2_with fail
  clear x0 x1 x2 x3 x4 x5 x6
  refine (hide_okp p.m P.l P.sa P.sc p.seen W1 (h.out.m.below B.out (Nat.le_refl _)) (h.out.s.at_.below B.out (Nat.le_refl _)) h.out.s.len (hT.out.below B.out hT.out.lt) HMM.out HRR.out HFT.out).mono ?_
  rintro e W2 ⟨Lh, rfl, mt, hb⟩
  replace B := Hid.of (B.out.trans (hb.mono B.out.size))
  replace KP := Hid.of (KP.out.below hb KP.out.lt)
  replace KR := Hid.of (KR.out.below hb KR.out.lt)
  clear hb
  obtain ⟨M, HM⟩ : ∃ M, Hid (M = hideM p.m p.seen) := ⟨_, rfl⟩
  rw [← HM.out] at mt HMH sbd
  rw [← HM.out]
  have hb : Below W2.heap.size W2 (W2.alloc (.cells (mcells M Lh) 25)) := (Below.refl _ _).alloc (Nat.le_refl _) _
  replace B := Hid.of (B.out.trans (hb.mono B.out.size))
  replace KP := Hid.of (KP.out.below hb KP.out.lt)
  replace KR := Hid.of (KR.out.below hb KR.out.lt)
  have MT := Hid.of (mt.below hb (Nat.le_refl _))
  have KM := Hid.of (Blk.new W2 25 (mcells M Lh))
  clear hb mt
  obtain ⟨x0, x1, x2, x3, x4⟩ := mcell_at KM.out
  go_wp2_with fail
  clear x0 x1 x2 x3 x4
  revert B KP KR MT KM
  show Hid (Below w.heap.size w (W2.alloc (.cells #[.int .i64 M.st, .int .i64 M.ev, .slice Lh.a1 M.starts.length Lh.c1, .slice Lh.a2 M.arrows.length Lh.c2, .slice Lh.a3 M.ends.length Lh.c3] 25))) → _
  generalize W2.alloc (.cells #[.int .i64 M.st, .int .i64 M.ev, .slice Lh.a1 M.starts.length Lh.c1, .slice Lh.a2 M.arrows.length Lh.c2, .slice Lh.a3 M.ends.length Lh.c3] 25) = W3
  generalize W2.heap.size = pm
  intro B KP KR MT KM
  refine (leader_any M Lh W3 HMH.out MT.out).mono ?_
  rintro e W4 ⟨L, rfl, ld, ll, hb⟩
  have LL : Hid (L.all (· ≠ w.heap.size + 1)) := ll.imp (fun n hn => by have := KR.out.lt; omega)
  replace B := Hid.of (B.out.trans (hb.mono B.out.size))
  replace KP := Hid.of (KP.out.below hb KP.out.lt)
  replace KR := Hid.of (KR.out.below hb KR.out.lt)
  replace KM := Hid.of (KM.out.below hb KM.out.lt)
  replace MT := Hid.of (MT.out.below hb (Nat.le_refl _))
  clear hb ll
  have hb : Below W4.heap.size W4 (W4.alloc (.cells #[leadV L] 108)) := (Below.refl _ _).alloc (Nat.le_refl _) _
  have P7 := Hid.of (show w.heap.size + 1 < W4.heap.size from KR.out.lt)
  replace B := Hid.of (B.out.trans (hb.mono B.out.size))
  replace KP := Hid.of (KP.out.below hb KP.out.lt)
  replace KR := Hid.of (KR.out.below hb KR.out.lt)
  replace KM := Hid.of (KM.out.below hb KM.out.lt)
  replace MT := Hid.of (MT.out.below hb (Nat.le_refl _))
  have LD1 := Hid.of (ld.kept hb)
  have KF := Hid.of (Blk.new W4 108 #[leadV L])
  clear hb ld
  obtain ⟨x0, x1, x2, x3, x4⟩ := mcell_at KM.out
  go_wp2_with fail
  clear x0 x1 x2 x3 x4
  revert P7 B KP KR KM MT LD1 KF
  generalize W4.alloc (.cells #[leadV L] 108) = W5
  generalize W4.heap.size = pf
  intro P7 B KP KR KM MT LD1 KF
  refine (of_any Lh.a1 Lh.c1 M.starts W5 MT.out.s (Nat.le_trans MT.out.s1 MT.out.s2) sbd.out).mono ?_
  rintro e W6 ⟨rfl, hb⟩
  replace B := Hid.of (B.out.trans (hb.mono B.out.size))
  replace KP := Hid.of (KP.out.below hb KP.out.lt)
  replace KR := Hid.of (KR.out.below hb KR.out.lt)
  replace LD1 := Hid.of (LD1.out.kept hb)
  replace KF := Hid.of (KF.out.below hb KF.out.lt)
  clear hb KM MT
  obtain ⟨Q, HQ⟩ : ∃ Q, Hid (Q = ofS M.starts) := ⟨_, rfl⟩
  rw [← HQ.out]
  have rz := KR.out.frozen
  obtain ⟨r0, r1, r2, r3⟩ := SB.cells KR.out
  have RR := Hid.of (SB.set4 KR.out Q)
  have BB := Hid.of (below_set4 B.out (b' := w.heap.size + 1) (by omega) (.int .u64 (Q 0)) (.int .u64 (Q 1)) (.int .u64 (Q 2)) (.int .u64 (Q 3)))
  have PP := Hid.of (Blk.other4 KP.out (Nat.ne_of_lt (Nat.lt_succ_self w.heap.size)) (.int .u64 (Q 0)) (.int .u64 (Q 1)) (.int .u64 (Q 2)) (.int .u64 (Q 3)))
  have FF := Hid.of (Blk.other4 KF.out (b' := w.heap.size + 1) (by have := P7.out; omega) (.int .u64 (Q 0)) (.int .u64 (Q 1)) (.int .u64 (Q 2)) (.int .u64 (Q 3)))
  have DD := Hid.of (LD.other4 LD1.out LL.out (.int .u64 (Q 0)) (.int .u64 (Q 1)) (.int .u64 (Q 2)) (.int .u64 (Q 3)))
  clear B KP KR LD1 KF
  go_wp2_with fail
  refine bodyPost_ret (v := .tuple #[sval Q, cleadV pf w.heap.size, .int .i64 0]) (results_setTwo (p := 2) (u := 3) (v := 4) rfl _ _ (w.heap.size + 1) Q _ _ rfl rfl rfl RR.out) rfl ⟨pf, w.heap.size, L, ?_, ⟨FF.out, PP.out, h.out.below BB.out (Nat.le_refl _), ?_⟩, BB.out⟩
  · rw [HQ.out, HM.out]; rfl
  · have := DD.out
    rw [HM.out] at this
    exact this

end Go.Proofs.YtmlkpdeidpcidaaDoor
