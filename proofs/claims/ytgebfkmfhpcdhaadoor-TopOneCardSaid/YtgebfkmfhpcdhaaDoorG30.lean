/-
  Rows of places, to be read; what slices.IndexFunc answers of them.
  Plain: what is seen of a machine hangs on its language alone. No program, no model.
  Plain: a set that has states, all of them another one's. No program, no model.
  A plant's value, and what is said of it in a world; a plant that came in, opened.
  hide.Hide, whatever comes in.
  What is hidden of a small machine fits; hide.Hide, where nothing is wrong.
  Rows of places of package secret, as the model runs them.
-/
import Derived.Test.YtgebfkmfhpcdhaaDoorG25
import Derived.Test.YtgebfkmfhpcdhaaDoorG24
import Derived.Test.YtgebfkmfhpcdhaaDoorG15
import Derived.Test.YtgebfkmfhpcdhaaDoorG19
import Derived.Test.YtgebfkmfhpcdhaaDoorCPairM
import Derived.Test.YtgebfkmfhpcdhaaDoorG14
import Derived.Test.YtgebfkmfhpcdhaaDoorG05
import Derived.Test.YtgebfkmfhpcdhaaDoorG03
import Derived.Test.YtgebfkmfhpcdhaaDoorCHHide
namespace Go.Proofs.YtgebfkmfhpcdhaaDoor
open Go.RowKit
set_option linter.unusedVariables false

/-- A list of places in memory. -/
def RdC (W : World) (a : Option Addr) (L : List PlC) : Prop := L = [] ∨ ∃ g o, a = some ⟨g, o, none⟩ ∧ g < W.heap.size ∧ ∀ (k : Nat) (q : PlC), L[k]? = some q → ∀ (j : Nat) (u : Value), (pccells q)[j]? = some u → W.cell? ⟨g, o + k * 5 + j, none⟩ = some u
theorem RdC.below {W W' : World} {a : Option Addr} {L : List PlC} (h : RdC W a L) (hb : Below W.heap.size W W') : RdC W' a L := by
  rcases h with h | ⟨g, o, e, hg, hc⟩
  · exact .inl h
  · exact .inr ⟨g, o, e, Nat.lt_of_lt_of_le hg hb.size, fun k q hq j u hu => (hb.cell (p := ⟨g, o + k * 5 + j, none⟩) hg).trans (hc k q hq j u hu)⟩
theorem OwnC.rd {W : World} {B : Nat} {v : Value} {L : List PlC} (h : OwnC W B v L) : ∃ a c, v = .slice a L.length c ∧ RdC W a L ∧ L.length ≤ maxLen ∧ (L.length ≤ c) := by
  rcases h.2 with ⟨rfl, hn⟩ | ⟨g, cap, cur, rfl, hg, hh, hnc, hcm, hcs, ht⟩
  · have : L = [] := List.eq_nil_of_length_eq_zero hn
    subst this
    exact ⟨none, 0, rfl, .inl rfl, Nat.zero_le _, Nat.le_refl _⟩
  · refine ⟨_, cap, rfl, .inr ⟨g, 0, rfl, (Array.getElem?_eq_some_iff.1 hh).1, fun k q hq j u hu => ?_⟩, Nat.le_trans hnc hcm, hnc⟩
    obtain ⟨g', cap', e, -, -, hc⟩ := h.cell hq
    cases e
    rw [Nat.zero_add]
    exact hc j u hu
theorem rdc_cells {W : World} {g o : Nat} {q : PlC} {k : Nat} (h : ∀ (j : Nat) (u : Value), (pccells q)[j]? = some u → W.cell? ⟨g, o + k * 5 + j, none⟩ = some u) : W.cell? ⟨g, o + k * 5, none⟩ = some (.int .u64 (q.s 0)) ∧ W.cell? ⟨g, o + k * 5 + 1, none⟩ = some (.int .u64 (q.s 1)) ∧ W.cell? ⟨g, o + k * 5 + 2, none⟩ = some (.int .u64 (q.s 2)) ∧ W.cell? ⟨g, o + k * 5 + 3, none⟩ = some (.int .u64 (q.s 3)) ∧ W.cell? ⟨g, o + k * 5 + 4, none⟩ = some q.v :=
  ⟨h 0 _ rfl, h 1 _ rfl, h 2 _ rfl, h 3 _ rfl, h 4 _ rfl⟩

end Go.Proofs.YtgebfkmfhpcdhaaDoor
namespace Go.Proofs.YtgebfkmfhpcdhaaDoor
open Go.RowKit
set_option linter.unusedVariables false
set_option linter.unusedSectionVars false

theorem afterL_app (ars : List Arr) (ss a b : List Int) : afterL ars ss (a ++ b) = afterL ars (afterL ars ss a) b := by
  unfold afterL; rw [List.foldl_append]
theorem step_mono {ars : List Arr} {ss ss' : List Int} {e : Int} (h : ∀ x ∈ ss, x ∈ ss') : ∀ x ∈ stepL ars ss e, x ∈ stepL ars ss' e := fun x hx => by
  obtain ⟨a, h1, h2, h3, h4⟩ := (mem_stepL _ _ _ _).1 hx
  exact (mem_stepL _ _ _ _).2 ⟨a, h1, h2, h _ h3, h4⟩
theorem after_mono {ars : List Arr} : ∀ (u : List Int) {ss ss' : List Int}, (∀ x ∈ ss, x ∈ ss') → ∀ x ∈ afterL ars ss u, x ∈ afterL ars ss' u
  | [], _, _, h => h
  | e :: u, ss, ss', h => after_mono u (ss := stepL ars ss e) (ss' := stepL ars ss' e) (step_mono h)
/-- A word of events of the machine's arrows, none of them seen. -/
def unW (ars : List Arr) (seen u : List Int) : Prop := ∀ e ∈ u, hasB seen e = false ∧ ∃ a ∈ ars, a.e = e
theorem wide_word {ars : List Arr} {seen ss : List Int} (hin : ∀ a ∈ ars, 0 ≤ a.t ∧ a.t < (256 : Nat)) {x : Int} (h : x ∈ wideL ars seen ss) : ∃ u, unW ars seen u ∧ x ∈ afterL ars ss u := by
  refine (mem_wide hin x).1 h (fun y => ∃ u, unW ars seen u ∧ y ∈ afterL ars ss u) ⟨fun y hy => ⟨[], by simp [unW], hy⟩, fun a ha hp => ?_⟩
  obtain ⟨u, h1, h2⟩ := hp
  obtain ⟨ha1, ha2⟩ := (mem_unseen _ _ _).1 ha
  refine ⟨u ++ [a.e], fun e he => ?_, ?_⟩
  · rcases List.mem_append.1 he with he | he
    · exact h1 e he
    · have : e = a.e := by simpa using he
      subst this; exact ⟨ha2, a, ha1, rfl⟩
  · rw [afterL_app]
    exact (mem_stepL _ _ _ _).2 ⟨a, ha1, rfl, h2, rfl⟩
end Go.Proofs.YtgebfkmfhpcdhaaDoor
namespace Go.Proofs.YtgebfkmfhpcdhaaDoor
open Go.RowKit
set_option linter.unusedVariables false

/-! A set that has states, all of them another one's. -/
def onlyS (S T : Nat → Nat) : Bool := !emptyB S && emptyB (lessS S T)
theorem only_set {M R : Nat → Nat} {row k : List Int} (hm : Rep M row) (hR : Rep R k) : onlyS M R = leakB k row := by
  unfold onlyS leakB
  cases he : emptyB M with
  | true =>
    have : row = [] := by
      rw [List.eq_nil_iff_forall_not_mem]
      intro x hx
      obtain ⟨b0, b1⟩ := hm.bd x hx
      have h1 := empty_has he x.toNat (by omega)
      rw [(hm.mem x.toNat (by omega)).2 (by rwa [Int.toNat_of_nonneg b0])] at h1
      cases h1
    subst this; rfl
  | false =>
    obtain ⟨n, hn, h1⟩ := empty_not hm.ok he
    have hpos : 0 < row.length := List.length_pos_of_mem ((hm.mem n hn).1 h1)
    rw [decide_eq_true hpos]
    simp only [Bool.not_false, Bool.true_and]
    cases hl : emptyB (lessS M R) with
    | true =>
      symm
      rw [decide_eq_true_eq, List.length_eq_zero_iff, List.filter_eq_nil_iff]
      intro x hx
      obtain ⟨b0, b1⟩ := hm.bd x hx
      have h2 := empty_has hl x.toNat (by omega)
      rw [hasS_less hR.ok, (hm.mem x.toNat (by omega)).2 (by rwa [Int.toNat_of_nonneg b0])] at h2
      have h3 : hasS R x.toNat = true := by simpa using h2
      have := (hR.mem x.toNat (by omega)).1 h3
      rw [Int.toNat_of_nonneg b0] at this
      unfold hasB; simpa using this
    | false =>
      obtain ⟨m, hm1, h2⟩ := empty_not (okS_less hm.ok) hl
      rw [hasS_less hR.ok] at h2
      simp only [Bool.and_eq_true, Bool.not_eq_true'] at h2
      have m1 := (hm.mem m hm1).1 h2.1
      have m2 : ¬ (m : Int) ∈ k := fun hk => by
        have := (hR.mem m hm1).2 hk
        rw [h2.2] at this; cases this
      symm
      rw [decide_eq_false_iff_not]
      have : 0 < (row.filter fun n => hasB k n == false).length := List.length_pos_of_mem (List.mem_filter.2 ⟨m1, by unfold hasB; simpa using m2⟩)
      omega

end Go.Proofs.YtgebfkmfhpcdhaaDoor
namespace Go.Proofs.YtgebfkmfhpcdhaaDoor
open Go.ChangeShapes Go.WideShapes Go.ChangeAt Go.RowKit Go.Deep
set_option linter.unusedVariables false
set_option maxRecDepth 100000

/-- Where a plant's slices lie. -/
structure PTL where
  l : ML
  sa : Option Addr
  sc : Nat
  ta : Option Addr
  tc : Nat
abbrev ptcells (p : Plant) (L : PTL) : Array Value := #[.int .i64 p.m.st, .int .i64 p.m.ev, .slice L.l.a1 p.m.starts.length L.l.c1, .slice L.l.a2 p.m.arrows.length L.l.c2, .slice L.l.a3 p.m.ends.length L.l.c3, .slice L.sa p.seen.length L.sc, .slice L.ta p.secret.length L.tc]
abbrev ptval (p : Plant) (L : PTL) : Value := .agg (ptcells p L)
structure PAt (w : World) (p : Plant) (L : PTL) : Prop where
  m : MAt w p.m L.l
  s : Sl w L.sa L.sc p.seen
  t : Sl w L.ta L.tc p.secret
theorem PAt.below {w w' : World} {p : Plant} {L : PTL} {B : Nat} (h : PAt w p L) (hb : Below B w w') (hB : w.heap.size ≤ B) : PAt w' p L := ⟨h.m.below hb hB, h.s.below hb hB, h.t.below hb hB⟩
theorem ptcell_at {W : World} {b : Nat} {p : Plant} {L : PTL} (h : Blk W b 46 (ptcells p L)) : W.cell? ⟨b, 0, none⟩ = some (.int .i64 p.m.st) ∧ W.cell? ⟨b, 1, none⟩ = some (.int .i64 p.m.ev) ∧ W.cell? ⟨b, 2, none⟩ = some (.slice L.l.a1 p.m.starts.length L.l.c1) ∧ W.cell? ⟨b, 3, none⟩ = some (.slice L.l.a2 p.m.arrows.length L.l.c2) ∧ W.cell? ⟨b, 4, none⟩ = some (.slice L.l.a3 p.m.ends.length L.l.c3) ∧ W.cell? ⟨b, 5, none⟩ = some (.slice L.sa p.seen.length L.sc) ∧ W.cell? ⟨b, 6, none⟩ = some (.slice L.ta p.secret.length L.tc) :=
  ⟨h.cell 0 rfl, h.cell 1 rfl, h.cell 2 rfl, h.cell 3 rfl, h.cell 4 rfl, h.cell 5 rfl, h.cell 6 rfl⟩

section
variable {H : Type} {enc : TypeId × Value → H} {W : World}
theorem array7 {α : Type} {cs : Array α} (h : cs.size = 7) : ∃ c0 c1 c2 c3 c4 c5 c6, cs = #[c0, c1, c2, c3, c4, c5, c6] := by
  obtain ⟨l⟩ := cs
  match l, h with
  | [c0, c1, c2, c3, c4, c5, c6], _ => exact ⟨c0, c1, c2, c3, c4, c5, c6, rfl⟩
theorem plant_of_cells {fuel : Nat} {c0 c1 c2 c3 c4 c5 c6 : Value} {x : DataW H × List MemPlace} (h : DataW.trod enc Tryd.prog W 0 (fun _ => true) true fuel 46 [c0, c1, c2, c3, c4, c5, c6] = some x) : ∃ p L, Value.agg #[c0, c1, c2, c3, c4, c5, c6] = ptval p L ∧ PAt W p L := by
  obtain ⟨xs, n, _, _, _, hlen, hf⟩ := DataW.trod_struct Tryd.underlying46 h
  have hlen3 : xs.length = 3 := hlen
  match xs, hlen3 with
  | [y0, y1, y2], _ =>
    have i1 : Tryd.prog.cellsOf 25 = 5 := by kernel_rfl
    have i2 : Tryd.prog.cellsOf 22 = 1 := by kernel_rfl
    have h0 := hf 0 { name := "Machine", type := 25, offset := 0, embedded := false, tag := "", pkgPath := "", byteOffset := 0 } rfl
    have h1 := hf 1 { name := "Seen", type := 22, offset := 5, embedded := false, tag := "", pkgPath := "", byteOffset := 88 } rfl
    have h2 := hf 2 { name := "Secret", type := 22, offset := 6, embedded := false, tag := "", pkgPath := "", byteOffset := 112 } rfl
    dsimp only at h0 h1 h2
    simp only [i1, i2, List.drop_succ_cons, List.drop_zero, List.take_succ_cons, List.take_zero, List.getElem?_cons_zero, List.getElem?_cons_succ] at h0 h1 h2
    obtain ⟨m, l, e0, hm⟩ := mach_of_cells h0
    obtain ⟨a1, k1, seen, e1, s1, s2, s3, s4, s5⟩ := ints_of_trod h1
    obtain ⟨a2, k2, secret, e2, r1, r2, r3, r4, r5⟩ := ints_of_trod h2
    simp only [List.cons.injEq, and_true] at e1 e2
    subst e1 e2
    have e0' : #[c0, c1, c2, c3, c4] = mcells m l := by injection e0
    have e3 : [c0, c1, c2, c3, c4] = (mcells m l).toList := by rw [← e0']
    simp only [List.cons.injEq, and_true] at e3
    obtain ⟨q0, q1, q2, q3, q4⟩ := e3
    exact ⟨⟨m, seen, secret⟩, ⟨l, a1, k1, a2, k2⟩, by rw [q0, q1, q2, q3, q4], hm, ⟨s3, s1, s2, s4⟩, ⟨r3, r1, r2, r4⟩⟩
/-- A PLANT THAT CAME IN. -/
theorem open_plant {base : Nat} {v : Value} {d : DataW H} {p : List MemPlace} (hv : Value.okWide Tryd.prog W .any base 46 v) (h : DataW.Trod enc Tryd.prog W 0 (fun _ => true) true 46 v d p) : ∃ q L, v = ptval q L ∧ PAt W q L := by
  obtain ⟨cs, rfl, hsz⟩ := okWide_struct Tryd.underlying46 hv
  obtain ⟨c0, c1, c2, c3, c4, c5, c6, rfl⟩ := array7 (hsz.trans (by kernel_rfl))
  obtain ⟨fuel, hf⟩ := h
  exact plant_of_cells (by simpa [Value.cells] using hf)
end

end Go.Proofs.YtgebfkmfhpcdhaaDoor
namespace Go.Proofs.YtgebfkmfhpcdhaaDoor
open Go.RowKit
set_option linter.unusedVariables false

theorem pHide_any (m : Mach) (l : ML) (sa : Option Addr) (sc : Nat) (seen : List Int) (w : World) (h : MAt w m l) (hs : At w sa seen) (hsl : seen.length ≤ maxLen) (hT : Tab w) :
    Calls Tryd.prog 28 #[mval m l, .slice sa seen.length sc] w fun e w' => HidePost w m seen e w' := by
  by_cases hbad : mayB m = false ∨ rowB m.ev seen = false
  · refine (hide_err m l sa sc seen w (Hid.of h) (Hid.of hs) (Hid.of hsl) (Hid.of hbad)).mono fun e w' h => ?_
    unfold HidePost; rw [if_pos hbad]; exact h
  · have hm : mayB m = true := by cases e : mayB m with
      | true => rfl
      | false => exact absurd (.inl e) hbad
    have hr : rowB m.ev seen = true := by cases e : rowB m.ev seen with
      | true => rfl
      | false => exact absurd (.inr e) hbad
    obtain ⟨mst, ev, starts, ars, ends⟩ := m
    obtain ⟨a1, c1, a2, c2, a3, c3⟩ := l
    obtain ⟨st, rfl⟩ : ∃ st : Nat, mst = (st : Int) := by
      have := mayB_size hm
      unfold sizeOk at this
      exact ⟨mst.toNat, by dsimp only at this; omega⟩
    refine (hide_ok st ev starts ars ends a1 c1 a2 c2 a3 c3 sa sc seen w (Hid.of h) (Hid.of hs) (Hid.of hsl) (Hid.of hm) (Hid.of hr) (Hid.of hT)).mono fun e w' h => ?_
    unfold HidePost; rw [if_neg hbad]; exact h

end Go.Proofs.YtgebfkmfhpcdhaaDoor
namespace Go.Proofs.YtgebfkmfhpcdhaaDoor
open Go.RowKit
set_option linter.unusedVariables false

theorem wide_small {m : Mach} (hm : mayB m = true) (z : m.st ≤ 6) {seen ss : List Int} (hs : ∀ x ∈ ss, 0 ≤ x ∧ x < m.st) : (wideL m.arrows seen ss).length ≤ 6 := by
  refine nodup_len 6 _ (inc_nodup (inc_wide _ _ _)) (fun x hx => ?_)
  have := wide_bd hm hs x hx
  omega
theorem hFrom_small {m : Mach} (hm : mayB m = true) (z : m.st ≤ 6) (seen : List Int) (f : Nat) : ∀ k, (hFrom m seen f k).length ≤ k * 6
  | 0 => by simp [hFrom]
  | k + 1 => by
    have h1 := hFrom_small hm z seen f k
    have h2 : (hRow m seen f k).length ≤ 6 := by unfold hRow; rw [List.length_map]; exact wide_small hm z (step_bd hm)
    rw [hFrom_succ, List.length_append]; omega
theorem hAll_small {m : Mach} (hm : mayB m = true) (z : m.st ≤ 6) (seen : List Int) (h8 : seen.length ≤ 8) : ∀ f, (hAll m seen f).length ≤ f * 48
  | 0 => by simp [hAll]
  | f + 1 => by
    have h1 := hAll_small hm z seen h8 f
    have h2 := hFrom_small hm z seen f seen.length
    rw [hAll_succ, List.length_append]; omega
theorem hide_small {m : Mach} (hm : mayB m = true) (z : m.st ≤ 6) {seen : List Int} (hr : rowB m.ev seen = true) : (hAll m seen m.st.toNat).length ≤ 4096 := by
  have hz := mayB_size hm
  unfold sizeOk at hz
  have h8 := row_short (by omega) (by omega) hr
  have := hAll_small hm z seen (by omega) m.st.toNat
  omega
/-- Hide, where nothing is wrong. -/
theorem hide_okp (m : Mach) (l : ML) (sa : Option Addr) (sc : Nat) (seen : List Int) (w : World) (h : MAt w m l) (hs : At w sa seen) (hsl : seen.length ≤ maxLen) (hT : Tab w) (hm : mayB m = true) (hr : rowB m.ev seen = true) (ha : (hAll m seen m.st.toNat).length ≤ 4096) :
    Calls Tryd.prog 28 #[mval m l, .slice sa seen.length sc] w fun e w' => ∃ L, e = .returned (.tuple #[mval (hideM m seen) L, .int .i64 0]) ∧ MAt w' (hideM m seen) L ∧ Below w.heap.size w w' := by
  refine (pHide_any m l sa sc seen w h hs hsl hT).mono ?_
  intro e w' hp
  unfold HidePost at hp
  rw [if_neg (by rw [hm, hr]; simp), if_pos ha] at hp
  exact hp

end Go.Proofs.YtgebfkmfhpcdhaaDoor
namespace Go.Proofs.YtgebfkmfhpcdhaaDoor
open Go.RowKit
set_option linter.unusedVariables false

abbrev OwnG (W : World) (B : Nat) (v : Value) (L : List PlC) : Prop := W.ownsRow B 133 5 v L.length (pcflat L)
theorem OwnG.cell {W : World} {B : Nat} {v : Value} {L : List PlC} (h : OwnG W B v L) {k : Nat} {p : PlC} (hk : L[k]? = some p) : ∃ g cap, v = .slice (some ⟨g, 0, none⟩) L.length cap ∧ B ≤ g ∧ g < W.heap.size ∧ ∀ j u, (pccells p)[j]? = some u → W.cell? ⟨g, k * 5 + j, none⟩ = some u := by
  rcases h.2 with ⟨rfl, hn⟩ | ⟨g, cap, cur, rfl, hg, hh, hnc, hcm, hcs, ht⟩
  · have := (List.getElem?_eq_some_iff.1 hk).1; omega
  · refine ⟨g, cap, rfl, hg, (Array.getElem?_eq_some_iff.1 hh).1, fun j u hu => ?_⟩
    have hj : j < 5 := by have := (List.getElem?_eq_some_iff.1 hu).1; simpa [pccells] using this
    have c1 := h.cells (g := g) rfl _ _ ((pcflat_at hk j hj).trans hu)
    rwa [addr0_add, Nat.zero_add] at c1
theorem own_plcG {W : World} {B : Nat} {v : Value} {L : List PlC} {p : PlC} (h : W.ownsRow B 133 5 v (L.length + 1) (pcflat L ++ pccells p)) : OwnG W B v (L ++ [p]) := by
  show W.ownsRow B 133 5 v (L ++ [p]).length (pcflat (L ++ [p]))
  rw [List.length_append, pcflat_append]
  have e : pcflat [p] = pccells p := by simp [pcflat]
  rw [e]; exact h
theorem ownG_one (W : World) (p : PlC) (B : Nat) (hB : B ≤ W.heap.size) : OwnG (W.alloc (.cells (pccells p).toArray 133)) B (.slice (some ⟨W.heap.size, 0, none⟩) 1 1) [p] := by
  have : World.ownsRow (W.alloc (.cells (pccells p).toArray 133)) B 133 5 (.slice (some ⟨W.heap.size, 0, none⟩) 1 1) 1 (pccells p) := World.ownsRow_lit W (pccells p).toArray 1 hB (by decide) rfl
  have e : pcflat [p] = pccells p := by simp [pcflat]
  show World.ownsRow _ B 133 5 _ 1 (pcflat [p])
  rw [e]; exact this

theorem innW_grownG {W W2 : World} {B n : Nat} {v : Value} {vs : List Value} (ho : W.ownsRow B 133 5 v n vs) (g : W.grownBy W2 v.ownBlock) {x : Value} {xs : List Int} (h : InnW 0 W x xs) : InnW 0 W2 x xs :=
  h.kept g.size (fun j hj => absurd hj (Nat.not_lt_zero _)) (fun q cs hq => g.block q (Array.getElem?_eq_some_iff.1 hq).1 (fun e => by
    obtain ⟨c2, h2⟩ := own_type ho e.symm
    rw [hq] at h2; cases h2))

/-- What a search knows: its row of places, made from block B on, and its map. -/
structure LGI (B : Nat) (W : World) (br : Nat) (vs : Value) (L : List PlC) : Prop where
  ss : OwnG W B vs L
  inn : ∀ q ∈ L, InnW 0 W q.v q.word
  mp : W.heap[br]? = some (.map (entsC L) L.length)
  lr : B ≤ br
section
variable {B : Nat} {W : World} {br : Nat} {vs : Value} {L : List PlC}
theorem LGI.below {W' : World} (h : LGI B W br vs L) (hb : Below W.heap.size W W') : LGI B W' br vs L :=
  ⟨own_same h.ss (fun k hk => hb.block k (World.ownsRow.lt h.ss k hk).2), fun q hq => (h.inn q hq).below hb (Nat.zero_le _), (hb.block br (Array.getElem?_eq_some_iff.1 h.mp).1).trans h.mp, h.lr⟩
theorem LGI.apart (h : LGI B W br vs L) : vs.ownBlock ≠ some br := by
  have hm := h.mp
  exact fun e => (by obtain ⟨cs, hc⟩ := own_type h.ss e; rw [hm] at hc; cases hc)
theorem LGI.mapped (h : LGI B W br vs L) (o : Obj) : OwnG (setMap W br o) B vs L := own_same h.ss (fun j hj => heap_setMap_ne _ _ _ (fun e => h.apart (by rw [hj, e])))
theorem LGI.push {w0 : World} {W2 W3 : World} {vs' : Value} {p : PlC} (h : LGI B W br vs L) (h0 : Below B w0 W) (hW3 : Below (setMap W br (.map (entsC (L ++ [p])) (L.length + 1))).heap.size (setMap W br (.map (entsC (L ++ [p])) (L.length + 1))) W3) (hi : InnW 0 W3 p.v p.word) (o1 : OwnG W2 B vs' (L ++ [p])) (g : W3.grownBy W2 vs.ownBlock) (hBW : B ≤ W.heap.size) :
    LGI B W2 br vs' (L ++ [p]) ∧ Below B w0 W2 := by
  have a1 := h.apart
  have hbr := (Array.getElem?_eq_some_iff.1 h.mp).1
  have hz : W.heap.size ≤ W3.heap.size := by have := hW3.size; rwa [size_setMap] at this
  have k3 : ∀ j, j < W.heap.size → W3.heap[j]? = (setMap W br (.map (entsC (L ++ [p])) (L.length + 1))).heap[j]? := fun j hj => hW3.block j (by rw [size_setMap]; exact hj)
  have k2 : ∀ j, j < W.heap.size → vs.ownBlock ≠ some j → W2.heap[j]? = (setMap W br (.map (entsC (L ++ [p])) (L.length + 1))).heap[j]? := fun j hj hne => (g.block j (Nat.lt_of_lt_of_le hj hz) (fun e => hne e.symm)).trans (k3 j hj)
  have o3 : OwnG W3 B vs L := own_same (h.mapped (.map (entsC (L ++ [p])) (L.length + 1))) (fun j hj => hW3.block j (World.ownsRow.lt (h.mapped _) j hj).2)
  refine ⟨⟨o1, fun q hq => ?_, ?_, h.lr⟩, ?_⟩
  · rcases List.mem_append.1 hq with hq | hq
    · exact innW_grownG o3 g ((innW_map h.mp _ (h.inn q hq)).below hW3 (Nat.zero_le _))
    · have : q = p := by simpa using hq
      subst this
      exact innW_grownG o3 g hi
  · rw [k2 br hbr a1, heap_setMap _ _ hbr, List.length_append]; rfl
  · have b1 : Below B w0 (setMap W br (.map (entsC (L ++ [p])) (L.length + 1))) :=
      h0.trans ⟨rfl, rfl, rfl, by rw [size_setMap]; exact Nat.le_refl _, fun j hj => heap_setMap_ne _ _ _ (by have := h.lr; omega)⟩
    exact (b1.trans (hW3.mono (by rw [size_setMap]; exact hBW))).grown g (Nat.le_trans hBW hz) (fun j hj => (World.ownsRow.lt h.ss j hj).1)
end
theorem lgi_first {B : Nat} {W : World} {br : Nat} {v : Value} {p : PlC} (ho : OwnG W B v [p]) (hi : InnW 0 W p.v p.word) (hm : W.heap[br]? = some (.map #[] 0)) (hb : B ≤ br) : LGI B (setMap W br (.map (entsC [p]) 1)) br v [p] := by
  have hbr := (Array.getElem?_eq_some_iff.1 hm).1
  refine ⟨own_same ho (fun k hk => heap_setMap_ne _ _ _ (fun e => ?_)), fun q hq => ?_, heap_setMap _ _ hbr, hb⟩
  · obtain ⟨cs, hc⟩ := own_type ho hk
    rw [e, hm] at hc; cases hc
  · have : q = p := by simpa using hq
    subst this
    exact innW_map hm _ hi
theorem lgi_first2 {B : Nat} {W : World} {br : Nat} {p : PlC} (hi : InnW 0 W p.v p.word) (hm : W.heap[br]? = some (.map (entsC [p]) 1)) (hb : B ≤ br) (hB : B ≤ W.heap.size) : LGI B (W.alloc (.cells (pccells p).toArray 133)) br (.slice (some ⟨W.heap.size, 0, none⟩) 1 1) [p] :=
  ⟨ownG_one W p B hB, fun q hq => (by
    have : q = p := by simpa using hq
    subst this
    exact hi.below ((Below.refl _ _).alloc (Nat.le_refl _) _) (Nat.zero_le _)), (Below.heap_alloc W _ br (Array.getElem?_eq_some_iff.1 hm).1).trans hm, hb⟩
/-- A row of places that a call hands back: sets and lists of what has been found. -/
structure PlsG (W : World) (B : Nat) (v : Value) (seen : List Int) (L : List PlC) (l : List (List Int × List Int)) : Prop where
  ow : OwnG W B v L
  inn : ∀ q ∈ L, InnW 0 W q.v q.word
  rep : RepCL L l
  wd : WdC seen L l
theorem PGk.cells {W : World} {b : Nat} {p : PlC} (h : Blk W b 133 (pcarr p)) : W.cell? ⟨b, 0, none⟩ = some (.int .u64 (p.s 0)) ∧ W.cell? ⟨b, 1, none⟩ = some (.int .u64 (p.s 1)) ∧ W.cell? ⟨b, 2, none⟩ = some (.int .u64 (p.s 2)) ∧ W.cell? ⟨b, 3, none⟩ = some (.int .u64 (p.s 3)) ∧ W.cell? ⟨b, 4, none⟩ = some p.v :=
  ⟨h.cell 0 rfl, h.cell 1 rfl, h.cell 2 rfl, h.cell 3 rfl, h.cell 4 rfl⟩

abbrev pg0 (Q : Nat → Nat) : Array Value := #[.int .u64 (Q 0), .int .u64 (Q 1), .int .u64 (Q 2), .int .u64 (Q 3), .slice none 0 0]
theorem entsG_s (L : List PlC) {p q : PlC} (h : p.s = q.s) : entsC (L ++ [p]) = entsC (L ++ [q]) := by
  rw [entsC_snoc, entsC_snoc]; unfold entC; rw [h]
theorem ownG_low {W : World} {B B' : Nat} {v : Value} {L : List PlC} (h : OwnG W B v L) (hb : B' ≤ B) : OwnG W B' v L := by
  refine ⟨h.1, ?_⟩
  rcases h.2 with h0 | ⟨g, cap, cur, e, hg, hr⟩
  · exact .inl h0
  · exact .inr ⟨g, cap, cur, e, Nat.le_trans hb hg, hr⟩
theorem LGI.nebr {B : Nat} {W : World} {br hp : Nat} {vs : Value} {L : List PlC} {t : TypeId} {cs : Array Value} (h : LGI B W br vs L) (hh : Blk W hp t cs) : hp ≠ br := fun e => by
  have hm := h.mp
  rw [← e, show W.heap[hp]? = _ from hh] at hm; cases hm
/-- The block that a search's row lies in, apart from another one, stays apart. -/
theorem blk_grownG {W W2 : World} {b : Nat} {row : Option Nat} {t : TypeId} {cs : Array Value} (h : Blk W b t cs) (g : W.grownBy W2 row) (hn : row ≠ some b) : Blk W2 b t cs := (g.block b h.lt (fun e => hn e.symm)).trans h
theorem sb_apartG {W : World} {B n b : Nat} {v : Value} {vs : List Value} {S : Nat → Nat} (ho : W.ownsRow B 133 5 v n vs) (h : SB W b S) : v.ownBlock ≠ some b := fun e => by
  obtain ⟨c2, h2⟩ := own_type ho e
  rw [show W.heap[b]? = _ from h] at h2; cases h2

theorem Tryd.infoPlaceG : (Tryd.prog.info? 133).map (fun i => (i.zero, i.size, i.bytes)) = some (some (.agg (pccells ⟨zeroS, .slice none 0 0, []⟩).toArray), 5, 56) := by kernel_rfl
theorem below_mapG {B : Nat} {w W : World} (h : Below B w W) {br : Nat} (hb : B ≤ br) (o : Obj) : Below B w (setMap W br o) :=
  h.trans ⟨rfl, rfl, rfl, by rw [size_setMap]; exact Nat.le_refl _, fun j hj => heap_setMap_ne _ _ _ (by omega)⟩
theorem blk_mapG {W : World} {b br : Nat} {t : TypeId} {cs : Array Value} (h : Blk W b t cs) (hn : b ≠ br) (o : Obj) : Blk (setMap W br o) b t cs := (heap_setMap_ne W br o hn).trans h

end Go.Proofs.YtgebfkmfhpcdhaaDoor
