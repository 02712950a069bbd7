/-
  Rows of places of package secret, as the model runs them.
  The walk of secret.others: the numbers below another one that are not in a list.
  The walk of secret.pairOf: the state and the row of a pair.
  The walk of secret.pairs: the pairs of states with one row.
  What is said of a slice of whereabouts (jalousieref12.At: a state and a row each).
  The walks of jalousieref12.has and Same.
  Plain: rows of places, one arrow at a time; what the walks of jalousieref12 know of the memory.
-/
import Derived.Test.YtmlkpdeidpcidaaDoorG37
import Derived.Test.YtmlkpdeidpcidaaDoorG48
import Derived.Test.YtmlkpdeidpcidaaDoorG20
import Derived.Test.YtmlkpdeidpcidaaDoorG16
import Derived.Test.YtmlkpdeidpcidaaDoorG14
import Derived.Test.YtmlkpdeidpcidaaDoorG09
import Derived.Test.YtmlkpdeidpcidaaDoorCSpread
import Derived.Test.YtmlkpdeidpcidaaDoorCSetOps
import Derived.Test.YtmlkpdeidpcidaaDoorG24
import Derived.Deep.QuietTactic
import Derived.Deep.RegionWith
import Derived.BigQuiet
import Derived.Test.YtmlkpdeidpcidaaDoorG04
import Derived.Test.YtmlkpdeidpcidaaDoorCTrimBase
import Derived.Test.YtmlkpdeidpcidaaDoorCResM
namespace Go.Proofs.YtmlkpdeidpcidaaDoor
open Go.RowKit
set_option linter.unusedVariables false

abbrev OwnG (W : World) (B : Nat) (v : Value) (L : List PlC) : Prop := W.ownsRow B 142 5 v L.length (pcflat L)
theorem OwnG.cell {W : World} {B : Nat} {v : Value} {L : List PlC} (h : OwnG W B v L) {k : Nat} {p : PlC} (hk : L[k]? = some p) : ∃ g cap, v = .slice (some ⟨g, 0, none⟩) L.length cap ∧ B ≤ g ∧ g < W.heap.size ∧ ∀ j u, (pccells p)[j]? = some u → W.cell? ⟨g, k * 5 + j, none⟩ = some u := by
  rcases h.2 with ⟨rfl, hn⟩ | ⟨g, cap, cur, rfl, hg, hh, hnc, hcm, hcs, ht⟩
  · have := (List.getElem?_eq_some_iff.1 hk).1; omega
  · refine ⟨g, cap, rfl, hg, (Array.getElem?_eq_some_iff.1 hh).1, fun j u hu => ?_⟩
    have hj : j < 5 := by have := (List.getElem?_eq_some_iff.1 hu).1; simpa [pccells] using this
    have c1 := h.cells (g := g) rfl _ _ ((pcflat_at hk j hj).trans hu)
    rwa [addr0_add, Nat.zero_add] at c1
theorem own_plcG {W : World} {B : Nat} {v : Value} {L : List PlC} {p : PlC} (h : W.ownsRow B 142 5 v (L.length + 1) (pcflat L ++ pccells p)) : OwnG W B v (L ++ [p]) := by
  show W.ownsRow B 142 5 v (L ++ [p]).length (pcflat (L ++ [p]))
  rw [List.length_append, pcflat_append]
  have e : pcflat [p] = pccells p := by simp [pcflat]
  rw [e]; exact h
theorem ownG_one (W : World) (p : PlC) (B : Nat) (hB : B ≤ W.heap.size) : OwnG (W.alloc (.cells (pccells p).toArray 142)) B (.slice (some ⟨W.heap.size, 0, none⟩) 1 1) [p] := by
  have : World.ownsRow (W.alloc (.cells (pccells p).toArray 142)) B 142 5 (.slice (some ⟨W.heap.size, 0, none⟩) 1 1) 1 (pccells p) := World.ownsRow_lit W (pccells p).toArray 1 hB (by decide) rfl
  have e : pcflat [p] = pccells p := by simp [pcflat]
  show World.ownsRow _ B 142 5 _ 1 (pcflat [p])
  rw [e]; exact this

theorem innW_grownG {W W2 : World} {B n : Nat} {v : Value} {vs : List Value} (ho : W.ownsRow B 142 5 v n vs) (g : W.grownBy W2 v.ownBlock) {x : Value} {xs : List Int} (h : InnW 0 W x xs) : InnW 0 W2 x xs :=
  h.kept g.size (fun j hj => absurd hj (Nat.not_lt_zero _)) (fun q cs hq => g.block q (Array.getElem?_eq_some_iff.1 hq).1 (fun e => by
    obtain ⟨c2, h2⟩ := own_type ho e.symm
    rw [hq] at h2; cases h2))

/-- What a search knows: its row of places, made from block B on, and its map. -/
structure LGI (B : Nat) (W : World) (br : Nat) (vs : Value) (L : List PlC) : Prop where
  ss : OwnG W B vs L
  inn : ∀ q ∈ L, InnW 0 W q.v q.word
  mp : W.heap[br]? = some (.map (entsC L) L.length)
  lr : B ≤ br
section
variable {B : Nat} {W : World} {br : Nat} {vs : Value} {L : List PlC}
theorem LGI.below {W' : World} (h : LGI B W br vs L) (hb : Below W.heap.size W W') : LGI B W' br vs L :=
  ⟨own_same h.ss (fun k hk => hb.block k (World.ownsRow.lt h.ss k hk).2), fun q hq => (h.inn q hq).below hb (Nat.zero_le _), (hb.block br (Array.getElem?_eq_some_iff.1 h.mp).1).trans h.mp, h.lr⟩
theorem LGI.apart (h : LGI B W br vs L) : vs.ownBlock ≠ some br := by
  have hm := h.mp
  exact fun e => (by obtain ⟨cs, hc⟩ := own_type h.ss e; rw [hm] at hc; cases hc)
theorem LGI.mapped (h : LGI B W br vs L) (o : Obj) : OwnG (setMap W br o) B vs L := own_same h.ss (fun j hj => heap_setMap_ne _ _ _ (fun e => h.apart (by rw [hj, e])))
theorem LGI.push {w0 : World} {W2 W3 : World} {vs' : Value} {p : PlC} (h : LGI B W br vs L) (h0 : Below B w0 W) (hW3 : Below (setMap W br (.map (entsC (L ++ [p])) (L.length + 1))).heap.size (setMap W br (.map (entsC (L ++ [p])) (L.length + 1))) W3) (hi : InnW 0 W3 p.v p.word) (o1 : OwnG W2 B vs' (L ++ [p])) (g : W3.grownBy W2 vs.ownBlock) (hBW : B ≤ W.heap.size) :
    LGI B W2 br vs' (L ++ [p]) ∧ Below B w0 W2 := by
  have a1 := h.apart
  have hbr := (Array.getElem?_eq_some_iff.1 h.mp).1
  have hz : W.heap.size ≤ W3.heap.size := by have := hW3.size; rwa [size_setMap] at this
  have k3 : ∀ j, j < W.heap.size → W3.heap[j]? = (setMap W br (.map (entsC (L ++ [p])) (L.length + 1))).heap[j]? := fun j hj => hW3.block j (by rw [size_setMap]; exact hj)
  have k2 : ∀ j, j < W.heap.size → vs.ownBlock ≠ some j → W2.heap[j]? = (setMap W br (.map (entsC (L ++ [p])) (L.length + 1))).heap[j]? := fun j hj hne => (g.block j (Nat.lt_of_lt_of_le hj hz) (fun e => hne e.symm)).trans (k3 j hj)
  have o3 : OwnG W3 B vs L := own_same (h.mapped (.map (entsC (L ++ [p])) (L.length + 1))) (fun j hj => hW3.block j (World.ownsRow.lt (h.mapped _) j hj).2)
  refine ⟨⟨o1, fun q hq => ?_, ?_, h.lr⟩, ?_⟩
  · rcases List.mem_append.1 hq with hq | hq
    · exact innW_grownG o3 g ((innW_map h.mp _ (h.inn q hq)).below hW3 (Nat.zero_le _))
    · have : q = p := by simpa using hq
      subst this
      exact innW_grownG o3 g hi
  · rw [k2 br hbr a1, heap_setMap _ _ hbr, List.length_append]; rfl
  · have b1 : Below B w0 (setMap W br (.map (entsC (L ++ [p])) (L.length + 1))) :=
      h0.trans ⟨rfl, rfl, rfl, by rw [size_setMap]; exact Nat.le_refl _, fun j hj => heap_setMap_ne _ _ _ (by have := h.lr; omega)⟩
    exact (b1.trans (hW3.mono (by rw [size_setMap]; exact hBW))).grown g (Nat.le_trans hBW hz) (fun j hj => (World.ownsRow.lt h.ss j hj).1)
end
theorem lgi_first {B : Nat} {W : World} {br : Nat} {v : Value} {p : PlC} (ho : OwnG W B v [p]) (hi : InnW 0 W p.v p.word) (hm : W.heap[br]? = some (.map #[] 0)) (hb : B ≤ br) : LGI B (setMap W br (.map (entsC [p]) 1)) br v [p] := by
  have hbr := (Array.getElem?_eq_some_iff.1 hm).1
  refine ⟨own_same ho (fun k hk => heap_setMap_ne _ _ _ (fun e => ?_)), fun q hq => ?_, heap_setMap _ _ hbr, hb⟩
  · obtain ⟨cs, hc⟩ := own_type ho hk
    rw [e, hm] at hc; cases hc
  · have : q = p := by simpa using hq
    subst this
    exact innW_map hm _ hi
theorem lgi_first2 {B : Nat} {W : World} {br : Nat} {p : PlC} (hi : InnW 0 W p.v p.word) (hm : W.heap[br]? = some (.map (entsC [p]) 1)) (hb : B ≤ br) (hB : B ≤ W.heap.size) : LGI B (W.alloc (.cells (pccells p).toArray 142)) br (.slice (some ⟨W.heap.size, 0, none⟩) 1 1) [p] :=
  ⟨ownG_one W p B hB, fun q hq => (by
    have : q = p := by simpa using hq
    subst this
    exact hi.below ((Below.refl _ _).alloc (Nat.le_refl _) _) (Nat.zero_le _)), (Below.heap_alloc W _ br (Array.getElem?_eq_some_iff.1 hm).1).trans hm, hb⟩
/-- A row of places that a call hands back: sets and lists of what has been found. -/
structure PlsG (W : World) (B : Nat) (v : Value) (seen : List Int) (L : List PlC) (l : List (List Int × List Int)) : Prop where
  ow : OwnG W B v L
  inn : ∀ q ∈ L, InnW 0 W q.v q.word
  rep : RepCL L l
  wd : WdC seen L l
theorem PGk.cells {W : World} {b : Nat} {p : PlC} (h : Blk W b 142 (pcarr p)) : W.cell? ⟨b, 0, none⟩ = some (.int .u64 (p.s 0)) ∧ W.cell? ⟨b, 1, none⟩ = some (.int .u64 (p.s 1)) ∧ W.cell? ⟨b, 2, none⟩ = some (.int .u64 (p.s 2)) ∧ W.cell? ⟨b, 3, none⟩ = some (.int .u64 (p.s 3)) ∧ W.cell? ⟨b, 4, none⟩ = some p.v :=
  ⟨h.cell 0 rfl, h.cell 1 rfl, h.cell 2 rfl, h.cell 3 rfl, h.cell 4 rfl⟩

abbrev pg0 (Q : Nat → Nat) : Array Value := #[.int .u64 (Q 0), .int .u64 (Q 1), .int .u64 (Q 2), .int .u64 (Q 3), .slice none 0 0]
theorem entsG_s (L : List PlC) {p q : PlC} (h : p.s = q.s) : entsC (L ++ [p]) = entsC (L ++ [q]) := by
  rw [entsC_snoc, entsC_snoc]; unfold entC; rw [h]
theorem ownG_low {W : World} {B B' : Nat} {v : Value} {L : List PlC} (h : OwnG W B v L) (hb : B' ≤ B) : OwnG W B' v L := by
  refine ⟨h.1, ?_⟩
  rcases h.2 with h0 | ⟨g, cap, cur, e, hg, hr⟩
  · exact .inl h0
  · exact .inr ⟨g, cap, cur, e, Nat.le_trans hb hg, hr⟩
theorem LGI.nebr {B : Nat} {W : World} {br hp : Nat} {vs : Value} {L : List PlC} {t : TypeId} {cs : Array Value} (h : LGI B W br vs L) (hh : Blk W hp t cs) : hp ≠ br := fun e => by
  have hm := h.mp
  rw [← e, show W.heap[hp]? = _ from hh] at hm; cases hm
/-- The block that a search's row lies in, apart from another one, stays apart. -/
theorem blk_grownG {W W2 : World} {b : Nat} {row : Option Nat} {t : TypeId} {cs : Array Value} (h : Blk W b t cs) (g : W.grownBy W2 row) (hn : row ≠ some b) : Blk W2 b t cs := (g.block b h.lt (fun e => hn e.symm)).trans h
theorem sb_apartG {W : World} {B n b : Nat} {v : Value} {vs : List Value} {S : Nat → Nat} (ho : W.ownsRow B 142 5 v n vs) (h : SB W b S) : v.ownBlock ≠ some b := fun e => by
  obtain ⟨c2, h2⟩ := own_type ho e
  rw [show W.heap[b]? = _ from h] at h2; cases h2

theorem Tryd.infoPlaceG : (Tryd.prog.info? 142).map (fun i => (i.zero, i.size, i.bytes)) = some (some (.agg (pccells ⟨zeroS, .slice none 0 0, []⟩).toArray), 5, 56) := by kernel_rfl
theorem below_mapG {B : Nat} {w W : World} (h : Below B w W) {br : Nat} (hb : B ≤ br) (o : Obj) : Below B w (setMap W br o) :=
  h.trans ⟨rfl, rfl, rfl, by rw [size_setMap]; exact Nat.le_refl _, fun j hj => heap_setMap_ne _ _ _ (by omega)⟩
theorem blk_mapG {W : World} {b br : Nat} {t : TypeId} {cs : Array Value} (h : Blk W b t cs) (hn : b ≠ br) (o : Obj) : Blk (setMap W br o) b t cs := (heap_setMap_ne W br o hn).trans h

end Go.Proofs.YtmlkpdeidpcidaaDoor
namespace Go.Proofs.YtmlkpdeidpcidaaDoor
open Go.RowKit
set_option linter.unusedVariables false

theorem rngI_snoc (k : Nat) : rngI (k + 1) = rngI k ++ [(k : Int)] := by unfold rngI; rw [List.range_succ, List.map_append]; rfl
theorem oth_hit {l : List Int} {k : Nat} (h : hasB l (k : Int) = false) : othL (k + 1) l = othL k l ++ [(k : Int)] := by
  unfold othL
  rw [rngI_snoc, List.filter_append, List.filter_cons_of_pos (by rw [h]; rfl), List.filter_nil]
theorem oth_miss {l : List Int} {k : Nat} (h : hasB l (k : Int) = true) : othL (k + 1) l = othL k l := by
  unfold othL
  rw [rngI_snoc, List.filter_append, List.filter_cons_of_neg (by rw [h]; simp), List.filter_nil, List.append_nil]
theorem oth_len (k : Nat) (l : List Int) : (othL k l).length ≤ k := by
  unfold othL
  refine Nat.le_trans (List.length_filter_le _ _) ?_
  unfold rngI; simp

set_option maxHeartbeats 2000000 in
set_option maxRecDepth 100000 in
theorem others_any (ev : Nat) (a : Option Addr) (cap : Nat) (xs : List Int) (w : World) (he : ev ≤ 8) (hs : At w a xs) (hl : xs.length ≤ maxLen) :
    Calls Tryd.prog 143 #[.int .i64 ev, .slice a xs.length cap] w fun e w' => ∃ v, e = .returned v ∧ Own w' w.heap.size v (othL ev xs) ∧ Below w.heap.size w w' := by
  obtain ⟨i0, hi, hz0, hz1, hz2⟩ := info_parts Tryd.infoInt
  have HS := Hid.of hs
  have HL := Hid.of hl
  clear hs hl
  go_enter Tryd.func143, Tryd.ntmps143
  go_wp2
  go_loopw [5, 8] (fun v i wr => ∃ k : Nat, k ≤ ev ∧ i = .int .i64 k ∧ Own wr w.heap.size v (othL k xs) ∧ Below w.heap.size w wr) (fun _ i _ => ev - (intOf i).toNat)
  case atStart => exact ⟨0, Nat.zero_le _, rfl, own_nil _ _, Below.refl _ _⟩
  case round =>
    obtain ⟨k, hk, rfl, hown, hbel⟩ := hrel
    by_cases hlt : k < ev
    · have hll := oth_len k xs
      have hsz := hbel.size
      have hat := Hid.of (HS.out.below hbel (Nat.le_refl _))
      go_wp2_with fail
      refine (rowHas_any a cap xs k _ hat.out HL.out).mono ?_
      rintro e w1 ⟨rfl, rfl⟩
      by_cases hh : hasB xs (k : Int) = true
      · have r1 := hown
        rw [← oth_miss hh] at r1
        rw [hh]
        clear hown hh
        go_wp2
        go_roundw
        case rel => exact ⟨k + 1, by omega, by go_num, r1, hbel⟩
        case measure => simp [intOf]; omega
      · have hh : hasB xs (k : Int) = false := by simpa using hh
        have HH : Hid (hasB xs (k : Int) = false) := hh
        rw [hh]
        clear hh
        go_wp2_with (at_builtin; refine wpList_append_own _ rfl _ _ 22 rfl w.heap.size 3 i0 (.int .i64 0) 1 8 Tryd.underlying22 hi hz0 hz1 hz2 rfl (by decide) _ _ _ rfl (World.ownsRow.alloc hown _) ⟨w1.heap.size, 0, none⟩ 1 1 [.int .i64 (k : Int)] rfl rfl (cell_one_new _ _ _) (by intro u hu; simp at hu; subst hu; rfl) (by unfold maxLen; omega) (by omega) (by simp; omega) ?_)
        intro v' w2 hown' hgrow _
        obtain ⟨r1, r2, -⟩ := own_snoc hown hbel hsz hown' hgrow
        rw [← oth_hit HH.out] at r1
        clear hown' hgrow hown
        go_wp2
        go_roundw
        case rel => exact ⟨k + 1, by omega, by go_num, r1, r2⟩
        case measure => simp [intOf]; omega
    · have hke : k = ev := by omega
      subst hke
      go_wp2
      go_ret
      exact ⟨_, rfl, hown, hbel⟩

end Go.Proofs.YtmlkpdeidpcidaaDoor
namespace Go.Proofs.YtmlkpdeidpcidaaDoor
open Go.RowKit
set_option linter.unusedVariables false

theorem results_twoS {fn : Func} {p u : Tmp} (h : fn.results = #[.cell p 85, .cell u 85]) (tmps : Array Value) (w : World) (g k : Nat) (S T : Nat → Nat) (hp : tmps.getD p undef = .pointer (some ⟨g, 0, none⟩)) (hu : tmps.getD u undef = .pointer (some ⟨k, 0, none⟩)) (hB : SB w g S) (hC : SB w k T) :
    (results fn tmps).run Tryd.prog w = .ok (.tuple #[sval S, sval T]) w := by
  obtain ⟨x0, x1, x2, x3⟩ := SB.cells hB
  obtain ⟨y0, y1, y2, y3⟩ := SB.cells hC
  have e : (results fn tmps).run Tryd.prog w = ((asAddr (tmps.getD p undef)).run Tryd.prog w).andThen fun a w₁ => ((loadVar 85 a).run Tryd.prog w₁).andThen fun r w₂ => ((asAddr (tmps.getD u undef)).run Tryd.prog w₂).andThen fun b w₃ => ((loadVar 85 b).run Tryd.prog w₃).andThen fun r' w₄ => .ok (.tuple #[r, r']) w₄ := by
    simp only [results, h]
    simp [Sem.run_bind, Result.andThen]
  rw [e, hp, hu]
  go_simp

set_option maxHeartbeats 4000000 in
set_option maxRecDepth 100000 in
theorem pairOf_any (n : Nat) (hn : n < 256) (w : World) :
    Calls Tryd.prog 182 #[.int .i64 n] w fun e w' => e = .returned (.tuple #[sval (withS zeroS (n / 16)), sval (oneW (n % 16))]) ∧ Below w.heap.size w w' := by
  obtain ⟨q, hq⟩ : ∃ q, q = n / 16 := ⟨_, rfl⟩
  obtain ⟨r, hr⟩ : ∃ r, r = n % 16 := ⟨_, rfl⟩
  have hq1 : (n : Int).tdiv 16 = (q : Int) := by rw [Int.tdiv_eq_ediv_of_nonneg (by omega)]; omega
  have hr1 : (n : Int).tmod 16 = (r : Int) := by rw [Int.tmod_eq_emod_of_nonneg (by omega)]; omega
  have hq2 : q < 256 := by omega
  have hr2 : r < 16 := by omega
  have hw1 : IntKind.i64.wrap (q : Int) = (q : Int) := by rw [IntKind.wrap_i64]; omega
  have hw2 : IntKind.i64.wrap (r : Int) = (r : Int) := by rw [IntKind.wrap_i64]; omega
  have hw3 : IntKind.u64.wrap (r : Int) = (r : Int) := by rw [IntKind.wrap_u64]; omega
  rw [← hq, ← hr]
  clear hq hr
  have B0 : Hid (Below w.heap.size w ((w.alloc (.cells #[.int .u64 0, .int .u64 0, .int .u64 0, .int .u64 0] 85)).alloc (.cells #[.int .u64 0, .int .u64 0, .int .u64 0, .int .u64 0] 85))) := ((Below.refl _ _).alloc (Nat.le_refl _) _).alloc (by simp) _
  have K0 : Hid (SB ((w.alloc (.cells #[.int .u64 0, .int .u64 0, .int .u64 0, .int .u64 0] 85)).alloc (.cells #[.int .u64 0, .int .u64 0, .int .u64 0, .int .u64 0] 85)) w.heap.size zeroS) := (Blk.new w _ _).alloc _
  have R0 : Hid (SB ((w.alloc (.cells #[.int .u64 0, .int .u64 0, .int .u64 0, .int .u64 0] 85)).alloc (.cells #[.int .u64 0, .int .u64 0, .int .u64 0, .int .u64 0] 85)) (w.heap.size + 1) zeroS) := by
    have := Blk.new (w.alloc (.cells #[.int .u64 0, .int .u64 0, .int .u64 0, .int .u64 0] 85)) 85 (scells zeroS)
    rwa [World.size_alloc] at this
  go_enter Tryd.func182, Tryd.ntmps182
  go_wp2_with fail
  revert B0 K0 R0
  generalize (w.alloc (.cells #[.int .u64 0, .int .u64 0, .int .u64 0, .int .u64 0] 85)).alloc (.cells #[.int .u64 0, .int .u64 0, .int .u64 0, .int .u64 0] 85) = V
  intro B0 K0 R0
  refine (with_any zeroS (q : Int) V okS_zero (by omega) (by omega)).mono ?_
  rintro e V1 ⟨rfl, hb⟩
  rw [Int.toNat_natCast]
  replace B0 := Hid.of (B0.out.trans (hb.mono B0.out.size))
  replace K0 := Hid.of (K0.out.below hb K0.out.lt)
  replace R0 := Hid.of (R0.out.below hb R0.out.lt)
  clear hb
  obtain ⟨Q, HQ⟩ : ∃ Q, Hid (Q = withS zeroS q) := ⟨_, rfl⟩
  rw [← HQ.out]
  have rz := K0.out.frozen
  obtain ⟨r0, r1, r2, r3⟩ := SB.cells K0.out
  have KK := Hid.of (SB.set4 K0.out Q)
  have RR := Hid.of (Blk.other4 R0.out (b' := w.heap.size) (by omega) (.int .u64 (Q 0)) (.int .u64 (Q 1)) (.int .u64 (Q 2)) (.int .u64 (Q 3)))
  have BB := Hid.of (below_set4 B0.out (b' := w.heap.size) (Nat.le_refl _) (.int .u64 (Q 0)) (.int .u64 (Q 1)) (.int .u64 (Q 2)) (.int .u64 (Q 3)))
  have sz := RR.out.frozen
  obtain ⟨s0, s1, s2, s3⟩ := SB.cells RR.out
  have RF := Hid.of (SB.set4 RR.out (oneW r))
  have KF := Hid.of (Blk.other4 KK.out (b' := w.heap.size + 1) (by omega) (.int .u64 (oneW r 0)) (.int .u64 (oneW r 1)) (.int .u64 (oneW r 2)) (.int .u64 (oneW r 3)))
  have BF := Hid.of (below_set4 BB.out (b' := w.heap.size + 1) (by omega) (.int .u64 (oneW r 0)) (.int .u64 (oneW r 1)) (.int .u64 (oneW r 2)) (.int .u64 (oneW r 3)))
  clear K0 R0 B0 KK RR BB
  go_wp2_with fail
  exact bodyPost_ret (v := .tuple #[sval Q, sval (oneW r)]) (results_twoS (p := 2) (u := 3) rfl _ _ w.heap.size (w.heap.size + 1) Q (oneW r) rfl rfl KF.out RF.out) rfl ⟨by rw [HQ.out], BF.out⟩

end Go.Proofs.YtmlkpdeidpcidaaDoor
namespace Go.Proofs.YtmlkpdeidpcidaaDoor
open Go.RowKit Go.Shelf
set_option linter.unusedVariables false
attribute [local go_sem] Oper.semAt_some

set_option maxRecDepth 100000 in
set_option maxHeartbeats 4000000 in
theorem pairs_in (S T : Nat → Nat) (hS : okS S) (hall : ∀ k ∈ allS S, k < 15) (hb16 : T 0 < 16) (w : World) (hT : Tab w) :
    CallsIn Fence.wide 5 Tryd.prog 144 #[sval S, sval T] w fun e W' => e = .returned (sval (pairsS S (T 0))) ∧ Below w.heap.size w W' := by
  obtain ⟨xs, hxs⟩ := nb_of (N := 15) (allS S) hall
  clear hall
  refine callsIn_of_wp_marks Tryd.func144 rfl trivial ?_ rfl
  simp only [Tryd.ntmps144, List.size_toArray, List.length_cons, List.length_nil, Nat.reduceAdd, Nat.reduceSub, Array.replicate_succ, Array.replicate_zero, List.push_toArray, List.append_toArray, List.nil_append, List.cons_append]
  gi_wp2_with (refine ⟨trivial, ?_⟩; refine CallsIn.mono (callsIn_wide.2 (all_any S _)) ?_; rintro e w1 ⟨rfl, rfl⟩)
  have hB0 : Below w.heap.size w (((((w.alloc (.cells (scells S) 85)).alloc (.cells (scells T) 85)).alloc (.cells #[.int .u64 0, .int .u64 0, .int .u64 0, .int .u64 0] 85)).alloc (.cells #[.int .u64 0, .int .u64 0, .int .u64 0, .int .u64 0] 85)).alloc (.cells (scells S) 85)) := (((((Below.refl _ _).alloc (Nat.le_refl _) _).alloc (by simp) _).alloc (by simp; omega) _).alloc (by simp; omega) _).alloc (by simp; omega) _
  have bX : SB (((((w.alloc (.cells (scells S) 85)).alloc (.cells (scells T) 85)).alloc (.cells #[.int .u64 0, .int .u64 0, .int .u64 0, .int .u64 0] 85)).alloc (.cells #[.int .u64 0, .int .u64 0, .int .u64 0, .int .u64 0] 85)).alloc (.cells (scells S) 85)) (w.heap.size + 1) T := by
    have := ((((Blk.new (w.alloc (.cells (scells S) 85)) 85 (scells T)).alloc (.cells #[.int .u64 0, .int .u64 0, .int .u64 0, .int .u64 0] 85)).alloc (.cells #[.int .u64 0, .int .u64 0, .int .u64 0, .int .u64 0] 85)).alloc (.cells (scells S) 85))
    rwa [World.size_alloc] at this
  have bR : SB (((((w.alloc (.cells (scells S) 85)).alloc (.cells (scells T) 85)).alloc (.cells #[.int .u64 0, .int .u64 0, .int .u64 0, .int .u64 0] 85)).alloc (.cells #[.int .u64 0, .int .u64 0, .int .u64 0, .int .u64 0] 85)).alloc (.cells (scells S) 85)) (w.heap.size + 1 + 1) zeroS := by
    have := (((Blk.new ((w.alloc (.cells (scells S) 85)).alloc (.cells (scells T) 85)) 85 #[.int .u64 0, .int .u64 0, .int .u64 0, .int .u64 0]).alloc (.cells #[.int .u64 0, .int .u64 0, .int .u64 0, .int .u64 0] 85)).alloc (.cells (scells S) 85))
    rwa [World.size_alloc, World.size_alloc] at this
  have bO : SB (((((w.alloc (.cells (scells S) 85)).alloc (.cells (scells T) 85)).alloc (.cells #[.int .u64 0, .int .u64 0, .int .u64 0, .int .u64 0] 85)).alloc (.cells #[.int .u64 0, .int .u64 0, .int .u64 0, .int .u64 0] 85)).alloc (.cells (scells S) 85)) (w.heap.size + 1 + 1 + 1) zeroS := by
    have := ((Blk.new (((w.alloc (.cells (scells S) 85)).alloc (.cells (scells T) 85)).alloc (.cells #[.int .u64 0, .int .u64 0, .int .u64 0, .int .u64 0] 85)) 85 #[.int .u64 0, .int .u64 0, .int .u64 0, .int .u64 0]).alloc (.cells (scells S) 85))
    rwa [World.size_alloc, World.size_alloc, World.size_alloc] at this
  have bN : SB (((((w.alloc (.cells (scells S) 85)).alloc (.cells (scells T) 85)).alloc (.cells #[.int .u64 0, .int .u64 0, .int .u64 0, .int .u64 0] 85)).alloc (.cells #[.int .u64 0, .int .u64 0, .int .u64 0, .int .u64 0] 85)).alloc (.cells (scells S) 85)) (w.heap.size + 1 + 1 + 1 + 1) S := by
    have := (Blk.new ((((w.alloc (.cells (scells S) 85)).alloc (.cells (scells T) 85)).alloc (.cells #[.int .u64 0, .int .u64 0, .int .u64 0, .int .u64 0] 85)).alloc (.cells #[.int .u64 0, .int .u64 0, .int .u64 0, .int .u64 0] 85)) 85 (scells S))
    rwa [World.size_alloc, World.size_alloc, World.size_alloc, World.size_alloc] at this
  have hsz0 : (((((w.alloc (.cells (scells S) 85)).alloc (.cells (scells T) 85)).alloc (.cells #[.int .u64 0, .int .u64 0, .int .u64 0, .int .u64 0] 85)).alloc (.cells #[.int .u64 0, .int .u64 0, .int .u64 0, .int .u64 0] 85)).alloc (.cells (scells S) 85)).heap.size = w.heap.size + 5 := by simp
  revert hB0 bX bR bO bN hsz0
  generalize (((((w.alloc (.cells (scells S) 85)).alloc (.cells (scells T) 85)).alloc (.cells #[.int .u64 0, .int .u64 0, .int .u64 0, .int .u64 0] 85)).alloc (.cells #[.int .u64 0, .int .u64 0, .int .u64 0, .int .u64 0] 85)).alloc (.cells (scells S) 85)) = W0
  intro hB0 bX bR bO bN hsz0
  have hT0 := hT.below hB0 hT.lt
  have hw0 := hT.lt
  refine wpIn_rangeFunc_ownG rfl (by omega) (gf := 164) (lb := #[.pointer (some ⟨w.heap.size + 1 + 1 + 1 + 1, 0, none⟩)]) rfl trivial (enters_of Tryd.func164 (by kernel_rfl) rfl)
    (all_stops 4 (by omega) (w.heap.size + 1 + 1 + 1 + 1) (w.heap.size + 3) S hS xs hxs (by omega) W0 (by omega) bN hT0) belowK_t (belowK_b (by omega)) (Below.refl _ _) (fun _ => rfl)
    (fun pre W' => SB W' (w.heap.size + 1 + 1 + 1) (prsF (T 0) (nbNats pre)) ∧ Below (w.heap.size + 3) W0 W')
    (fun _ _ _ => False)
    (OwnFrom.and (Go.Own.from (own_SB (w.heap.size + 1 + 1 + 1) (fun pre : List (NB 15) => prsF (T 0) (nbNats pre))) _) (ownFrom_below (by omega) (by omega)))
    (fun _ _ _ _ _ hs _ _ => hs)
    ⟨bO, Below.refl _ _⟩
    (fun x => { tmps := #[sval S, sval T, .pointer (some ⟨w.heap.size, 0, none⟩), .pointer (some ⟨w.heap.size + 1, 0, none⟩), .pointer (some ⟨w.heap.size + 1 + 1, 0, none⟩), .pointer (some ⟨w.heap.size + 1 + 1 + 1, 0, none⟩), .int .i64 (x.1 : Int), sval S, .func (.func 164) #[] #[.pointer (some ⟨w.heap.size + 1 + 1 + 1 + 1, 0, none⟩)], .int .i64 (x.1 : Int), undef, undef, undef, undef, undef, undef, undef, undef, undef], defers := [] }) ?assign ?body ?done ?stop
  case assign =>
    intro l x W K hK
    gi_wp2
    exact hK
  case body =>
    rintro l' pre x W' ⟨hO, hB'⟩ hlt
    have hXW := bX.below hB' (by omega)
    obtain ⟨c1, -, -, -⟩ := SB.cells hXW
    have hx := x.2
    obtain ⟨n, hn⟩ : ∃ n, Hid (n = x.1) := ⟨_, rfl⟩
    rw [← hn.out] at hx ⊢
    obtain ⟨b, hbT⟩ : ∃ b, Hid (b = T 0) := ⟨_, rfl⟩
    rw [← hbT.out] at hb16 c1
    obtain ⟨q, hq⟩ : ∃ q, q = n * 16 := ⟨_, rfl⟩
    obtain ⟨p, hp⟩ : ∃ p, p = n * 16 + b := ⟨_, rfl⟩
    have hw1 : IntKind.i64.wrap ((n : Int) * 16) = (q : Int) := by rw [IntKind.wrap_i64]; omega
    have hw2 : IntKind.i64.wrap (b : Int) = (b : Int) := by rw [IntKind.wrap_i64]; omega
    have hw3 : IntKind.i64.wrap ((q : Int) + (b : Int)) = (p : Int) := by rw [IntKind.wrap_i64]; omega
    have hp1 : p < 256 := by omega
    have HP := Hid.of hp
    clear hp hq
    obtain ⟨o0, o1, o2, o3⟩ := hO.cells
    have hOk : Hid (okS (prsF (T 0) (nbNats pre))) := ok_prsF _ _
    have HX : Hid (prsF (T 0) (nbNats (pre ++ [x])) = withS (prsF (T 0) (nbNats pre)) p) := by show _ = _; rw [nbNats_snoc, prsF_snoc, HP.out, hn.out, hbT.out]
    have HB := Hid.of hB'
    have HO := Hid.of hO
    clear hXW hB' hO
    generalize prsF (T 0) (nbNats pre) = O at *
    gi_wp2_with (refine ⟨trivial, ?_⟩; refine CallsIn.mono (CallsIn.inRound l' (callsIn_wide.2 (with_any O (p : Int) _ hOk.out (by omega) (by omega)))) ?_; rw [Int.toNat_natCast]; rintro e' w1 ⟨rfl, hb1⟩; have hO1 := Blk.below HO.out hb1 HO.out.lt; obtain ⟨y0, y1, y2, y3⟩ := SB.cells hO1; have fO1 := Blk.frozen hO1)
    all_goals
      have k1 : KeepsOthers W' w1 := ⟨hb1.size, fun k o hk _ => (hb1.block k (Array.getElem?_eq_some_iff.1 hk).1).trans hk⟩
      have k2 : Below (w.heap.size + 3) W' w1 := hb1.mono (Nat.le_of_lt HO.out.lt)
      have k3 := below_set4 k2 (b' := w.heap.size + 1 + 1 + 1) (Nat.le_refl _) (.int .u64 (withS O p 0)) (.int .u64 (withS O p 1)) (.int .u64 (withS O p 2)) (.int .u64 (withS O p 3))
      exact ⟨((((k1.trans (KeepsOthers.setCell _ _ _)).trans (KeepsOthers.setCell _ _ _)).trans (KeepsOthers.setCell _ _ _)).trans (KeepsOthers.setCell _ _ _)).from _, k3, by rw [HX.out]; exact SB.set4 hO1 _, HB.out.trans k3⟩
  case done =>
    rintro D ys W' hD rfl ⟨hO, hB'⟩ hK
    have hBW : Below w.heap.size w W' := hB0.trans (hB'.mono (by omega))
    obtain ⟨o0, o1, o2, o3⟩ := hO.cells
    have HQ : Hid (prsF (T 0) (nbNats ys) = pairsS S (T 0)) := by show _ = _; unfold pairsS; rw [← hxs]; rfl
    have hres := bR.below hB' (by omega)
    obtain ⟨r0, r1, r2, r3⟩ := SB.cells hres
    have rz := hres.frozen
    have k2 := Hid.of (SB.set4 hres (prsF (T 0) (nbNats ys)))
    have k3 := Hid.of (below_set4 hBW (b' := w.heap.size + 1 + 1) (by omega) (.int .u64 (prsF (T 0) (nbNats ys) 0)) (.int .u64 (prsF (T 0) (nbNats ys) 1)) (.int .u64 (prsF (T 0) (nbNats ys) 2)) (.int .u64 (prsF (T 0) (nbNats ys) 3)))
    have hMk : Marks w.heap.size [D] W' := by
      refine ⟨fun D' hD' => ?_, by simp⟩
      have e : D' = D := by simpa using hD'
      rw [e]
      exact ⟨by omega, hK⟩
    have k4 := Hid.of (hMk.other4 hres (prsF (T 0) (nbNats ys)))
    clear hMk
    clear hO hBW hB' hres hK
    generalize prsF (T 0) (nbNats ys) = O at *
    gi_wp2
    refine leaves_marks (B := w.heap.size) (fun W => SB W (w.heap.size + 1 + 1) O ∧ Below w.heap.size w W) ?hJ ?hfin [D] _ k4.out ⟨k2.out, k3.out⟩
    case hJ =>
      rintro W D ⟨h1, h2⟩ hD hk
      refine ⟨(World.putObj_heap_other (fun e => ?_)).trans h1, h2.trans (belowK_b (w := w) (Nat.le_refl _) W D _ _ hD hk rfl rfl)⟩
      have h3 : W.heap[w.heap.size + 1 + 1]? = _ := h1
      rw [e, hk] at h3
      cases h3
    case hfin =>
      rintro W ⟨h1, h2⟩
      exact ⟨_, results_cell_row (g := w.heap.size + 1 + 1) (p := 4) rfl _ _ _ _ _ _ rfl h1 Tryd.underlying85 rfl (by kernel_rfl), by rw [← HQ.out], h2⟩
  case stop =>
    rintro D c pre W _ _ h _
    exact h.elim

theorem pairs_any (S T : Nat → Nat) (hS : okS S) (hall : ∀ k ∈ allS S, k < 15) (hb16 : T 0 < 16) (w : World) (hT : Tab w) :
    Calls Tryd.prog 144 #[sval S, sval T] w fun e W' => e = .returned (sval (pairsS S (T 0))) ∧ Below w.heap.size w W' :=
  callsIn_wide.1 (pairs_in S T hS hall hb16 w hT)

end Go.Proofs.YtmlkpdeidpcidaaDoor
namespace Go.Proofs.YtmlkpdeidpcidaaDoor
open Go.RowKit
set_option linter.unusedVariables false

theorem Tryd.infoAtQ : (Tryd.prog.info? 206).map (fun i => (i.zero, i.size, i.bytes)) = some (some (.agg #[.int .i64 0, .slice none 0 0]), 2, 32) := by kernel_rfl

theorem cells_duoQ (W W' : World) (hW : W'.heap = W.heap) (t : TypeId) (x y : Value) : ∀ j u, ([x, y] : List Value)[j]? = some u → (W'.alloc (.cells #[x, y] t)).cell? ((⟨W.heap.size, 0, none⟩ : Addr).add j) = some u := by
  intro j u hu
  rw [addr0_add, Nat.zero_add, ← hW]
  exact (Blk.new W' t #[x, y]).cell j (by rw [← Array.getElem?_toList]; exact hu)
/-- Whereabouts in memory, in a block of theirs. -/
def AtQ (n : Nat) (W : World) (a : Option Addr) (l : List Pla) : Prop := l = [] ∨ ∃ g o, a = some ⟨g, o, none⟩ ∧ (∃ cs, W.heap[g]? = some (.cells cs 206 (0, 0))) ∧ ∀ (k : Nat) (x : Pla), l[k]? = some x → W.cell? ⟨g, o + k * 2, none⟩ = some (.int .i64 x.1) ∧ ∃ z, W.cell? ⟨g, o + k * 2 + 1, none⟩ = some z ∧ InnW n W z x.2
theorem AtQ.kept {n : Nat} {W W' : World} {a : Option Addr} {l : List Pla} (h : AtQ n W a l) (hz : W.heap.size ≤ W'.heap.size) (h1 : ∀ j, j < n → W'.heap[j]? = W.heap[j]?) (h2 : ∀ (g : Nat) (cs : Array Value), W.heap[g]? = some (.cells cs 3 (0, 0)) → W'.heap[g]? = W.heap[g]?) (h3 : ∀ (g : Nat) (cs : Array Value), W.heap[g]? = some (.cells cs 206 (0, 0)) → W'.heap[g]? = W.heap[g]?) : AtQ n W' a l := by
  rcases h with h | ⟨g, o, e, ⟨cs, hg⟩, hc⟩
  · exact .inl h
  · have hb := h3 g cs hg
    refine .inr ⟨g, o, e, ⟨cs, hb.trans hg⟩, fun k x hx => ?_⟩
    obtain ⟨c1, z, c2, hi⟩ := hc k x hx
    refine ⟨?_, z, ?_, hi.kept hz h1 h2⟩
    · rw [World.cell?_of_block (w := W) hb]; exact c1
    · rw [World.cell?_of_block (w := W) hb]; exact c2
theorem AtQ.below {n : Nat} {W W' : World} {a : Option Addr} {l : List Pla} (h : AtQ n W a l) (hb : Below W.heap.size W W') (hn : n ≤ W.heap.size) : AtQ n W' a l :=
  h.kept hb.size (fun j hj => hb.block j (by omega)) (fun g cs hg => hb.block g (Array.getElem?_eq_some_iff.1 hg).1) (fun g cs hg => hb.block g (Array.getElem?_eq_some_iff.1 hg).1)
/-- What the cells hold. -/
theorem AtQ.get {n : Nat} {W : World} {a : Option Addr} {l : List Pla} (h : AtQ n W a l) {k : Nat} {x : Pla} (hx : l[k]? = some x) : ∃ g o sa sc, a = some ⟨g, o, none⟩ ∧ g < W.heap.size ∧ W.cell? ⟨g, o + k * 2, none⟩ = some (.int .i64 x.1) ∧ W.cell? ⟨g, o + k * 2 + 1, none⟩ = some (.slice sa x.2.length sc) ∧ At W sa x.2 ∧ x.2.length ≤ maxLen ∧ InnW n W (.slice sa x.2.length sc) x.2 := by
  rcases h with h | ⟨g, o, e, ⟨cs, hg⟩, hc⟩
  · rw [h] at hx; simp at hx
  · obtain ⟨c1, z, c2, hi⟩ := hc k x hx
    obtain ⟨sa, sc, rfl, i1, i2, -⟩ := hi.at
    exact ⟨g, o, sa, sc, e, (Array.getElem?_eq_some_iff.1 hg).1, c1, c2, i1, i2, hi⟩
/-- Whereabouts of the call's own, in a row from block B on. -/
def OwnQ (n : Nat) (W : World) (B : Nat) (v : Value) (l : List Pla) : Prop := ∃ vs : List Value, W.ownsRow B 206 2 v l.length vs ∧ ∀ (k : Nat) (x : Pla), l[k]? = some x → vs[k * 2]? = some (.int .i64 x.1) ∧ ∃ z, vs[k * 2 + 1]? = some z ∧ InnW n W z x.2
theorem ownQ_nil (n : Nat) (W : World) (B : Nat) : OwnQ n W B (.slice none 0 0) [] := ⟨[], ⟨rfl, .inl ⟨rfl, rfl⟩⟩, fun k x h => by simp at h⟩
theorem OwnQ.at {n : Nat} {W : World} {B : Nat} {v : Value} {l : List Pla} (h : OwnQ n W B v l) : ∃ a cap, v = .slice a l.length cap ∧ AtQ n W a l ∧ l.length ≤ maxLen := by
  obtain ⟨vs, ho, hi⟩ := h
  rcases ho.2 with ⟨rfl, hn⟩ | ⟨g, cap, cur, rfl, hg, hh, hnc, hcm, hcs, ht⟩
  · have : l = [] := List.eq_nil_of_length_eq_zero hn
    subst this
    exact ⟨none, 0, rfl, .inl rfl, Nat.zero_le _⟩
  · refine ⟨some ⟨g, 0, none⟩, cap, rfl, .inr ⟨g, 0, rfl, ⟨cur, hh⟩, fun k x hx => ?_⟩, Nat.le_trans hnc hcm⟩
    obtain ⟨c1, z, c2, hz⟩ := hi k x hx
    have d1 := ho.cells (g := g) rfl _ _ c1
    have d2 := ho.cells (g := g) rfl _ _ c2
    rw [addr0_add] at d1 d2
    exact ⟨d1, z, d2, hz⟩
theorem OwnQ.form {n : Nat} {W : World} {B : Nat} {v : Value} {l : List Pla} (h : OwnQ n W B v l) : ∃ a cap, v = .slice a l.length cap := by
  obtain ⟨a, cap, e, -, -⟩ := h.at
  exact ⟨a, cap, e⟩
theorem OwnQ.kept {n : Nat} {W W' : World} {B : Nat} {v : Value} {l : List Pla} (h : OwnQ n W B v l) (hz : W.heap.size ≤ W'.heap.size) (h1 : ∀ j, j < n → W'.heap[j]? = W.heap[j]?) (h2 : ∀ (g : Nat) (cs : Array Value), W.heap[g]? = some (.cells cs 3 (0, 0)) → W'.heap[g]? = W.heap[g]?) (h3 : ∀ (g : Nat) (cs : Array Value), W.heap[g]? = some (.cells cs 206 (0, 0)) → W'.heap[g]? = W.heap[g]?) : OwnQ n W' B v l := by
  obtain ⟨vs, ho, hi⟩ := h
  refine ⟨vs, own_same ho (fun k hk => ?_), fun k x hx => ?_⟩
  · obtain ⟨cs, hc⟩ := own_type ho hk
    exact h3 k cs hc
  · obtain ⟨c1, z, c2, hz'⟩ := hi k x hx
    exact ⟨c1, z, c2, hz'.kept hz h1 h2⟩
theorem OwnQ.below {n : Nat} {W W' : World} {B : Nat} {v : Value} {l : List Pla} (h : OwnQ n W B v l) (hb : Below W.heap.size W W') (hn : n ≤ W.heap.size) : OwnQ n W' B v l :=
  h.kept hb.size (fun j hj => hb.block j (by omega)) (fun g cs hg => hb.block g (Array.getElem?_eq_some_iff.1 hg).1) (fun g cs hg => hb.block g (Array.getElem?_eq_some_iff.1 hg).1)
/-- One more. -/
theorem OwnQ.push {n : Nat} {W W2 : World} {B : Nat} {v v' z : Value} {l : List Pla} {x : Pla} {vs : List Value} (hn : n ≤ B) (hB : B ≤ W.heap.size) (ho : W.ownsRow B 206 2 v l.length vs) (hi : ∀ (k : Nat) (x : Pla), l[k]? = some x → vs[k * 2]? = some (.int .i64 x.1) ∧ ∃ z, vs[k * 2 + 1]? = some z ∧ InnW n W z x.2) (hz : InnW n W z x.2) (o1 : W2.ownsRow B 206 2 v' (l.length + 1) (vs ++ [.int .i64 x.1, z])) (g : W.grownBy W2 v.ownBlock) : OwnQ n W2 B v' (l ++ [x]) := by
  have low : ∀ j, j < n → W2.heap[j]? = W.heap[j]? := fun j hj => g.block j (by omega) (fun e => by have := (World.ownsRow.lt ho j e.symm).1; omega)
  have hty : ∀ (q : Nat) (cs : Array Value), W.heap[q]? = some (.cells cs 3 (0, 0)) → W2.heap[q]? = W.heap[q]? := fun q cs hq => g.block q (Array.getElem?_eq_some_iff.1 hq).1 (fun e => by
    obtain ⟨c2, h2⟩ := own_type ho e.symm
    rw [hq] at h2; cases h2)
  have hl : vs.length = l.length * 2 := ho.1
  refine ⟨vs ++ [.int .i64 x.1, z], by rw [List.length_append]; exact o1, fun k y hy => ?_⟩
  by_cases hk : k < l.length
  · rw [List.getElem?_append_left hk] at hy
    obtain ⟨c1, u, c2, hu⟩ := hi k y hy
    exact ⟨by rw [List.getElem?_append_left (by omega)]; exact c1, u, by rw [List.getElem?_append_left (by omega)]; exact c2, hu.kept g.size low hty⟩
  · have hk' := (List.getElem?_eq_some_iff.1 hy).1
    simp at hk'
    have e : k = l.length := by omega
    subst e
    rw [List.getElem?_append_right (Nat.le_refl _)] at hy
    have : x = y := by simpa using hy
    subst this
    refine ⟨?_, z, ?_, hz.kept g.size low hty⟩
    · rw [List.getElem?_append_right (by omega), hl, Nat.sub_self]; rfl
    · rw [List.getElem?_append_right (by omega), hl]
      have : l.length * 2 + 1 - l.length * 2 = 1 := by omega
      rw [this]; rfl
theorem one_vals {n : Nat} {W : World} {z : Value} {x : Pla} (hz : InnW n W z x.2) : ∀ u ∈ ([.int .i64 x.1, z] : List Value), u.oneCell' = true := fun u hu => by
  rcases List.mem_cons.1 hu with rfl | hu
  · rfl
  · rw [List.mem_singleton.1 hu]; exact hz.one

end Go.Proofs.YtmlkpdeidpcidaaDoor
namespace Go.Proofs.YtmlkpdeidpcidaaDoor
open Go.RowKit
set_option linter.unusedVariables false

/-- Is a place among some? -/
def memQ (l : List Pla) (x : Pla) : Bool := decide (x ∈ l)
/-- None of the first k is. -/
def noneQ (l : List Pla) (k : Nat) (x : Pla) : Prop := ∀ (j : Nat) (y : Pla), j < k → l[j]? = some y → y ≠ x
theorem memQ_hit {l : List Pla} {k : Nat} {y x : Pla} (h : Hid (l[k]? = some y)) (e : Hid (y = x)) : true = memQ l x := (decide_eq_true (by rw [← e.out]; exact List.mem_of_getElem? h.out)).symm
theorem noneQ_succ {l : List Pla} {k : Nat} {y x : Pla} (h0 : Hid (noneQ l k x)) (h : Hid (l[k]? = some y)) (h1 : Hid (y ≠ x)) : Hid (noneQ l (k + 1) x) := fun j q hj hq => by
  by_cases e : j < k
  · exact h0.out j q e hq
  · have : j = k := by omega
    subst this
    rw [h.out] at hq
    have := Option.some.inj hq
    subst this
    exact h1.out
theorem noneQ_end {l : List Pla} {k : Nat} {x : Pla} (h0 : Hid (noneQ l k x)) (h : ¬ k < l.length) : false = memQ l x := by
  symm
  refine decide_eq_false (fun hx => ?_)
  obtain ⟨i, hi⟩ := List.mem_iff_getElem?.1 hx
  exact h0.out i x (Nat.lt_of_lt_of_le (List.getElem?_eq_some_iff.1 hi).1 (by omega)) hi rfl

set_option maxRecDepth 100000 in
set_option maxHeartbeats 4000000 in
theorem rqhas_any (n : Nat) (a : Option Addr) (c : Nat) (l : List Pla) (xm : Int) (xs : List Int) (xa : Option Addr) (xc : Nat) (w : World) (hl : Hid (AtQ n w a l)) (hll : l.length ≤ 9223372036854775807) (hx : Hid (At w xa xs)) (hxl : Hid (xs.length ≤ maxLen)) :
    Calls Tryd.prog 148 #[.slice a l.length c, .agg #[.int .i64 xm, .slice xa xs.length xc]] w fun e w' => e = .returned (.bool (memQ l (xm, xs))) ∧ Below w.heap.size w w' := by
  have B0 : Hid (Below w.heap.size w (w.alloc (.cells #[.int .i64 xm, .slice xa xs.length xc] 206))) := (Below.refl _ _).alloc (Nat.le_refl _) _
  have K0 : Hid (Blk (w.alloc (.cells #[.int .i64 xm, .slice xa xs.length xc] 206)) w.heap.size 206 #[.int .i64 xm, .slice xa xs.length xc]) := Blk.new w _ _
  go_enter Tryd.func148, Tryd.ntmps148
  go_wp2_with fail
  revert B0 K0
  generalize w.alloc (.cells #[.int .i64 xm, .slice xa xs.length xc] 206) = V
  intro B0 K0
  go_loopw [5] (fun i wr => ∃ k q : Nat, i = .int .i64 k ∧ k ≤ l.length ∧ wr = V.drewN q ∧ Hid (noneQ l k (xm, xs))) (fun i _ => l.length - (intOf i).toNat)
  case atStart => exact ⟨0, 0, rfl, Nat.zero_le _, rfl, fun j p hj => by omega⟩
  case round =>
    obtain ⟨k, q, rfl, hk, rfl, he⟩ := hrel
    by_cases hlt : k < l.length
    · obtain ⟨⟨ym, ys⟩, HY⟩ : ∃ y, Hid (l[k]? = some y) := ⟨_, List.getElem?_eq_getElem hlt⟩
      obtain ⟨g, o, sa, sc, hga, hg, c1, c2, a1, l1, -⟩ := hl.out.get HY.out
      dsimp only at c1 c2 a1 l1
      subst hga
      have A1 := Hid.of (a1.below B0.out (Nat.le_refl _))
      have L1 := Hid.of l1
      have A2 := Hid.of (hx.out.below B0.out (Nat.le_refl _))
      obtain ⟨U, HU⟩ : ∃ U, Hid (U = V.drewN q) := ⟨_, rfl⟩
      have d1 : U.cell? ⟨g, o + k * 2, none⟩ = some (.int .i64 ym) := by rw [HU.out]; exact (B0.out.cell (p := ⟨g, o + k * 2, none⟩) hg).trans c1
      have d2 : U.cell? ⟨g, o + k * 2 + 1, none⟩ = some (.slice sa ys.length sc) := by rw [HU.out]; exact (B0.out.cell (p := ⟨g, o + k * 2 + 1, none⟩) hg).trans c2
      have b0 : U.cell? ⟨w.heap.size, 0, none⟩ = some (.int .i64 xm) := by rw [HU.out]; exact K0.out.cell 0 rfl
      have b1 : U.cell? ⟨w.heap.size, 1, none⟩ = some (.slice xa xs.length xc) := by rw [HU.out]; exact K0.out.cell 1 rfl
      have KEY : Hid (∀ r, Calls Tryd.prog 19 #[.slice sa ys.length sc, .slice xa xs.length xc] (U.drewN r) fun e w' => e = .returned (.bool (sameB ys xs)) ∧ ∃ m, w' = (U.drewN r).drewN m) := fun r => by
        rw [HU.out]
        exact same_any sa xa sc xc ys xs _ (At.drewN (At.drewN A1.out q) r) (At.drewN (At.drewN A2.out q) r) L1.out hxl.out
      rw [← HU.out]
      clear c1 c2 a1 l1 hg A1 A2 L1
      go_wp2_with fail
      by_cases e1 : ym = xm
      · have g1 : (ym == xm) = true := by simp [e1]
        have E1 := Hid.of e1
        clear e1
        cases e2 : sameB ys xs with
        | true =>
          have E2 : Hid (((ym, ys) : Pla) = (xm, xs)) := by
            have : ys = xs := by simpa [sameB] using e2
            show _ = _
            rw [E1.out, this]
          rw [e2] at KEY
          clear e2
          go_quiet (first | (go_at_call 19; exact Calls.quiet_of (KEY.out _)))
          have HUr : Hid (U.drewN nq = V.drewN (q + nq)) := by show _ = _; rw [HU.out, World.drewN_drewN]
          rw [HUr.out]
          clear d1 d2 b0 b1 KEY
          go_wp2_with fail
          go_ret
          exact ⟨ret_bool (memQ_hit HY E2), below_drewN B0.out _⟩
        | false =>
          have E2 : Hid (((ym, ys) : Pla) ≠ (xm, xs)) := fun e => by
            have : ys = xs := congrArg Prod.snd e
            rw [this] at e2
            simp [sameB] at e2
          rw [e2] at KEY
          clear e2
          go_quiet (first | (go_at_call 19; exact Calls.quiet_of (KEY.out _)))
          have HUr : Hid (U.drewN nq = V.drewN (q + nq)) := by show _ = _; rw [HU.out, World.drewN_drewN]
          rw [HUr.out]
          clear d1 d2 b0 b1 KEY
          go_wp2_with fail
          go_roundw
          case rel => exact ⟨k + 1, q + nq, by go_num, by omega, rfl, noneQ_succ he HY E2⟩
          case measure => simp [intOf]; omega
      · have g1 : (ym == xm) = false := by simp [e1]
        have E2 : Hid (((ym, ys) : Pla) ≠ (xm, xs)) := fun e => e1 (congrArg Prod.fst e)
        clear e1
        go_quiet (first | (go_at_call 19; exact Calls.quiet_of (KEY.out _)))
        have HUr : Hid (U.drewN nq = V.drewN (q + nq)) := by show _ = _; rw [HU.out, World.drewN_drewN]
        rw [HUr.out]
        clear d1 d2 b0 b1 KEY
        go_wp2_with fail
        go_roundw
        case rel => exact ⟨k + 1, q + nq, by go_num, by omega, rfl, noneQ_succ he HY E2⟩
        case measure => simp [intOf]; omega
    · have hkD : decide ((k : Int) < (l.length : Int)) = false := by simp; omega
      go_wp2_with fail
      go_ret
      exact ⟨ret_bool (noneQ_end he hlt), below_drewN B0.out _⟩

/-- As many, and all of the one in the other? -/
def sameQ (a b : List Pla) : Bool := decide (a.length = b.length) && a.all fun x => memQ b x
theorem sameQ_iff {a b : List Pla} (ha : a.Nodup) (hb : b.Nodup) : sameQ a b = true ↔ ∀ x, x ∈ a ↔ x ∈ b := by
  rw [← same_sets ha hb]
  unfold sameQ memQ
  rw [Bool.and_eq_true, decide_eq_true_eq, List.all_eq_true]
  simp only [decide_eq_true_eq]

set_option maxRecDepth 100000 in
set_option maxHeartbeats 4000000 in
theorem rqsame_any (n : Nat) (a b : Option Addr) (ca cb : Nat) (l l' : List Pla) (w : World) (h : Hid (AtQ n w a l)) (h' : Hid (AtQ n w b l')) (hl : l.length ≤ 9223372036854775807) (hl' : l'.length ≤ 9223372036854775807) (hn : n ≤ w.heap.size) :
    Calls Tryd.prog 99 #[.slice a l.length ca, .slice b l'.length cb] w fun e w' => e = .returned (.bool (sameQ l l')) ∧ Below w.heap.size w w' := by
  go_enter Tryd.func99, Tryd.ntmps99
  by_cases hne : l.length = l'.length
  · have g1 : ((l.length : Int) != (l'.length : Int)) = false := by simp [hne]
    have HE := Hid.of hne
    clear hne
    go_wp2_with fail
    go_loopw [5] (fun i wr => ∃ k : Nat, i = .int .i64 k ∧ k ≤ l.length ∧ Hid (Below w.heap.size w wr) ∧ Hid (∀ (j : Nat) (y : Pla), j < k → l[j]? = some y → memQ l' y = true)) (fun i _ => l.length - (intOf i).toNat)
    case atStart => exact ⟨0, rfl, Nat.zero_le _, Below.refl _ _, fun j p hj => by omega⟩
    case round =>
      obtain ⟨k, rfl, hk, B, HA⟩ := hrel
      by_cases hlt : k < l.length
      · obtain ⟨⟨ym, ys⟩, HY⟩ : ∃ y, Hid (l[k]? = some y) := ⟨_, List.getElem?_eq_getElem hlt⟩
        obtain ⟨g, o, sa, sc, hga, hg, c1, c2, a1, l1, -⟩ := (h.out.below B.out hn).get HY.out
        dsimp only at c1 c2 a1 l1
        subst hga
        have KEY := Hid.of (rqhas_any n b cb l' ym ys sa sc wr (Hid.of (h'.out.below B.out hn)) hl' (Hid.of a1) (Hid.of l1))
        clear a1 l1
        go_wp2_with fail
        refine KEY.out.mono ?_
        rintro e W1 ⟨rfl, hb⟩
        have B1 := Hid.of (B.out.trans (hb.mono B.out.size))
        clear KEY hb c1 c2 B
        cases hm : memQ l' (ym, ys) with
        | true =>
          have HA1 : Hid (∀ (j : Nat) (y : Pla), j < k + 1 → l[j]? = some y → memQ l' y = true) := fun j y hj hy => by
            by_cases e : j < k
            · exact HA.out j y e hy
            · have : j = k := by omega
              subst this
              rw [HY.out] at hy
              have := Option.some.inj hy
              subst this; exact hm
          clear hm
          go_wp2_with fail
          go_roundw
          case rel => exact ⟨k + 1, by go_num, by omega, B1, HA1⟩
          case measure => simp [intOf]; omega
        | false =>
          have HR : Hid (false = sameQ l l') := by
            show _ = _
            unfold sameQ
            symm
            rw [Bool.and_eq_false_iff]
            right
            rw [List.all_eq_false]
            exact ⟨_, List.mem_of_getElem? HY.out, by rw [hm]; simp⟩
          clear hm
          go_wp2_with fail
          go_ret
          exact ⟨ret_bool HR.out, B1.out⟩
      · have hkD : decide ((k : Int) < (l.length : Int)) = false := by simp; omega
        have HR : Hid (true = sameQ l l') := by
          show _ = _
          unfold sameQ
          symm
          rw [Bool.and_eq_true, decide_eq_true_eq, List.all_eq_true]
          refine ⟨HE.out, fun x hx => ?_⟩
          obtain ⟨j, hj⟩ := List.mem_iff_getElem?.1 hx
          exact HA.out j x (by have := (List.getElem?_eq_some_iff.1 hj).1; omega) hj
        go_wp2_with fail
        go_ret
        exact ⟨ret_bool HR.out, B.out⟩
  · have g1 : ((l.length : Int) != (l'.length : Int)) = true := by simp; omega
    have HR : Hid (false = sameQ l l') := by show _ = _; unfold sameQ; rw [decide_eq_false hne]; rfl
    clear hne
    go_wp2_with fail
    go_ret
    exact ⟨ret_bool HR.out, Below.refl _ _⟩

end Go.Proofs.YtmlkpdeidpcidaaDoor
namespace Go.Proofs.YtmlkpdeidpcidaaDoor
open Go.RowKit
set_option linter.unusedVariables false

def rowG (sel : Arr → Bool) (f : Arr → Pla) (ars : List Arr) (l : List Pla) (j : Nat) : List Pla := cRow l (((ars.take j).filter sel).map f)
theorem rowG_zero (sel : Arr → Bool) (f : Arr → Pla) (ars : List Arr) (l : List Pla) : rowG sel f ars l 0 = l := by simp [rowG, cRow]
theorem rowG_yes {sel : Arr → Bool} {f : Arr → Pla} {ars : List Arr} {l : List Pla} {j : Nat} {a : Arr} (h : ars[j]? = some a) (hs : sel a = true) : rowG sel f ars l (j + 1) = cAdd (rowG sel f ars l j) (f a) := by
  unfold rowG cRow
  rw [List.take_add_one, h, Option.toList_some, List.filter_append, List.map_append, List.foldl_append, List.filter_cons_of_pos hs]; rfl
theorem rowG_no {sel : Arr → Bool} {f : Arr → Pla} {ars : List Arr} {l : List Pla} {j : Nat} {a : Arr} (h : ars[j]? = some a) (hs : sel a = false) : rowG sel f ars l (j + 1) = rowG sel f ars l j := by
  unfold rowG cRow
  rw [List.take_add_one, h, Option.toList_some, List.filter_append, List.filter_cons_of_neg (by rw [hs]; simp)]; simp
theorem rowG_end (sel : Arr → Bool) (f : Arr → Pla) (ars : List Arr) (l : List Pla) : rowG sel f ars l ars.length = cRow l ((ars.filter sel).map f) := by unfold rowG; rw [List.take_length]
theorem rowG_nodup {sel : Arr → Bool} {f : Arr → Pla} {ars : List Arr} {l : List Pla} (h : l.Nodup) (j : Nat) : (rowG sel f ars l j).Nodup := nodup_cRow _ h
theorem rowG_in {sel : Arr → Bool} {f : Arr → Pla} {ars : List Arr} {l : List Pla} {U : List Pla} (h : ∀ x ∈ l, x ∈ U) (hf : ∀ a ∈ ars, f a ∈ U) (j : Nat) : ∀ x ∈ rowG sel f ars l j, x ∈ U := fun x hx => by
  rcases (mem_cRow _ _ _).1 hx with q | q
  · exact h x q
  · obtain ⟨a, ha, rfl⟩ := List.mem_map.1 q
    exact hf a (List.mem_of_mem_take (List.mem_filter.1 ha).1)
theorem rowG_at {sel : Arr → Bool} {f : Arr → Pla} {ars : List Arr} {l : List Pla} {k : Nat} {x : Pla} (h : l[k]? = some x) (j : Nat) : (rowG sel f ars l j)[k]? = some x := by
  obtain ⟨t, ht⟩ := cRow_pre (((ars.take j).filter sel).map f) l
  unfold rowG
  rw [ht, List.getElem?_append_left (List.getElem?_eq_some_iff.1 h).1]
  exact h
def selU (seen : List Int) (ym : Int) (a : Arr) : Bool := decide (a.f = ym) && !hasB seen a.e
def selE (e ym : Int) (a : Arr) : Bool := decide (a.f = ym) && decide (a.e = e)
theorem rowG_unQ (m s : Mach) (seen : List Int) (y : Pla) (l : List Pla) : rowG (selU seen y.1) (plTo s y) m.arrows l m.arrows.length = cRow l (unQ m s seen y) := rowG_end _ _ _ _
theorem rowG_evQ (m s : Mach) (e : Int) (y : Pla) (l : List Pla) : rowG (selE e y.1) (plTo s y) m.arrows l m.arrows.length = cRow l (evQ m s e y) := rowG_end _ _ _ _
theorem cAdd_yes {l : List Pla} {x : Pla} (h : memQ l x = true) : cAdd l x = l := by unfold cAdd; rw [if_pos (of_decide_eq_true h)]
theorem cAdd_no {l : List Pla} {x : Pla} (h : memQ l x = false) : cAdd l x = l ++ [x] := by unfold cAdd; rw [if_neg (of_decide_eq_false h)]

/-- What wide and step know: two boxed machines, and a row of the call's own. -/
structure WQ (w W : World) (B n : Nat) (m s : Mach) (lm ls : ML) (v : Value) (l : List Pla) : Prop where
  ow : OwnQ n W B v l
  bel : Below B w W
  km : Blk W w.heap.size 25 (mcells m lm)
  ks : Blk W (w.heap.size + 1) 25 (mcells s ls)
  hB : B ≤ W.heap.size
  hn : n ≤ B
section
variable {w W : World} {B n : Nat} {m s : Mach} {lm ls : ML} {v : Value} {l : List Pla}
theorem WQ.below {W' : World} (h : WQ w W B n m s lm ls v l) (hb : Below W.heap.size W W') : WQ w W' B n m s lm ls v l :=
  ⟨h.ow.below hb (Nat.le_trans h.hn h.hB), h.bel.trans (hb.mono h.hB), h.km.below hb h.km.lt, h.ks.below hb h.ks.lt, Nat.le_trans h.hB hb.size, h.hn⟩
/-- One more. -/
theorem WQ.push {W2 : World} {v' z : Value} {x : Pla} {vs : List Value} (h : WQ w W B n m s lm ls v l) (ho : W.ownsRow B 206 2 v l.length vs) (hi : ∀ (k : Nat) (x : Pla), l[k]? = some x → vs[k * 2]? = some (.int .i64 x.1) ∧ ∃ z, vs[k * 2 + 1]? = some z ∧ InnW n W z x.2) (hz : InnW n W z x.2) (o1 : W2.ownsRow B 206 2 v' (l.length + 1) (vs ++ [.int .i64 x.1, z])) (g : W.grownBy W2 v.ownBlock) : WQ w W2 B n m s lm ls v' (l ++ [x]) := by
  have hty : ∀ (q : Nat) (cs : Array Value), W.heap[q]? = some (.cells cs 25 (0, 0)) → W2.heap[q]? = W.heap[q]? := fun q cs hq => g.block q (Array.getElem?_eq_some_iff.1 hq).1 (fun e => by
    obtain ⟨c2, h2⟩ := own_type ho e.symm
    rw [hq] at h2; cases h2)
  exact ⟨OwnQ.push h.hn h.hB ho hi hz o1 g, h.bel.grown g h.hB (fun j hj => (World.ownsRow.lt ho j hj).1), (hty _ _ h.km).trans h.km, (hty _ _ h.ks).trans h.ks, Nat.le_trans h.hB g.size, h.hn⟩
end

end Go.Proofs.YtmlkpdeidpcidaaDoor
