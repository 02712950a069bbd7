/-
  The walk of hide.loud: of each seen event and each state, where it leads to.
  What is said on the way through hide.lay: what lies where, and what a range over a set leaves as it was.
  The walk of hide.lay: the arrows of all ways, state by state, event by event; it leaves off where they do not fit.
  Set.Row once more: the row is in memory of its own.
-/
import Derived.Test.YtdhgabpoaicjoaaDoorG24
import Derived.Deep.RegionHeld3
import Derived.Test.YtdhgabpoaicjoaaDoorG14
import Derived.Test.YtdhgabpoaicjoaaDoorG12
namespace Go.Proofs.YtdhgabpoaicjoaaDoor
open Go.RowKit
set_option linter.unusedVariables false

theorem Tryd.infoSlSet : (Tryd.prog.info? 80).map (fun i => (i.zero, i.size, i.bytes)) = some (some (.slice none 0 0), 1, 24) := by kernel_rfl

/-- The cells of a row of rows: the first k of them are there. -/
def rcell (g N k i : Nat) : Value := if i < k then .slice (some ⟨g + 1 + i, 0, none⟩) N N else .slice none 0 0
structure T2 (W : World) (g K N k : Nat) (U : Nat → Nat → Nat → Nat) : Prop where
  out : ∃ cs, Blk W g 80 cs ∧ cs.size = K ∧ ∀ i, i < K → cs[i]? = some (rcell g N k i)
  tb : ∀ i, i < k → TB W (g + 1 + i) N (U i)
theorem T2.lt {W : World} {g K N k : Nat} {U : Nat → Nat → Nat → Nat} (h : T2 W g K N k U) : g < W.heap.size := by obtain ⟨cs, h, -⟩ := h.out; exact h.lt
theorem T2.cell {W : World} {g K N k i : Nat} {U : Nat → Nat → Nat → Nat} (h : T2 W g K N k U) (hi : i < K) : W.cell? ⟨g, i, none⟩ = some (rcell g N k i) := by
  obtain ⟨cs, h1, -, h3⟩ := h.out; exact h1.cell i (h3 i hi)
theorem T2.row {W : World} {g K N i : Nat} {U : Nat → Nat → Nat → Nat} (h : T2 W g K N K U) (hi : i < K) : W.cell? ⟨g, i, none⟩ = some (.slice (some ⟨g + 1 + i, 0, none⟩) N N) := by
  rw [h.cell hi, rcell, if_pos hi]
theorem T2.frozen {W : World} {g K N k : Nat} {U : Nat → Nat → Nat → Nat} (h : T2 W g K N k U) (i : Nat) : W.frozen? ⟨g, i, none⟩ = false := by
  obtain ⟨cs, h1, -⟩ := h.out; exact h1.frozen i
theorem T2.below {W W' : World} {g K N k : Nat} {U : Nat → Nat → Nat → Nat} (h : T2 W g K N k U) (hb : Below W.heap.size W W') : T2 W' g K N k U := by
  obtain ⟨cs, h1, h2, h3⟩ := h.out
  exact ⟨⟨cs, h1.below hb h1.lt, h2, h3⟩, fun i hi => (h.tb i hi).below hb (h.tb i hi).lt⟩
theorem TB.other4' {W : World} {g N b' : Nat} {T : Nat → Nat → Nat} (h : TB W g N T) (j : Nat) (hne : g ≠ b') (v0 v1 v2 v3 : Value) : TB ((((W.setCell ⟨b', j, none⟩ v0).setCell ⟨b', j + 1, none⟩ v1).setCell ⟨b', j + 2, none⟩ v2).setCell ⟨b', j + 3, none⟩ v3) g N T := by
  obtain ⟨cs, h1, h2⟩ := h
  exact ⟨cs, Blk.other4' h1 j hne _ _ _ _, h2⟩
theorem TB.other {W : World} {g N b' : Nat} {T : Nat → Nat → Nat} (h : TB W g N T) (j : Nat) (hne : g ≠ b') (v : Value) : TB (W.setCell ⟨b', j, none⟩ v) g N T := by
  obtain ⟨cs, h1, h2⟩ := h
  exact ⟨cs, h1.other hne v, h2⟩
/-- One row more. -/
theorem T2.more {W : World} {g K N k : Nat} (h : T2 W g K N k fun _ _ => zeroS) (hk : k < K) (ht : TB W (g + 1 + k) N fun _ => zeroS) : T2 (W.setCell ⟨g, k, none⟩ (.slice (some ⟨g + 1 + k, 0, none⟩) N N)) g K N (k + 1) fun _ _ => zeroS := by
  obtain ⟨cs, h1, h2, h3⟩ := h.out
  refine ⟨⟨cs.setIfInBounds k _, h1.set k _, by simp [h2], fun i hi => ?_⟩, fun i hi => ?_⟩
  · rw [Array.getElem?_setIfInBounds]
    by_cases e : k = i
    · subst e; rw [if_pos rfl, if_pos (by omega)]; simp [rcell]
    · rw [if_neg e, h3 i hi]
      unfold rcell
      have : (i < k + 1) ↔ i < k := by omega
      simp [this]
  · by_cases e : i = k
    · subst e; exact ht.other _ (by omega) _
    · exact (h.tb i (by omega)).other _ (by omega) _
/-- A set is stored. -/
theorem T2.store {W : World} {g K N k p : Nat} {U : Nat → Nat → Nat → Nat} (h : T2 W g K N K U) (hk : k < K) (hp : p < N) (S : Nat → Nat) :
    T2 ((((W.setCell ⟨g + 1 + k, p * 4, none⟩ (.int .u64 (S 0))).setCell ⟨g + 1 + k, p * 4 + 1, none⟩ (.int .u64 (S 1))).setCell ⟨g + 1 + k, p * 4 + 2, none⟩ (.int .u64 (S 2))).setCell ⟨g + 1 + k, p * 4 + 3, none⟩ (.int .u64 (S 3))) g K N K (fun q => if q = k then (fun r => if r = p then S else U k r) else U q) := by
  obtain ⟨cs, h1, h2, h3⟩ := h.out
  refine ⟨⟨cs, Blk.other4' h1 (p * 4) (by omega) _ _ _ _, h2, h3⟩, fun i hi => ?_⟩
  by_cases e : i = k
  · subst e
    simp only [if_true]
    exact TB.store (h.tb i hi) hp S
  · simp only [if_neg e]
    exact TB.other4' (h.tb i hi) (p * 4) (by omega) _ _ _ _

/-- What loud knows of the memory. -/
structure LI (w W : World) (m : Mach) (l : ML) (K N k : Nat) (U : Nat → Nat → Nat → Nat) : Prop where
  blk : Blk W w.heap.size 25 (mcells m l)
  t2 : T2 W (w.heap.size + 1) K N k U
  bel : Below w.heap.size w W
theorem LI.below {w W W' : World} {m : Mach} {l : ML} {K N k : Nat} {U : Nat → Nat → Nat → Nat} (h : LI w W m l K N k U) (hb : Below W.heap.size W W') : LI w W' m l K N k U :=
  ⟨h.blk.below hb h.blk.lt, h.t2.below hb, h.bel.trans (hb.mono h.bel.size)⟩
theorem LI.drew {w W : World} {m : Mach} {l : ML} {K N k : Nat} {U : Nat → Nat → Nat → Nat} (h : LI w W m l K N k U) : LI w W.drew m l K N k U := h.below ((Below.refl _ _).drew)
theorem LI.alloc {w W : World} {m : Mach} {l : ML} {K N k : Nat} {U : Nat → Nat → Nat → Nat} (h : LI w W m l K N k U) (o : Obj) : LI w (W.alloc o) m l K N k U := h.below ((Below.refl _ _).alloc (Nat.le_refl _) o)
theorem LI.more {w W : World} {m : Mach} {l : ML} {K N k : Nat} (h : LI w W m l K N k fun _ _ => zeroS) (hk : k < K) (ht : TB W (w.heap.size + 1 + 1 + k) N fun _ => zeroS) : LI w (W.setCell ⟨w.heap.size + 1, k, none⟩ (.slice (some ⟨w.heap.size + 1 + 1 + k, 0, none⟩) N N)) m l K N (k + 1) fun _ _ => zeroS :=
  ⟨h.blk.other (by omega) _, h.t2.more hk ht, h.bel.setCell (p := ⟨w.heap.size + 1, k, none⟩) (Nat.le_succ _) _⟩
theorem LI.store {w W : World} {m : Mach} {l : ML} {K N k p : Nat} {U : Nat → Nat → Nat → Nat} (h : LI w W m l K N K U) (hk : k < K) (hp : p < N) (S : Nat → Nat) :
    LI w ((((W.setCell ⟨w.heap.size + 1 + 1 + k, p * 4, none⟩ (.int .u64 (S 0))).setCell ⟨w.heap.size + 1 + 1 + k, p * 4 + 1, none⟩ (.int .u64 (S 1))).setCell ⟨w.heap.size + 1 + 1 + k, p * 4 + 2, none⟩ (.int .u64 (S 2))).setCell ⟨w.heap.size + 1 + 1 + k, p * 4 + 3, none⟩ (.int .u64 (S 3))) m l K N K (fun q => if q = k then (fun r => if r = p then S else U k r) else U q) :=
  ⟨Blk.other4' h.blk (p * 4) (by omega) _ _ _ _, h.t2.store hk hp S, below_set4' h.bel (p * 4) (by omega) _ _ _ _⟩
theorem T2.made {W : World} {g K N : Nat} (h : Blk W g 80 (madeCells #[.slice none 0 0] K)) : T2 W g K N 0 fun _ _ => zeroS := by
  refine ⟨⟨_, h, size_madeCells _ _, fun i hi => ?_⟩, fun i hi => absurd hi (Nat.not_lt_zero i)⟩
  unfold madeCells rcell
  rw [Array.getElem?_map, Array.getElem?_range, if_pos hi]
  simp [Nat.mod_one]

set_option maxRecDepth 100000 in
set_option maxHeartbeats 4000000 in
theorem loud_any (st : Nat) (ev : Int) (starts : List Int) (ars : List Arr) (ends : List Int) (a1 : Option Addr) (c1 : Nat) (a2 : Option Addr) (c2 : Nat) (a3 : Option Addr) (c3 : Nat) (sa : Option Addr) (sc : Nat) (seen : List Int) (pg : Nat) (S : Nat → Nat → Nat) (w : World) (hst : st ≤ 256) (hlen : ars.length ≤ 4096) (hA : Hid (AtA w a2 ars)) (hin : Hid (∀ a ∈ ars, (0 ≤ a.f ∧ a.f < st) ∧ 0 ≤ a.t ∧ a.t < st)) (hs : Hid (At w sa seen)) (hsl : seen.length ≤ 8) (hsi : Hid (Inc seen)) (hS : Hid (TB w pg st S)) (hSok : Hid (∀ p, okS (S p))) :
    Calls Tryd.prog 68 #[mval ⟨st, ev, starts, ars, ends⟩ ⟨a1, c1, a2, c2, a3, c3⟩, .slice sa seen.length sc, .slice (some ⟨pg, 0, none⟩) st st] w fun e w' => e = .returned (.slice (some ⟨w.heap.size + 1, 0, none⟩) seen.length seen.length) ∧ T2 w' (w.heap.size + 1) seen.length st seen.length (lTab seen S ars) ∧ Below w.heap.size w w' := by
  obtain ⟨i0, hi, hz0, hz1, hz2⟩ := info_parts Tryd.infoSet
  have hmk : ∀ w : World, (Instr.makeSlice 80 (.int .i64 st) (.int .i64 st)).run Tryd.prog w = .ok (.slice (some ⟨w.heap.size, 0, none⟩) st st) (w.alloc (.cells (madeCells #[.int .u64 0, .int .u64 0, .int .u64 0, .int .u64 0] (st * 4)) 65)) := fun w => by
    have := run_make (P := Tryd.prog) w 80 65 i0 (sval zeroS) Tryd.underlying80 hi hz0 .i64 .i64 st st (by omega) (by omega) (by rw [hz2]; omega) (by omega)
    rw [hz1, Int.toNat_natCast] at this
    exact this
  clear hi hz0 hz1 hz2
  obtain ⟨i1, hi, hz0, hz1, hz2⟩ := info_parts Tryd.infoSlSet
  obtain ⟨K, HK⟩ : ∃ K, Hid (seen.length = K) := ⟨_, rfl⟩
  rw [HK.out] at hsl
  have hmk2 : ∀ w : World, (Instr.makeSlice 84 (.int .i64 K) (.int .i64 K)).run Tryd.prog w = .ok (.slice (some ⟨w.heap.size, 0, none⟩) K K) (w.alloc (.cells (madeCells #[.slice none 0 0] K) 80)) := fun w => by
    have := run_make (P := Tryd.prog) w 84 80 i1 (.slice none 0 0) Tryd.underlying84 hi hz0 .i64 .i64 K K (by omega) (by omega) (by rw [hz2]; omega) (by omega)
    rw [hz1, Int.toNat_natCast, Nat.mul_one] at this
    exact this
  clear hi hz0 hz1 hz2
  have L0 : Hid (LI w ((w.alloc (.cells (mcells ⟨st, ev, starts, ars, ends⟩ ⟨a1, c1, a2, c2, a3, c3⟩) 25)).alloc (.cells (madeCells #[.slice none 0 0] K) 80)) ⟨st, ev, starts, ars, ends⟩ ⟨a1, c1, a2, c2, a3, c3⟩ K st 0 fun _ _ => zeroS) := by
    refine ⟨(Blk.new w _ _).alloc _, T2.made ?_, ((Below.refl _ _).alloc (Nat.le_refl _) _).alloc (by simp) _⟩
    have := Blk.new (w.alloc (.cells (mcells ⟨st, ev, starts, ars, ends⟩ ⟨a1, c1, a2, c2, a3, c3⟩) 25)) 80 (madeCells #[.slice none 0 0] K)
    rwa [World.size_alloc] at this
  have Z0 : ((w.alloc (.cells (mcells ⟨st, ev, starts, ars, ends⟩ ⟨a1, c1, a2, c2, a3, c3⟩) 25)).alloc (.cells (madeCells #[.slice none 0 0] K) 80)).heap.size = w.heap.size + 2 := by simp
  rw [HK.out]
  go_enter Tryd.func68, Tryd.ntmps68
  go_wp2
  revert L0 Z0
  generalize (w.alloc (.cells (mcells ⟨st, ev, starts, ars, ends⟩ ⟨a1, c1, a2, c2, a3, c3⟩) 25)).alloc (.cells (madeCells #[.slice none 0 0] K) 80) = W0
  intro L0 Z0
  go_loopw [18] (fun i wr => ∃ k : Nat, k ≤ K ∧ i = .int .i64 k ∧ Hid (LI w wr ⟨st, ev, starts, ars, ends⟩ ⟨a1, c1, a2, c2, a3, c3⟩ K st k fun _ _ => zeroS) ∧ wr.heap.size = w.heap.size + 2 + k) (fun i _ => K - (intOf i).toNat)
  case atStart => exact ⟨0, by omega, rfl, L0, by omega⟩
  case round =>
    clear L0 Z0
    obtain ⟨k, hk, rfl, LL, hz⟩ := hrel
    by_cases hlt : k < K
    · have x0 : wr.cell? ⟨w.heap.size, 0, none⟩ = some (.int .i64 st) := LL.out.blk.cell 0 rfl
      have hk0 : (0 : Int) ≤ (k : Int) := by omega
      have hkI : (k : Int) < (K : Int) := by omega
      have L1 := LL.out.alloc (.cells (madeCells #[.int .u64 0, .int .u64 0, .int .u64 0, .int .u64 0] (st * 4)) 65)
      have t1 : TB (wr.alloc (.cells (madeCells #[.int .u64 0, .int .u64 0, .int .u64 0, .int .u64 0] (st * 4)) 65)) (w.heap.size + 1 + 1 + k) st fun _ => zeroS := by
        refine TB.made ?_
        have := Blk.new wr 65 (madeCells #[.int .u64 0, .int .u64 0, .int .u64 0, .int .u64 0] (st * 4))
        rwa [hz] at this
      have y0 := L1.t2.cell hlt
      have fz := L1.t2.frozen
      have L2 := Hid.of (L1.more hlt t1)
      have z2 : ((wr.alloc (.cells (madeCells #[.int .u64 0, .int .u64 0, .int .u64 0, .int .u64 0] (st * 4)) 65)).setCell ⟨w.heap.size + 1, k, none⟩ (.slice (some ⟨w.heap.size + 1 + 1 + k, 0, none⟩) st st)).heap.size = w.heap.size + 2 + (k + 1) := by
        simp [World.setCell]; omega
      clear t1 L1 LL
      go_wp2
      have e2 : w.heap.size + 1 + 1 + k = w.heap.size + 2 + k := by omega
      rw [e2] at L2 z2
      clear e2
      go_wp2
      exact ⟨⟨k + 1, by omega, by go_num, L2, z2⟩, by simp [intOf]; omega⟩
    · have hk2 : K = k := by omega
      subst hk2
      obtain ⟨x0, x1, x2, x3, x4⟩ := (⟨LL.out.blk.cell 0 rfl, LL.out.blk.cell 1 rfl, LL.out.blk.cell 2 rfl, LL.out.blk.cell 3 rfl, LL.out.blk.cell 4 rfl⟩ : _ ∧ _ ∧ _ ∧ _ ∧ _)
      have L3 : Hid (LI w wr ⟨st, ev, starts, ars, ends⟩ ⟨a1, c1, a2, c2, a3, c3⟩ K st K (lTab seen S (ars.take 0))) := LL
      clear LL hz hmk hmk2
      go_wp2
      go_loopw [31] (fun i wr => ∃ j : Nat, j ≤ ars.length ∧ i = .int .i64 j ∧ Hid (LI w wr ⟨st, ev, starts, ars, ends⟩ ⟨a1, c1, a2, c2, a3, c3⟩ K st K (lTab seen S (ars.take j)))) (fun i _ => ars.length - (intOf i).toNat)
      case atStart => exact ⟨0, by omega, rfl, L3⟩
      case round =>
        clear L3
        try clear x0 x1 x2 x3 x4
        obtain ⟨j, hj, rfl, LL⟩ := hrel
        by_cases hlt : j < ars.length
        · rcases hA.out with h0 | ⟨b, off, rfl, hb, hca⟩
          · rw [h0] at hlt; simp at hlt
          obtain ⟨a, HA, y1, y2, y3⟩ := hca.at hlt
          have hia : (0 ≤ a.f ∧ a.f < st) ∧ 0 ≤ a.t ∧ a.t < st := by
            have h := HA.out
            rw [List.getElem?_eq_getElem hlt, Option.getD_some] at h
            rw [h]; exact hin.out _ (List.getElem_mem hlt)
          obtain ⟨f, ef⟩ : ∃ f : Nat, a.f = (f : Int) := ⟨a.f.toNat, by omega⟩
          obtain ⟨e, ee⟩ : ∃ e : Int, a.e = e := ⟨_, rfl⟩
          obtain ⟨t, et⟩ : ∃ t : Nat, a.t = (t : Int) := ⟨a.t.toNat, by omega⟩
          rw [ef] at y1
          rw [ee] at y2
          rw [et] at y3
          have hf : f < st := by omega
          have ht : t < st := by omega
          have HN1 : Hid (hasB seen e = false → lTab seen S (ars.take (j + 1)) = lTab seen S (ars.take j)) := fun h => by
            rw [lTab_take hlt HA]; unfold lStep; rw [ee, if_neg (by rw [h]; simp)]
          have HN2 : Hid (∀ k : Nat, hasB seen e = true → placeI seen e = (k : Int) → lTab seen S (ars.take (j + 1)) = fun q => if q = k then (fun r => if r = f then joinS (lTab seen S (ars.take j) k f) (S t) else lTab seen S (ars.take j) k r) else lTab seen S (ars.take j) q) := fun k h hp => by
            rw [lTab_take hlt HA]; unfold lStep; rw [ee, if_pos h, hp, ef, et]
            simp only [Int.toNat_natCast]
            funext q
            by_cases e : q = k
            · subst e
              simp only [if_true]
              funext r
              by_cases e : r = f
              · subst e; simp only [if_true]
              · rw [if_neg e, if_neg e]
            · rw [if_neg e, if_neg e]
          have hp0 : (0 : Int) ≤ (f : Int) := by omega
          have hpI : (f : Int) < (st : Int) := by omega
          have ht0 : (0 : Int) ≤ (t : Int) := by omega
          have htI : (t : Int) < (st : Int) := by omega
          clear hia ef ee et HA
          have z1 := (LL.out.bel.cell (p := ⟨b, off + j * 3, none⟩) hb).trans y1
          have z2 := (LL.out.bel.cell (p := ⟨b, off + j * 3 + 1, none⟩) hb).trans y2
          have z3 := (LL.out.bel.cell (p := ⟨b, off + j * 3 + 2, none⟩) hb).trans y3
          have LV := Hid.of (LL.out.alloc (.cells #[.int .i64 f, .int .i64 e, .int .i64 t] 61))
          have HAV := Hid.of (Blk.new wr 61 #[.int .i64 f, .int .i64 e, .int .i64 t])
          have HSZ : Hid ((wr.alloc (.cells #[.int .i64 f, .int .i64 e, .int .i64 t] 61)).heap.size = wr.heap.size + 1) := World.size_alloc _ _
          have l1 := LL.out.t2.lt
          have l2 : ∀ k, k < K → w.heap.size + 1 + 1 + k < wr.heap.size := fun k hk => (LL.out.t2.tb k hk).lt
          have l0 := hS.out.lt
          have l3 := LL.out.bel.size
          clear y1 y2 y3 hca LL
          go_wp2_with fail
          revert LV HAV HSZ
          generalize wr.alloc (.cells #[.int .i64 f, .int .i64 e, .int .i64 t] 61) = V
          intro LV HAV HSZ
          have hbs := bs_any sa sc seen e V (hs.out.below LV.out.bel (Nat.le_refl _)) (by rw [HK.out]; omega) hsi.out
          rw [HK.out] at hbs
          refine hbs.mono ?_
          clear hbs
          rintro e' V ⟨k, rfl, hpl, rfl⟩
          clear z1 z2 z3
          have HPL := Hid.of hpl
          have HLK : Hid (hasB seen e = true → k < K) := fun h => by
            have h1 := HPL.out h
            have h2 := placeI_lt ((hasB_iff _ _).1 h)
            rw [HK.out] at h2
            omega
          clear hpl
          cases hh : hasB seen e with
          | false =>
            have HN := Hid.of (HN1.out hh)
            clear HN1 HN2 HAV HSZ hh HPL HLK
            go_wp2
            go_roundw
            case rel =>
              refine ⟨j + 1, by omega, by go_num, ?_⟩
              rw [HN.out]; exact LV
            case measure => simp [intOf]; omega
          | true =>
            have HN := Hid.of (HN2.out k hh (HPL.out hh))
            have hkK : k < K := HLK.out hh
            clear HN1 HN2 hh HPL HLK
            have hk0 : (0 : Int) ≤ (k : Int) := by omega
            have hkI : (k : Int) < (K : Int) := by omega
            obtain ⟨t0, t1, t2, t3⟩ := (LV.out.t2.tb k hkK).cells hf
            obtain ⟨s0, s1, s2, s3⟩ := (hS.out.below LV.out.bel hS.out.lt).cells ht
            have r0 := LV.out.t2.row hkK
            have d1 : V.cell? ⟨wr.heap.size, 0, none⟩ = some (.int .i64 f) := HAV.out.cell 0 rfl
            have d2 : V.cell? ⟨wr.heap.size, 2, none⟩ = some (.int .i64 t) := HAV.out.cell 2 rfl
            have hsz := HSZ.out
            have l2k := l2 k hkK
            clear l2
            obtain ⟨R, HR⟩ : ∃ R, Hid (R = lTab seen S (ars.take j) k f) := ⟨_, rfl⟩
            have hok : Hid (okS R) := by show okS R; rw [HR.out]; exact okS_lTab hSok.out _ _ _
            have hok2 : Hid (okS (S t)) := hSok.out t
            rw [← HR.out] at t0 t1 t2 t3
            have LVd := Hid.of LV.out.drew
            have HAd : Hid (Blk V.drew wr.heap.size 61 #[.int .i64 f, .int .i64 e, .int .i64 t]) := HAV.out
            clear LV
            have hpg : ¬ pg = w.heap.size + 1 + 1 + k := by omega
            have hwr : ¬ wr.heap.size = w.heap.size + 1 + 1 + k := by omega
            have hgk : ¬ w.heap.size + 1 = w.heap.size + 1 + 1 + k := by omega
            go_wp2
            refine wp_region_held_drew (S := fun w' => w'.cell? ⟨w.heap.size + 1, k, none⟩ = some (.slice (some ⟨w.heap.size + 1 + 1 + k, 0, none⟩) st st) ∧ w'.cell? ⟨wr.heap.size, 0, none⟩ = some (.int .i64 f) ∧ w'.cell? ⟨wr.heap.size, 2, none⟩ = some (.int .i64 t) ∧ w'.cell? ⟨pg, t * 4, none⟩ = some (.int .u64 (S t 0)) ∧ w'.cell? ⟨pg, t * 4 + 1, none⟩ = some (.int .u64 (S t 1)) ∧ w'.cell? ⟨pg, t * 4 + 2, none⟩ = some (.int .u64 (S t 2)) ∧ w'.cell? ⟨pg, t * 4 + 3, none⟩ = some (.int .u64 (S t 3))) (by kernel_rfl) ⟨r0, d1, d2, s0, s1, s2, s3⟩ (fun hSd => ?_)
            refine wpAnyH_take (i := 0) (v := .slice (some ⟨w.heap.size + 1, 0, none⟩) K K) rfl (by kernel_rfl) (by kernel_rfl) (by kernel_rfl) (fun _ _ _ h => h) (Or.inl ⟨by kernel_rfl, fun w' hw' => by obtain ⟨q0, q1, q2, q3, q4, q5, q6⟩ := hw'; go_simp⟩) hSd ?_
            refine wpAnyH_take (i := 1) (v := .int .i64 k) rfl (by kernel_rfl) (by kernel_rfl) (by kernel_rfl) (fun _ _ _ h => h) (Or.inl ⟨by kernel_rfl, fun w' hw' => by obtain ⟨q0, q1, q2, q3, q4, q5, q6⟩ := hw'; go_simp⟩) hSd ?_
            refine wpAnyH_take (i := 2) (v := .pointer (some ⟨w.heap.size + 1, k, none⟩)) rfl (by kernel_rfl) (by kernel_rfl) (by kernel_rfl) (fun _ _ _ h => h) (Or.inl ⟨by kernel_rfl, fun w' hw' => by obtain ⟨q0, q1, q2, q3, q4, q5, q6⟩ := hw'; go_simp⟩) hSd ?_
            refine wpAnyH_take (i := 3) (v := .slice (some ⟨w.heap.size + 1 + 1 + k, 0, none⟩) st st) rfl (by kernel_rfl) (by kernel_rfl) (by kernel_rfl) (fun _ _ _ h => h) (Or.inl ⟨by kernel_rfl, fun w' hw' => by obtain ⟨q0, q1, q2, q3, q4, q5, q6⟩ := hw'; go_simp⟩) hSd ?_
            refine wpAnyH_take (i := 4) (v := .pointer (some ⟨wr.heap.size, 0, none⟩)) rfl (by kernel_rfl) (by kernel_rfl) (by kernel_rfl) (fun _ _ _ h => h) (Or.inl ⟨by kernel_rfl, fun w' hw' => by obtain ⟨q0, q1, q2, q3, q4, q5, q6⟩ := hw'; go_simp⟩) hSd ?_
            refine wpAnyH_take (i := 5) (v := .int .i64 f) rfl (by kernel_rfl) (by kernel_rfl) (by kernel_rfl) (fun _ _ _ h => h) (Or.inl ⟨by kernel_rfl, fun w' hw' => by obtain ⟨q0, q1, q2, q3, q4, q5, q6⟩ := hw'; go_simp⟩) hSd ?_
            refine wpAnyH_take (i := 6) (v := .slice (some ⟨w.heap.size + 1, 0, none⟩) K K) rfl (by kernel_rfl) (by kernel_rfl) (by kernel_rfl) (fun _ _ _ h => h) (Or.inl ⟨by kernel_rfl, fun w' hw' => by obtain ⟨q0, q1, q2, q3, q4, q5, q6⟩ := hw'; go_simp⟩) hSd ?_
            refine wpAnyH_take (i := 7) (v := .int .i64 k) rfl (by kernel_rfl) (by kernel_rfl) (by kernel_rfl) (fun _ _ _ h => h) (Or.inl ⟨by kernel_rfl, fun w' hw' => by obtain ⟨q0, q1, q2, q3, q4, q5, q6⟩ := hw'; go_simp⟩) hSd ?_
            refine wpAnyH_take (i := 8) (v := .pointer (some ⟨w.heap.size + 1, k, none⟩)) rfl (by kernel_rfl) (by kernel_rfl) (by kernel_rfl) (fun _ _ _ h => h) (Or.inl ⟨by kernel_rfl, fun w' hw' => by obtain ⟨q0, q1, q2, q3, q4, q5, q6⟩ := hw'; go_simp⟩) hSd ?_
            refine wpAnyH_take (i := 9) (v := .slice (some ⟨w.heap.size + 1 + 1 + k, 0, none⟩) st st) rfl (by kernel_rfl) (by kernel_rfl) (by kernel_rfl) (fun _ _ _ h => h) (Or.inl ⟨by kernel_rfl, fun w' hw' => by obtain ⟨q0, q1, q2, q3, q4, q5, q6⟩ := hw'; go_simp⟩) hSd ?_
            refine wpAnyH_take (i := 10) (v := .pointer (some ⟨wr.heap.size, 0, none⟩)) rfl (by kernel_rfl) (by kernel_rfl) (by kernel_rfl) (fun _ _ _ h => h) (Or.inl ⟨by kernel_rfl, fun w' hw' => by obtain ⟨q0, q1, q2, q3, q4, q5, q6⟩ := hw'; go_simp⟩) hSd ?_
            refine wpAnyH_take (i := 11) (v := .int .i64 f) rfl (by kernel_rfl) (by kernel_rfl) (by kernel_rfl) (fun _ _ _ h => h) (Or.inl ⟨by kernel_rfl, fun w' hw' => by obtain ⟨q0, q1, q2, q3, q4, q5, q6⟩ := hw'; go_simp⟩) hSd ?_
            refine wpAnyH_take (i := 12) (v := .pointer (some ⟨w.heap.size + 1 + 1 + k, f * 4, none⟩)) rfl (by kernel_rfl) (by kernel_rfl) (by kernel_rfl) (fun _ _ _ h => h) (Or.inl ⟨by kernel_rfl, fun w' hw' => by obtain ⟨q0, q1, q2, q3, q4, q5, q6⟩ := hw'; go_simp⟩) hSd ?_
            refine wpAnyH_take (i := 14) (v := .slice (some ⟨pg, 0, none⟩) st st) rfl (by kernel_rfl) (by kernel_rfl) (by kernel_rfl) (fun _ _ _ h => h) (Or.inl ⟨by kernel_rfl, fun w' hw' => by obtain ⟨q0, q1, q2, q3, q4, q5, q6⟩ := hw'; go_simp⟩) hSd ?_
            refine wpAnyH_take (i := 15) (v := .pointer (some ⟨wr.heap.size, 2, none⟩)) rfl (by kernel_rfl) (by kernel_rfl) (by kernel_rfl) (fun _ _ _ h => h) (Or.inl ⟨by kernel_rfl, fun w' hw' => by obtain ⟨q0, q1, q2, q3, q4, q5, q6⟩ := hw'; go_simp⟩) hSd ?_
            refine wpAnyH_take (i := 16) (v := .int .i64 t) rfl (by kernel_rfl) (by kernel_rfl) (by kernel_rfl) (fun _ _ _ h => h) (Or.inl ⟨by kernel_rfl, fun w' hw' => by obtain ⟨q0, q1, q2, q3, q4, q5, q6⟩ := hw'; go_simp⟩) hSd ?_
            refine wpAnyH_take (i := 17) (v := .pointer (some ⟨pg, t * 4, none⟩)) rfl (by kernel_rfl) (by kernel_rfl) (by kernel_rfl) (fun _ _ _ h => h) (Or.inl ⟨by kernel_rfl, fun w' hw' => by obtain ⟨q0, q1, q2, q3, q4, q5, q6⟩ := hw'; go_simp⟩) hSd ?_
            refine wpAnyH_take (i := 18) (v := sval (S t)) rfl (by kernel_rfl) (by kernel_rfl) (by kernel_rfl) (fun _ _ _ h => h) (Or.inl ⟨by kernel_rfl, fun w' hw' => by obtain ⟨q0, q1, q2, q3, q4, q5, q6⟩ := hw'; go_simp⟩) hSd ?_
            simp only [Act.put, List.setIfInBounds_toArray]
            refine wpAnyH_ready (rs := [13]) (by kernel_rfl) (by simp) ?_
            refine AllReadyH.cons rfl (fun K' hK' => ?_) AllReadyH.nil
            go_simp
            refine hK'.out _ _ hSd (fun _ => ?_)
            clear hK' K'
            refine wpAnyH_ready (rs := [19]) (by kernel_rfl) (by simp) ?_
            refine AllReadyH.cons rfl (fun K' hK' => ?_) AllReadyH.nil
            go_simp
            refine (join_any R (S t) _ hok.out hok2.out).mono ?_
            rintro e' w1 ⟨rfl, hb1⟩
            have L9 := LVd.out.below hb1
            have A9 := HAd.out.below hb1 (show _ < V.heap.size by omega)
            have T9 := hS.out.below L9.bel hS.out.lt
            obtain ⟨v0, v1, v2, v3⟩ := (L9.t2.tb k hkK).cells hf
            rw [← HR.out] at v0 v1 v2 v3
            have fz := (L9.t2.tb k hkK).frozen
            have L10 := L9.store hkK hf (joinS R (S t))
            have A10 := Blk.other4' A9 (f * 4) hwr (.int .u64 (joinS R (S t) 0)) (.int .u64 (joinS R (S t) 1)) (.int .u64 (joinS R (S t) 2)) (.int .u64 (joinS R (S t) 3))
            have T10 := T9.other4' (f * 4) hpg (.int .u64 (joinS R (S t) 0)) (.int .u64 (joinS R (S t) 1)) (.int .u64 (joinS R (S t) 2)) (.int .u64 (joinS R (S t) 3))
            refine hK'.out _ _ ⟨L9.t2.row hkK, A9.cell 0 rfl, A9.cell 2 rfl, T9.cells ht⟩ (fun hS1 => ?_)
            clear hK' K'
            refine wpAnyH_take (i := 20) (v := .pointer (some ⟨w.heap.size + 1 + 1 + k, f * 4, none⟩)) rfl (by kernel_rfl) (by kernel_rfl) (by kernel_rfl) (fun _ _ _ h => h) (Or.inl ⟨by kernel_rfl, fun w' hw' => by obtain ⟨q0, q1, q2, q3, q4, q5, q6⟩ := hw'; go_simp⟩) hS1 ?_
            refine wpAnyH_ready (rs := [21]) (by kernel_rfl) (by simp) ?_
            refine AllReadyH.cons rfl (fun K' hK' => ?_) AllReadyH.nil
            clear t0 t1 t2 t3 s0 s1 s2 s3 r0 d1 d2 L9 A9 T9 hb1 hSd
            go_simp
            refine hK'.out _ _ ⟨L10.t2.row hkK, A10.cell 0 rfl, A10.cell 2 rfl, T10.cells ht⟩ (fun _ => ?_)
            clear hK' K' A10 T10 v0 v1 v2 v3 fz hS1
            refine wpAnyH_done (by kernel_rfl) ?_ _
            have L11 := Hid.of L10
            clear L10 LVd HAd HAV
            revert L11
            generalize ((((w1.setCell ⟨w.heap.size + 1 + 1 + k, f * 4, none⟩ (.int .u64 (joinS R (S t) 0))).setCell ⟨w.heap.size + 1 + 1 + k, f * 4 + 1, none⟩ (.int .u64 (joinS R (S t) 1))).setCell ⟨w.heap.size + 1 + 1 + k, f * 4 + 2, none⟩ (.int .u64 (joinS R (S t) 2))).setCell ⟨w.heap.size + 1 + 1 + k, f * 4 + 3, none⟩ (.int .u64 (joinS R (S t) 3))) = X
            intro L11
            go_wp2
            go_roundw
            case rel =>
              refine ⟨j + 1, by omega, by go_num, ?_⟩
              rw [HN.out, ← HR.out]; exact L11
            case measure => simp [intOf]; omega
        · have hj2 : ars.length = j := by omega
          subst hj2
          rw [List.take_of_length_le (Nat.le_refl _)] at LL
          go_wp2
          go_ret
          exact ⟨rfl, LL.out.t2, LL.out.bel⟩

end Go.Proofs.YtdhgabpoaicjoaaDoor
namespace Go.Proofs.YtdhgabpoaicjoaaDoor
open Go.RowKit Go.Shelf
set_option linter.unusedVariables false

/-- But for the box and what it held, nothing has turned. -/
def KB (W0 W : World) (bA : Nat) (v0 : Value) : Prop := (∀ j, j < W0.heap.size → j ≠ bA → some j ≠ v0.ownBlock → W.heap[j]? = W0.heap[j]?) ∧ W0.heap.size ≤ W.heap.size
theorem KB.refl (W : World) (bA : Nat) (v0 : Value) : KB W W bA v0 := ⟨fun _ _ _ _ => rfl, Nat.le_refl _⟩
theorem kb_own {β : Type} {W0 : World} {bA : Nat} {v0 : Value} : OwnFrom W0.heap.size (fun (_ : β) W => KB W0 W bA v0) := fun s W W' row h hg hr =>
  ⟨fun j hj h1 h2 => (hg.block j (Nat.lt_of_lt_of_le hj h.2) (fun e => by have := (hr j e.symm).1; omega)).trans (h.1 j hj h1 h2), Nat.le_trans h.2 hg.size⟩
/-- What the box holds now: what it held, or a new block. -/
def NewB (W0 : World) (v0 v : Value) : Prop := v.ownBlock = v0.ownBlock ∨ ∀ j, v.ownBlock = some j → W0.heap.size ≤ j
theorem KB.step {W0 W w1 : World} {bA : Nat} {v0 v v' : Value} {tmp : Obj} (h : KB W0 W bA v0) (hn : NewB W0 v0 v) (hg : (W.alloc tmp).grownBy w1 v.ownBlock) : KB W0 (w1.setCell ⟨bA, 0, none⟩ v') bA v0 := by
  have hz : W.heap.size + 1 ≤ w1.heap.size := by have := hg.size; simpa using this
  refine ⟨fun j hj h1 h2 => ?_, ?_⟩
  · have hjW := Nat.lt_of_lt_of_le hj h.2
    rw [Below.heap_setCell w1 ⟨bA, 0, none⟩ v' j h1]
    rw [hg.block j (by rw [World.size_alloc]; omega) (fun e => ?_), Below.heap_alloc W tmp j hjW]
    · exact h.1 j hj h1 h2
    · rcases hn with hn | hn
      · exact h2 (by rw [← hn]; exact e)
      · have := hn j e.symm; omega
  · have := h.2
    simp [World.setCell]; omega
theorem addr_add0 (b j : Nat) : (⟨b, 0, none⟩ : Addr).add j = ⟨b, j, none⟩ := by unfold Addr.add; split <;> simp_all
theorem cell3_new (W : World) (t : TypeId) (a b c : Value) : ∀ j u, [a, b, c][j]? = some u → (W.alloc (.cells #[a, b, c] t)).cell? ((⟨W.heap.size, 0, none⟩ : Addr).add j) = some u := by
  intro j u h
  have hb := Blk.new W t #[a, b, c]
  rw [show (⟨W.heap.size, 0, none⟩ : Addr).add j = ⟨W.heap.size, j, none⟩ from addr_add0 _ _]
  refine hb.cell j ?_
  simpa using h

/-- The arrows of a state at an event, as they come. -/
def prA {N : Nat} (f k : Nat) (pre : List (NB N)) : List Arr := pre.map fun x => ⟨(f : Int), (k : Int), (x.1 : Int)⟩
theorem prA_snoc {N : Nat} (f k : Nat) (pre : List (NB N)) (x : NB N) : prA f k (pre ++ [x]) = prA f k pre ++ [⟨(f : Int), (k : Int), (x.1 : Int)⟩] := by simp [prA]
theorem prA_len {N : Nat} (f k : Nat) (pre : List (NB N)) : (prA f k pre).length = pre.length := by simp [prA]
theorem aflat_snoc (L : List Arr) (a : Arr) : aflat (L ++ [a]) = aflat L ++ [.int .i64 a.f, .int .i64 a.e, .int .i64 a.t] := by rw [aflat_append]; rfl

/-- What lay knows of the memory: the arrows' box, what it holds, the marks. -/
structure YI (w W : World) (Ds : List Nat) (A : List Arr) : Prop where
  box : ∃ v, Boxed W w.heap.size 23 v ∧ OwnA W w.heap.size v A
  bel : Below w.heap.size w W
  mks : Marks w.heap.size Ds W
theorem YI.below {w W W' : World} {Ds : List Nat} {A : List Arr} (h : YI w W Ds A) (hb : Below W.heap.size W W') : YI w W' Ds A := by
  obtain ⟨v, h1, h2⟩ := h.box
  exact ⟨⟨v, Blk.below h1 hb h1.lt, h2.kept hb (Nat.le_refl _)⟩, h.bel.trans (hb.mono h.bel.size), h.mks.below hb h.mks.lt⟩
theorem YI.alloc {w W : World} {Ds : List Nat} {A : List Arr} (h : YI w W Ds A) (o : Obj) : YI w (W.alloc o) Ds A := h.below ((Below.refl _ _).alloc (Nat.le_refl _) o)
theorem YI.start (w : World) : YI w (w.alloc (.cells #[.slice none 0 0] 23)) [] [] :=
  ⟨⟨_, Boxed.new w 23 (.slice none 0 0), ownA_nil _ _⟩, (Below.refl _ _).alloc (Nat.le_refl _) _, ⟨fun D hD => by simp at hD, List.nodup_nil⟩⟩
/-- A block of cells of another kind lies as it lay. -/
theorem KB.blk {W0 W : World} {bA b : Nat} {v0 : Value} {t : TypeId} {cs : Array Value} {B n : Nat} {xs : List Value} (h : KB W0 W bA v0) (hb : Blk W0 b t cs) (hne : b ≠ bA) (ho : W0.ownsRow B 61 3 v0 n xs) (ht : t ≠ 61) : Blk W b t cs := by
  refine (h.1 b hb.lt hne (fun e => ?_)).trans hb
  rcases ho.2 with ⟨rfl, _⟩ | ⟨g, cap, cur, rfl, _, hgb, _⟩
  · simp [Value.ownBlock] at e
  · have e : b = g := by simpa [Value.ownBlock] using e
    rw [e] at hb
    rw [show W0.heap[g]? = _ from hb] at hgb
    simp only [Option.some.injEq, Obj.cells.injEq] at hgb
    exact ht hgb.2.1
theorem KB.marks {W0 W : World} {bA : Nat} {v0 : Value} {B B' n : Nat} {xs : List Value} {Ds : List Nat} (h : KB W0 W bA v0) (hm : Marks B Ds W0) (hbx : ∃ v, Boxed W0 bA 23 v) (ho : W0.ownsRow B' 61 3 v0 n xs) : Marks B Ds W := by
  refine ⟨fun D hD => ⟨(hm.at' D hD).1, (h.1 D (hm.lt D hD) (fun e => ?_) (fun e => ?_)).trans (hm.at' D hD).2⟩, hm.nd⟩
  · obtain ⟨v, hv⟩ := hbx
    have h1 := (hm.at' D hD).2
    rw [e, show W0.heap[bA]? = _ from hv] at h1
    cases h1
  · have h1 := (hm.at' D hD).2
    rcases ho.2 with ⟨rfl, _⟩ | ⟨g, cap, cur, rfl, _, hgb, _⟩
    · simp [Value.ownBlock] at e
    · have e : D = g := by simpa [Value.ownBlock] using e
      rw [e, hgb] at h1
      cases h1

theorem NewB.step {W0 W : World} {v0 v v' : Value} {tmp : Obj} (h : NewB W0 v0 v) (hz : W0.heap.size ≤ W.heap.size) (hb : v'.ownBlock = v.ownBlock ∨ v'.ownBlock = some (W.alloc tmp).heap.size) : NewB W0 v0 v' := by
  rcases hb with hb | hb
  · rcases h with h | h
    · exact .inl (hb.trans h)
    · exact .inr (fun j hj => h j (hb ▸ hj))
  · refine .inr (fun j hj => ?_)
    rw [hb, World.size_alloc] at hj
    have := Option.some.inj hj
    omega
/-- append onto a row of the call's own, inside a range over a function: the row stays in its block, or it is in a new one. -/
theorem wpListIn_append_block {F : Fence} {n : Nat} {P : Program} (w : World) {ops : Array Oper} {rest : List Oper} {o : Oper} {a : Act} {Q : Exit → Act → World → Prop}
    (hg : o.guard = none) (s x : Operand) (t : TypeId) (hop : o.op = Op.call { callee := Callee.builtin Builtin.append, args := #[s, x], argTypes := #[t, t] })
    (base : Nat) (e : TypeId) (i : TypeInfo) (z : Value) (size bytes : Nat) (h1 : P.underlying t = some (.slice e)) (h2 : P.info? e = some i) (h3 : i.zero = some z) (h4 : i.size = size) (h5 : i.bytes = bytes) (h6 : z.cells.size = size) (h7 : 0 < size)
    (v : Value) (k : Nat) (xs : List Value) (hs : a.eval s = v) (hown : w.ownsRow base e size v k xs) (ad : Addr) (m c : Nat) (news : List Value) (hx : a.eval x = .slice (some ad) m c) (hn : news.length = m * size)
    (hc : ∀ j u, news[j]? = some u → w.cell? (ad.add j) = some u) (h1c : ∀ u ∈ news, u.oneCell' = true) (hm : 0 < m) (b1 : k + m ≤ maxLen) (b2 : (k + m) * bytes ≤ 140737488355328) (b3 : base ≤ w.heap.size)
    (hK : ∀ v' w', w'.ownsRow base e size v' (k + m) (xs ++ news) → w.grownBy w' v.ownBlock → (v'.ownBlock = v.ownBlock ∨ v'.ownBlock = some w.heap.size) → wpListIn F n P ops Q rest (a.put o.dst v') w') :
    wpListIn F n P ops Q (o :: rest) a w := by
  obtain ⟨v', w', hrun, r1, r2, r3⟩ := run_append_block (P := P) w base t o.type e i z size bytes h1 h2 h3 h4 h5 h6 h7 v k xs hown ad m c news hn hc h1c hm b1 b2 b3
  refine wpListIn_plain hg fun K hK' => ?_
  unfold Oper.wpIn
  refine ⟨by simp [Oper.about, hop, resolve, Target.leads, Sem.run_pure], ?_⟩
  rw [Oper.semAt_plain F _ _ (by rw [hop]; intro c hc'; cases hc')]
  simp [execOp, hop, resolve, invoke, builtin, hs, hx, hrun, Result.andThen]
  exact hK' _ _ (hK v' w' r1 r2 r3)

end Go.Proofs.YtdhgabpoaicjoaaDoor
namespace Go.Proofs.YtdhgabpoaicjoaaDoor
open Go.RowKit Go.Shelf
set_option linter.unusedVariables false
attribute [local go_sem] Oper.semAt_some

/-- What lay leaves. -/
def LayPost (w : World) (A : List Arr) (e : Ending) (W' : World) : Prop := Below w.heap.size w W' ∧ ((A.length ≤ 4096 ∧ ∃ v, e = .returned (.tuple #[v, .bool true]) ∧ OwnA W' w.heap.size v A) ∨ (¬ A.length ≤ 4096 ∧ e = .returned (.tuple #[.slice none 0 0, .bool false])))

theorem results_pair {fn : Func} {u v : Tmp} (h : fn.results = #[.tmp u, .tmp v]) (tmps : Array Value) (P : Program) (w : World) : (results fn tmps).run P w = .ok (.tuple #[tmps.getD u undef, tmps.getD v undef]) w := by
  simp [results, h]

set_option maxRecDepth 100000 in
set_option maxHeartbeats 4000000 in
theorem lay_in (seen : List Int) (N : Nat) (ars : List Arr) (K : Nat) (hN : N ≤ 256) (hK : K ≤ 8) (pg g : Nat) (w : World) (hT : Hid (Tab w)) (hS : Hid (TB w pg N (stillT seen N ars))) (hU : Hid (T2 w g K N K (lTab seen (stillT seen N ars) ars))) (hSb : Hid (∀ p, p < N → ∀ n ∈ allS ((stillT seen N ars) p), n < N)) :
    CallsIn Fence.wide 5 Tryd.prog 67 #[.slice (some ⟨pg, 0, none⟩) N N, .slice (some ⟨g, 0, none⟩) K K] w fun e W' => LayPost w (layA seen N ars K N 0) e W' := by
  obtain ⟨i0, hi, hz0, hz1, hz2⟩ := info_parts Tryd.infoArrow
  have Y0 := Hid.of (YI.start w)
  refine callsIn_of_wp_marks Tryd.func67 rfl trivial ?_ rfl
  simp only [Tryd.ntmps67, List.size_toArray, List.length_cons, List.length_nil, Nat.reduceAdd, Nat.reduceSub, Array.replicate_succ, Array.replicate_zero, List.push_toArray, List.append_toArray, List.nil_append, List.cons_append]
  refine wpIn_wide.2 ?_
  go_wp2
  revert Y0
  generalize w.alloc (.cells #[.slice none 0 0] 23) = W0
  intro Y0
  refine wp_loop (fun a' W' => ∃ (f : Nat) (Ds : List Nat) (u7 u8 u9 u14 u15 u16 u17 u18 u19 u20 u21 u22 u23 u24 u25 u26 u27 u28 u29 u38 u39 u40 u41 u42 : Value), f ≤ N ∧ Hid (YI w W' Ds (layA seen N ars K f 0)) ∧ Hid ((layA seen N ars K f 0).length ≤ 4096) ∧ a' = { tmps := #[.slice (some ⟨pg, 0, none⟩) N N, .slice (some ⟨g, 0, none⟩) K K, undef, undef, .slice none 0 0, .bool false, .pointer (some ⟨w.heap.size, 0, none⟩), u7, u8, u9, undef, .slice (some ⟨pg, 0, none⟩) N N, .int .i64 N, .int .i64 f, u14, u15, u16, u17, u18, u19, u20, u21, u22, u23, u24, u25, u26, u27, u28, u29, undef, undef, undef, undef, undef, undef, undef, undef, u38, u39, u40, u41, u42, undef], defers := Ds.map mark }) (fun a' _ => N - (intOf (a'.tmps[13]?.getD undef)).toNat) ?start ?round
  case start => exact ⟨0, [], _, _, _, _, _, _, _, _, _, _, _, _, _, _, _, _, _, _, _, _, _, _, _, _, by omega, by rw [layA_zero]; exact Y0, by show _ ≤ _; rw [layA_zero]; simp, rfl⟩
  case round =>
    clear Y0
    rintro a' W ⟨f, Ds, u7, u8, u9, u14, u15, u16, u17, u18, u19, u20, u21, u22, u23, u24, u25, u26, u27, u28, u29, u38, u39, u40, u41, u42, hf, HY, HL, rfl⟩
    by_cases hft : f < N
    · have Y1 := Hid.of (HY.out.alloc (.cells #[.int .i64 f] 3))
      have B1 := Hid.of (Blk.new W 3 #[.int .i64 f])
      have hw0 : w.heap.size < W.heap.size := by obtain ⟨v, h, -⟩ := HY.out.box; exact h.lt
      go_wp2
      revert Y1 B1
      generalize W.alloc (.cells #[.int .i64 f] 3) = W1
      intro Y1 B1
      obtain ⟨b7, hb7⟩ : ∃ b7, b7 = W.heap.size := ⟨_, rfl⟩
      rw [← hb7] at B1 hw0 ⊢
      clear hb7 HY
      refine wp_loop (fun a' W' => ∃ (k : Nat) (Ds : List Nat) (v8 v9 v19 v20 v21 v22 v23 v24 v25 v26 v27 v28 v29 v38 v39 v40 v41 : Value), k ≤ K ∧ Hid (YI w W' Ds (layA seen N ars K f k)) ∧ Hid (Blk W' b7 3 #[.int .i64 f]) ∧ Hid ((layA seen N ars K f k).length ≤ 4096) ∧ a' = { tmps := #[.slice (some ⟨pg, 0, none⟩) N N, .slice (some ⟨g, 0, none⟩) K K, undef, undef, .slice none 0 0, .bool false, .pointer (some ⟨w.heap.size, 0, none⟩), .pointer (some ⟨b7, 0, none⟩), v8, v9, undef, .slice (some ⟨pg, 0, none⟩) N N, .int .i64 N, .int .i64 f, .bool true, .int .i64 f, .slice (some ⟨g, 0, none⟩) K K, .int .i64 K, .int .i64 k, v19, v20, v21, v22, v23, v24, v25, v26, v27, v28, v29, undef, undef, undef, undef, undef, undef, undef, undef, v38, v39, v40, v41, u42, undef], defers := Ds.map mark }) (fun a' _ => K - (intOf (a'.tmps[18]?.getD undef)).toNat) ?start ?round
      case start => exact ⟨0, Ds, _, _, _, _, _, _, _, _, _, _, _, _, _, _, _, _, _, by omega, Y1, B1, HL, rfl⟩
      case round =>
        clear Y1 B1 HL
        rintro a' W ⟨k, Ds, v8, v9, v19, v20, v21, v22, v23, v24, v25, v26, v27, v28, v29, v38, v39, v40, v41, hk, HY, HB, HL, rfl⟩
        by_cases hkt : k < K
        · obtain ⟨S0, HS0⟩ : ∃ S0, Hid (S0 = (stillT seen N ars) f) := ⟨_, rfl⟩
          have ok0 : Hid (okS S0) := by show okS S0; rw [HS0.out]; exact okS_still _ _ _ _
          have U1 := hU.out.below (HY.out.bel)
          have r0 := U1.row hkt
          have YA := Hid.of (HY.out.alloc (.cells #[.int .i64 k] 3))
          have BA := Hid.of (HB.out.alloc (.cells #[.int .i64 k] 3))
          have BE := Hid.of (Blk.new W 3 #[.int .i64 k])
          obtain ⟨t0, t1, t2, t3⟩ := (hS.out.below YA.out.bel hS.out.lt).cells hft
          rw [← HS0.out] at t0 t1 t2 t3
          have c7 : (W.alloc (.cells #[.int .i64 k] 3)).cell? ⟨b7, 0, none⟩ = some (.int .i64 f) := BA.out.cell 0 rfl
          have hf0 : (0 : Int) ≤ (f : Int) := by omega
          have hfI : (f : Int) < (N : Int) := by omega
          have hk0 : (0 : Int) ≤ (k : Int) := by omega
          have hkI : (k : Int) < (K : Int) := by omega
          have hwW : b7 < W.heap.size := HB.out.lt
          clear U1
          go_wp2_with fail
          clear t0 t1 t2 t3 r0 c7
          revert YA BA BE
          generalize W.alloc (.cells #[.int .i64 k] 3) = W2
          intro YA BA BE
          obtain ⟨b8, hb8⟩ : ∃ b8, b8 = W.heap.size := ⟨_, rfl⟩
          rw [← hb8] at BE hwW ⊢
          clear hb8 HY HB
          refine (union_any S0 ok0.out N ((lTab seen (stillT seen N ars) ars) k) (fun p => okS_lTab (okS_still seen N ars) ars k p) (by rw [HS0.out]; exact hSb.out f hft) hN (g + 1 + k) _ (hT.out.below YA.out.bel hT.out.lt) ((hU.out.below YA.out.bel).tb k hkt)).mono ?_
          rintro e w1 ⟨rfl, hb1⟩
          obtain ⟨LS, HLS⟩ : ∃ LS, Hid (LS = layS seen N ars f k) := ⟨_, rfl⟩
          have e1 : toF ((lTab seen (stillT seen N ars) ars) k) (allS S0) = LS := by rw [HLS.out, HS0.out]; rfl
          rw [e1]
          clear e1
          have okL : Hid (okS LS) := by show okS LS; rw [HLS.out]; exact ok_toF (fun p => okS_lTab (okS_still seen N ars) ars k p) _
          have Y3 := YA.out.below hb1
          have B3 := BA.out.below hb1 BA.out.lt
          have E3 := BE.out.below hb1 BE.out.lt
          clear YA BA BE hb1
          go_wp2_with fail
          refine (all_any LS _).mono ?_
          rintro e w2 ⟨rfl, rfl⟩
          have YR := Hid.of (Y3.alloc (.cells (scells LS) 65))
          have BR := Hid.of (B3.alloc (.cells (scells LS) 65))
          have ER := Hid.of (E3.alloc (.cells (scells LS) 65))
          have SR := Hid.of (show SB (w1.alloc (.cells (scells LS) 65)) w1.heap.size LS from Blk.new w1 65 (scells LS))
          clear Y3 B3 E3
          obtain ⟨xs, hxs⟩ := nb_of (N := 256) (allS LS) (fun n hn => ((mem_allS LS n).1 hn).1)
          have hxl : xs.length ≤ 256 := by have := allS_len LS; rw [← hxs, List.length_map] at this; exact this
          go_wp2
          revert YR BR ER SR
          generalize w1.alloc (.cells (scells LS) 65) = W3
          intro YR BR ER SR
          obtain ⟨v0, hv0, ho0⟩ := YR.out.box
          obtain ⟨A0, HA0⟩ : ∃ A0, Hid (A0 = (layA seen N ars K f k)) := ⟨_, rfl⟩
          rw [← HA0.out] at ho0 HL
          have HO0 := Hid.of ho0
          have hz3 := YR.out.bel.size
          have n7 : b7 ≠ w.heap.size := by omega
          have n8 : b8 ≠ w.heap.size := by omega
          have T3 := Hid.of (hT.out.below YR.out.bel hT.out.lt)
          have hw3 := hT.out.lt
          have hl0 := HL.out
          refine (wpIn_wide (n := 5)).1 ?_
          refine wpIn_rangeFunc_ownG rfl (by omega) (gf := 135) (lb := #[.pointer (some ⟨w1.heap.size, 0, none⟩)]) rfl trivial (enters_of Tryd.func135 (by kernel_rfl) rfl)
            (all_stops 4 (by omega) w1.heap.size w.heap.size LS okL.out xs hxs (by omega) W3 hz3 SR.out T3.out) belowK_t (belowK_b hz3) (Below.refl _ _) (fun _ => rfl)
            (fun pre W' => (∃ v, Boxed W' w.heap.size 23 v ∧ W'.ownsRow w.heap.size 61 3 v (A0 ++ prA f k pre).length (aflat (A0 ++ prA f k pre)) ∧ NewB W3 v0 v) ∧ KB W3 W' w.heap.size v0 ∧ Below w.heap.size w W')
            (fun _ _ _ => False)
            (OwnFrom.and (Go.Own.from (holdsRow_own w.heap.size w.heap.size 23 61 3 (fun pre : List (NB 256) => (A0 ++ prA f k pre).length) (fun pre => aflat (A0 ++ prA f k pre)) (fun _ v => NewB W3 v0 v)) _) (OwnFrom.and kb_own (ownFrom_below (Nat.le_refl _) hz3)))
            (fun _ _ _ _ _ hs _ _ => hs)
            ⟨⟨v0, hv0, by have h := ho0; unfold OwnA at h; simpa [prA] using h, .inl rfl⟩, KB.refl _ _ _, YR.out.bel⟩
            (fun x => { tmps := #[.slice (some ⟨pg, 0, none⟩) N N, .slice (some ⟨g, 0, none⟩) K K, undef, undef, .slice none 0 0, .bool false, .pointer (some ⟨w.heap.size, 0, none⟩), .pointer (some ⟨b7, 0, none⟩), .pointer (some ⟨b8, 0, none⟩), .slice (some ⟨g + 1 + k, 0, none⟩) N N, .int .i64 (x.1 : Int), .slice (some ⟨pg, 0, none⟩) N N, .int .i64 N, .int .i64 f, .bool true, .int .i64 f, .slice (some ⟨g, 0, none⟩) K K, .int .i64 K, .int .i64 k, .bool true, .int .i64 k, .pointer (some ⟨g, k, none⟩), .slice (some ⟨g + 1 + k, 0, none⟩) N N, .slice (some ⟨pg, 0, none⟩) N N, .int .i64 f, .pointer (some ⟨pg, f * 4, none⟩), .agg #[.int .u64 (S0 0), .int .u64 (S0 1), .int .u64 (S0 2), .int .u64 (S0 3)], .slice (some ⟨g + 1 + k, 0, none⟩) N N, .agg #[.int .u64 (LS 0), .int .u64 (LS 1), .int .u64 (LS 2), .int .u64 (LS 3)], .func (.func 135) #[] #[.pointer (some ⟨w1.heap.size, 0, none⟩)], .int .i64 (x.1 : Int), undef, undef, undef, undef, undef, undef, undef, v38, v39, v40, v41, u42, undef], defers := [] }) ?assign ?body ?done ?stop
          case assign =>
            intro l x W K hK
            gi_wp2
            exact hK
          case body =>
            rintro l' pre x W' ⟨⟨v, hv, hrw, hnb⟩, hkb, hB⟩ hlt
            have hc := hv.cell
            have c7 : W'.cell? ⟨b7, 0, none⟩ = some (.int .i64 f) := (hkb.blk BR.out n7 HO0.out (by decide)).cell 0 rfl
            have c8 : W'.cell? ⟨b8, 0, none⟩ = some (.int .i64 k) := (hkb.blk ER.out n8 HO0.out (by decide)).cell 0 rfl
            have hpl := prA_len f k pre
            have hal : (A0 ++ prA f k pre).length ≤ 4352 := by rw [List.length_append]; omega
            have HKB := Hid.of hkb
            have HNB := Hid.of hnb
            have HB' := Hid.of hB
            have hz9 := hB.size
            clear hpl hkb hnb hB
            obtain ⟨ll, HLL⟩ : ∃ ll, Hid ((A0 ++ prA f k pre).length = ll) := ⟨_, rfl⟩
            rw [HLL.out] at hrw hal
            gi_wp2_with (gi_at_builtin; refine wpListIn_append_block _ rfl _ _ 23 rfl w.heap.size 61 i0 (aval arr0) 3 24 Tryd.underlying23 hi hz0 hz1 hz2 rfl (by decide) _ _ _ rfl (hrw.alloc _) ⟨W'.heap.size, 0, none⟩ 1 1 [.int .i64 f, .int .i64 k, .int .i64 (x.1 : Int)] rfl rfl (cell3_new _ _ _ _ _) (by simp [Value.oneCell']) (by omega) (by unfold maxLen; omega) (by omega) (by simp; omega) ?_; intro v' w9 hown' hgrow hblk; obtain ⟨g', cap', rfl⟩ := ownsRow_succ hown'; obtain ⟨hv1, hv2, hr2, hk2, hb2⟩ := hv.appended (by decide) hrw hz9 (Nat.le_refl _) hown' hgrow; have hc1 := hv1.cell; have hf1 := hv1.frozen)
            refine ⟨hk2.from _, hb2, ⟨_, hv2, ?_, HNB.out.step HKB.out.2 hblk⟩, HKB.out.step HNB.out hgrow, HB'.out.trans hb2⟩
            rw [prA_snoc, ← List.append_assoc, aflat_snoc, List.length_append, HLL.out]
            exact hr2
          case done =>
            rintro D ys W' hD rfl ⟨⟨v, hv, hrw, hnb⟩, hkb, hB⟩ hK'
            have HA : Hid (A0 ++ prA f k ys = (layA seen N ars K f (k + 1))) := by
              show _ = _
              rw [layA_event, HA0.out]
              congr 1
              unfold prA layR
              rw [← HLS.out, ← hxs, List.map_map]; rfl
            have hm4 := hkb.marks YR.out.mks ⟨v0, hv0⟩ HO0.out
            have hmk : Hid (Marks w.heap.size (D :: Ds) W') := by
              refine ⟨fun D' hD' => ?_, List.nodup_cons.2 ⟨fun hm => ?_, hm4.nd⟩⟩
              · rcases List.mem_cons.1 hD' with rfl | hD'
                · exact ⟨by omega, hK'⟩
                · exact hm4.at' D' hD'
              · have := YR.out.mks.lt D hm; omega
            have hb4 := Hid.of (hkb.blk BR.out n7 HO0.out (by decide))
            rw [HA.out] at hrw
            have Y4 : Hid (YI w W' (D :: Ds) (layA seen N ars K f (k + 1))) := ⟨⟨v, hv, hrw⟩, hB, hmk.out⟩
            have hl4 : (layA seen N ars K f (k + 1)).length ≤ 4352 := by
              rw [← HA.out, List.length_append, prA_len]; omega
            have c0 := hv.cell
            obtain ⟨av, cv, rfl⟩ : ∃ a c, v = .slice a (layA seen N ars K f (k + 1)).length c := by
              rcases hrw.2 with ⟨rfl, h0⟩ | ⟨g', cap', cur, rfl, -⟩
              · exact ⟨none, 0, by rw [h0]⟩
              · exact ⟨_, cap', rfl⟩
            have HLE := Hid.of (layA_le (seen := seen) (N := N) (ars := ars) (K := K) (f := f) (k := k + 1) hft (by omega))
            clear hm4 hmk hrw hkb hB hnb hv YR BR ER SR HA ho0 hv0 HO0
            obtain ⟨ln, HLN⟩ : ∃ ln, Hid ((layA seen N ars K f (k + 1)).length = ln) := ⟨_, rfl⟩
            rw [HLN.out] at c0 hl4 HLE
            by_cases hbig : 4096 < ln
            · go_wp2
              refine leaves_marks (B := w.heap.size) (fun W => Below w.heap.size w W) ?hJ ?hfin (D :: Ds) _ Y4.out.mks Y4.out.bel
              case hJ =>
                rintro W D h2 hD hk
                exact h2.trans (belowK_b (w := w) (Nat.le_refl _) W D _ _ hD hk rfl rfl)
              case hfin =>
                intro W h2
                exact ⟨_, results_pair (u := 4) (v := 5) rfl _ _ _, h2, .inr ⟨by have := HLE.out; omega, rfl⟩⟩
            · have HL4 : Hid ((layA seen N ars K f (k + 1)).length ≤ 4096) := by show _ ≤ _; rw [HLN.out]; omega
              go_wp2
              exact ⟨⟨k + 1, D :: Ds, _, _, _, _, _, _, _, _, _, _, _, _, _, _, _, _, _, by omega, Y4, hb4, HL4, rfl⟩, by simp [intOf]; omega⟩
          case stop =>
            rintro D c pre W' _ _ h _
            exact h.elim
        · have hk2 : K = k := by omega
          subst hk2
          rw [← layA_from] at HY HL
          go_wp2
          exact ⟨⟨f + 1, Ds, _, _, _, _, _, _, _, _, _, _, _, _, _, _, _, _, _, _, _, _, _, _, _, _, by omega, HY, HL, rfl⟩, by simp [intOf]; omega⟩
    · have hf2 : N = f := by omega
      subst hf2
      obtain ⟨v, hv, ho⟩ := HY.out.box
      have c0 := hv.cell
      have HO := Hid.of ho
      go_wp2
      refine leaves_marks (B := w.heap.size) (fun W => OwnA W w.heap.size v (layA seen N ars K N 0) ∧ Below w.heap.size w W) ?hJ ?hfin Ds _ HY.out.mks ⟨HO.out, HY.out.bel⟩
      case hJ =>
        rintro W D ⟨h1, h2⟩ hD hk
        exact ⟨ownsRow_putObj h1 _ hk rfl, h2.trans (belowK_b (w := w) (Nat.le_refl _) W D _ _ hD hk rfl rfl)⟩
      case hfin =>
        rintro W ⟨h1, h2⟩
        exact ⟨_, results_pair (u := 4) (v := 5) rfl _ _ _, h2, .inl ⟨HL.out, v, rfl, h1⟩⟩

theorem lay_any (seen : List Int) (N : Nat) (ars : List Arr) (K : Nat) (hN : N ≤ 256) (hK : K ≤ 8) (pg g : Nat) (w : World) (hT : Tab w) (hS : TB w pg N (stillT seen N ars)) (hU : T2 w g K N K (lTab seen (stillT seen N ars) ars)) (hSb : ∀ p, p < N → ∀ n ∈ allS ((stillT seen N ars) p), n < N) :
    Calls Tryd.prog 67 #[.slice (some ⟨pg, 0, none⟩) N N, .slice (some ⟨g, 0, none⟩) K K] w fun e W' => LayPost w (layA seen N ars K N 0) e W' :=
  callsIn_wide.1 (lay_in seen N ars K hN hK pg g w (Hid.of hT) (Hid.of hS) (Hid.of hU) (Hid.of hSb))

end Go.Proofs.YtdhgabpoaicjoaaDoor
namespace Go.Proofs.YtdhgabpoaicjoaaDoor
open Go.RowKit Go.Shelf
set_option linter.unusedVariables false
attribute [local go_sem] Oper.semAt_some

set_option maxRecDepth 100000 in
set_option maxHeartbeats 4000000 in
theorem rowO_in (S : Nat → Nat) (hS : okS S) (w : World) (hT : Tab w) :
    CallsIn Fence.wide 5 Tryd.prog 54 #[sval S] w fun e W' => GivesO w (rowS S) e W' := by
  obtain ⟨i0, hi, hz0, hz1, hz2⟩ := info_parts Tryd.infoInt
  obtain ⟨xs, hxs⟩ := nb_of (N := 256) (allS S) (fun k hk => ((mem_allS S k).1 hk).1)
  have hlen : xs.length ≤ 256 := by have := allS_len S; rw [← hxs, List.length_map] at this; exact this
  have hrow : nbInts xs = rowS S := by unfold nbInts rowS; rw [← hxs, List.map_map]; rfl
  refine callsIn_of_wp_marks Tryd.func54 rfl trivial ?_ rfl
  simp only [Tryd.ntmps54, List.size_toArray, List.length_cons, List.length_nil, Nat.reduceAdd, Nat.reduceSub, Array.replicate_succ, Array.replicate_zero, List.push_toArray, List.append_toArray, List.nil_append, List.cons_append]
  gi_wp2_with (refine ⟨trivial, ?_⟩; refine CallsIn.mono (callsIn_wide.2 (all_any S _)) ?_; rintro e w1 ⟨rfl, rfl⟩)
  have bO : Boxed (((w.alloc (.cells (scells S) 65)).alloc (.cells #[.slice none 0 0] 22)).alloc (.cells (scells S) 65)) (w.heap.size + 1) 22 (.slice none 0 0) := by
    have := (Boxed.new (w.alloc (.cells (scells S) 65)) 22 (.slice none 0 0)).alloc (.cells (scells S) 65)
    rwa [World.size_alloc] at this
  have bN : SB (((w.alloc (.cells (scells S) 65)).alloc (.cells #[.slice none 0 0] 22)).alloc (.cells (scells S) 65)) (w.heap.size + 1 + 1) S := by
    have := Blk.new ((w.alloc (.cells (scells S) 65)).alloc (.cells #[.slice none 0 0] 22)) 65 (scells S)
    rwa [World.size_alloc, World.size_alloc] at this
  have hB0 : Below w.heap.size w (((w.alloc (.cells (scells S) 65)).alloc (.cells #[.slice none 0 0] 22)).alloc (.cells (scells S) 65)) := (((Below.refl _ w).alloc (Nat.le_refl _) _).alloc (by simp) _).alloc (by simp; omega) _
  have hsz : (((w.alloc (.cells (scells S) 65)).alloc (.cells #[.slice none 0 0] 22)).alloc (.cells (scells S) 65)).heap.size = w.heap.size + 3 := by simp
  have hT0 := hT.below hB0 hT.lt
  revert bO bN hB0 hsz hT0
  generalize ((w.alloc (.cells (scells S) 65)).alloc (.cells #[.slice none 0 0] 22)).alloc (.cells (scells S) 65) = W0
  intro bO bN hB0 hsz hT0
  refine wpIn_rangeFunc_ownG rfl (by omega) (gf := 135) (lb := #[.pointer (some ⟨w.heap.size + 1 + 1, 0, none⟩)]) rfl trivial (enters_of Tryd.func135 (by kernel_rfl) rfl)
    (all_stops 4 (by omega) (w.heap.size + 1 + 1) w.heap.size S hS xs hxs hT.lt W0 (by omega) bN hT0) belowK_t (belowK_b (by omega)) (Below.refl _ _) (fun _ => rfl)
    (fun pre W => (∃ v, Boxed W (w.heap.size + 1) 22 v ∧ W.ownsRow w.heap.size 3 1 v (nbInts pre).length ((nbInts pre).map (Value.int .i64)) ∧ True) ∧ Below w.heap.size w W)
    (fun _ _ _ => False)
    (OwnFrom.and (Go.Own.from (holdsRow_own w.heap.size (w.heap.size + 1) 22 3 1 (fun pre : List (NB 256) => (nbInts pre).length) (fun pre => (nbInts pre).map (Value.int .i64)) (fun _ _ => True)) _) (ownFrom_below (Nat.le_refl _) (by omega)))
    (fun _ _ _ _ _ hs _ _ => hs)
    ⟨⟨_, bO, World.ownsRow_nil _ _ _ _, trivial⟩, hB0⟩
    (fun x => { tmps := #[sval S, .pointer (some ⟨w.heap.size, 0, none⟩), .slice none 0 0, .pointer (some ⟨w.heap.size + 1, 0, none⟩), .int .i64 (x.1 : Int), sval S, .func (.func 135) #[] #[.pointer (some ⟨w.heap.size + 1 + 1, 0, none⟩)], .int .i64 (x.1 : Int), undef, undef, undef, undef, undef], defers := [] }) ?assign ?body ?done ?stop
  case assign =>
    intro l x W K hK
    gi_wp2
    exact hK
  case body =>
    rintro l pre x W ⟨⟨v, hv, hrw, -⟩, hB⟩ hlt
    have hc := hv.cell
    have hpl := nbInts_len pre
    have HL := Hid.of hpl
    have hl2 : (nbInts pre).length ≤ 256 := by omega
    clear hpl
    gi_wp2_with (gi_at_builtin; refine wpListIn_append_own _ rfl _ _ 22 rfl w.heap.size 3 i0 (.int .i64 0) 1 8 Tryd.underlying22 hi hz0 hz1 hz2 rfl (by decide) _ _ _ rfl (hrw.alloc _) ⟨W.heap.size, 0, none⟩ 1 1 [.int .i64 (x.1 : Int)] rfl rfl (cell_one_new _ _ _) (by simp [Value.oneCell']) (by unfold maxLen; omega) (by omega) (by have := hB.size; simp; omega) ?_; intro v' w1 hown' hgrow _; obtain ⟨g', cap', rfl⟩ := ownsRow_succ hown'; obtain ⟨hv1, hv2, hr2, hk2, hb2⟩ := hv.appended (by decide) hrw hB.size (by omega) hown' hgrow; have hc1 := hv1.cell; have hf1 := hv1.frozen)
    exact ⟨hk2.from _, hb2, ⟨_, hv2, by rw [nbInts_snoc]; simpa using hr2, trivial⟩, hB.trans hb2⟩
  case done =>
    rintro D ys W hD rfl ⟨⟨v, hv, hrw, -⟩, hB⟩ hK
    have hc := hv.cell
    rw [hrow] at hrw
    gi_wp2
    refine ⟨by simp, .inl ⟨_, _, rfl, run_takeDeferred hK, ?_⟩⟩
    refine ⟨_, results_tmp rfl _ _ _, ?_⟩
    exact ⟨v, rfl, (show Own _ _ v (rowS S) from ownsRow_putObj hrw _ hK rfl), hB.trans (belowK_b (w := w) (Nat.le_refl _) W D _ _ (by omega) hK rfl rfl)⟩
  case stop =>
    rintro D c pre W _ _ h _
    exact h.elim

theorem rowO_any (S : Nat → Nat) (w : World) (hS : okS S) (hT : Tab w) : Calls Tryd.prog 54 #[sval S] w fun e W' => GivesO w (rowS S) e W' :=
  callsIn_wide.1 (rowO_in S hS w hT)

end Go.Proofs.YtdhgabpoaicjoaaDoor
