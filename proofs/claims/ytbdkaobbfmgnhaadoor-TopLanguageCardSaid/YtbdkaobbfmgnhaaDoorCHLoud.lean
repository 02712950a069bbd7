/-
  The walk of hide.loud: of each seen event and each state, where it leads to.
-/
import Derived.Deep.RegionHeld3
import Derived.Test.YtbdkaobbfmgnhaaDoorCHQuiet
import Derived.Test.YtbdkaobbfmgnhaaDoorG15
namespace Go.Proofs.YtbdkaobbfmgnhaaDoor
open Go.RowKit
set_option linter.unusedVariables false

theorem Tryd.infoSlSet : (Tryd.prog.info? 87).map (fun i => (i.zero, i.size, i.bytes)) = some (some (.slice none 0 0), 1, 24) := by kernel_rfl

/-- The cells of a row of rows: the first k of them are there. -/
def rcell (g N k i : Nat) : Value := if i < k then .slice (some ⟨g + 1 + i, 0, none⟩) N N else .slice none 0 0
structure T2 (W : World) (g K N k : Nat) (U : Nat → Nat → Nat → Nat) : Prop where
  out : ∃ cs, Blk W g 87 cs ∧ cs.size = K ∧ ∀ i, i < K → cs[i]? = some (rcell g N k i)
  tb : ∀ i, i < k → TB W (g + 1 + i) N (U i)
theorem T2.lt {W : World} {g K N k : Nat} {U : Nat → Nat → Nat → Nat} (h : T2 W g K N k U) : g < W.heap.size := by obtain ⟨cs, h, -⟩ := h.out; exact h.lt
theorem T2.cell {W : World} {g K N k i : Nat} {U : Nat → Nat → Nat → Nat} (h : T2 W g K N k U) (hi : i < K) : W.cell? ⟨g, i, none⟩ = some (rcell g N k i) := by
  obtain ⟨cs, h1, -, h3⟩ := h.out; exact h1.cell i (h3 i hi)
theorem T2.row {W : World} {g K N i : Nat} {U : Nat → Nat → Nat → Nat} (h : T2 W g K N K U) (hi : i < K) : W.cell? ⟨g, i, none⟩ = some (.slice (some ⟨g + 1 + i, 0, none⟩) N N) := by
  rw [h.cell hi, rcell, if_pos hi]
theorem T2.frozen {W : World} {g K N k : Nat} {U : Nat → Nat → Nat → Nat} (h : T2 W g K N k U) (i : Nat) : W.frozen? ⟨g, i, none⟩ = false := by
  obtain ⟨cs, h1, -⟩ := h.out; exact h1.frozen i
theorem T2.below {W W' : World} {g K N k : Nat} {U : Nat → Nat → Nat → Nat} (h : T2 W g K N k U) (hb : Below W.heap.size W W') : T2 W' g K N k U := by
  obtain ⟨cs, h1, h2, h3⟩ := h.out
  exact ⟨⟨cs, h1.below hb h1.lt, h2, h3⟩, fun i hi => (h.tb i hi).below hb (h.tb i hi).lt⟩
theorem TB.other4' {W : World} {g N b' : Nat} {T : Nat → Nat → Nat} (h : TB W g N T) (j : Nat) (hne : g ≠ b') (v0 v1 v2 v3 : Value) : TB ((((W.setCell ⟨b', j, none⟩ v0).setCell ⟨b', j + 1, none⟩ v1).setCell ⟨b', j + 2, none⟩ v2).setCell ⟨b', j + 3, none⟩ v3) g N T := by
  obtain ⟨cs, h1, h2⟩ := h
  exact ⟨cs, Blk.other4' h1 j hne _ _ _ _, h2⟩
theorem TB.other {W : World} {g N b' : Nat} {T : Nat → Nat → Nat} (h : TB W g N T) (j : Nat) (hne : g ≠ b') (v : Value) : TB (W.setCell ⟨b', j, none⟩ v) g N T := by
  obtain ⟨cs, h1, h2⟩ := h
  exact ⟨cs, h1.other hne v, h2⟩
/-- One row more. -/
theorem T2.more {W : World} {g K N k : Nat} (h : T2 W g K N k fun _ _ => zeroS) (hk : k < K) (ht : TB W (g + 1 + k) N fun _ => zeroS) : T2 (W.setCell ⟨g, k, none⟩ (.slice (some ⟨g + 1 + k, 0, none⟩) N N)) g K N (k + 1) fun _ _ => zeroS := by
  obtain ⟨cs, h1, h2, h3⟩ := h.out
  refine ⟨⟨cs.setIfInBounds k _, h1.set k _, by simp [h2], fun i hi => ?_⟩, fun i hi => ?_⟩
  · rw [Array.getElem?_setIfInBounds]
    by_cases e : k = i
    · subst e; rw [if_pos rfl, if_pos (by omega)]; simp [rcell]
    · rw [if_neg e, h3 i hi]
      unfold rcell
      have : (i < k + 1) ↔ i < k := by omega
      simp [this]
  · by_cases e : i = k
    · subst e; exact ht.other _ (by omega) _
    · exact (h.tb i (by omega)).other _ (by omega) _
/-- A set is stored. -/
theorem T2.store {W : World} {g K N k p : Nat} {U : Nat → Nat → Nat → Nat} (h : T2 W g K N K U) (hk : k < K) (hp : p < N) (S : Nat → Nat) :
    T2 ((((W.setCell ⟨g + 1 + k, p * 4, none⟩ (.int .u64 (S 0))).setCell ⟨g + 1 + k, p * 4 + 1, none⟩ (.int .u64 (S 1))).setCell ⟨g + 1 + k, p * 4 + 2, none⟩ (.int .u64 (S 2))).setCell ⟨g + 1 + k, p * 4 + 3, none⟩ (.int .u64 (S 3))) g K N K (fun q => if q = k then (fun r => if r = p then S else U k r) else U q) := by
  obtain ⟨cs, h1, h2, h3⟩ := h.out
  refine ⟨⟨cs, Blk.other4' h1 (p * 4) (by omega) _ _ _ _, h2, h3⟩, fun i hi => ?_⟩
  by_cases e : i = k
  · subst e
    simp only [if_true]
    exact TB.store (h.tb i hi) hp S
  · simp only [if_neg e]
    exact TB.other4' (h.tb i hi) (p * 4) (by omega) _ _ _ _

/-- What loud knows of the memory. -/
structure LI (w W : World) (m : Mach) (l : ML) (K N k : Nat) (U : Nat → Nat → Nat → Nat) : Prop where
  blk : Blk W w.heap.size 25 (mcells m l)
  t2 : T2 W (w.heap.size + 1) K N k U
  bel : Below w.heap.size w W
theorem LI.below {w W W' : World} {m : Mach} {l : ML} {K N k : Nat} {U : Nat → Nat → Nat → Nat} (h : LI w W m l K N k U) (hb : Below W.heap.size W W') : LI w W' m l K N k U :=
  ⟨h.blk.below hb h.blk.lt, h.t2.below hb, h.bel.trans (hb.mono h.bel.size)⟩
theorem LI.drew {w W : World} {m : Mach} {l : ML} {K N k : Nat} {U : Nat → Nat → Nat → Nat} (h : LI w W m l K N k U) : LI w W.drew m l K N k U := h.below ((Below.refl _ _).drew)
theorem LI.alloc {w W : World} {m : Mach} {l : ML} {K N k : Nat} {U : Nat → Nat → Nat → Nat} (h : LI w W m l K N k U) (o : Obj) : LI w (W.alloc o) m l K N k U := h.below ((Below.refl _ _).alloc (Nat.le_refl _) o)
theorem LI.more {w W : World} {m : Mach} {l : ML} {K N k : Nat} (h : LI w W m l K N k fun _ _ => zeroS) (hk : k < K) (ht : TB W (w.heap.size + 1 + 1 + k) N fun _ => zeroS) : LI w (W.setCell ⟨w.heap.size + 1, k, none⟩ (.slice (some ⟨w.heap.size + 1 + 1 + k, 0, none⟩) N N)) m l K N (k + 1) fun _ _ => zeroS :=
  ⟨h.blk.other (by omega) _, h.t2.more hk ht, h.bel.setCell (p := ⟨w.heap.size + 1, k, none⟩) (Nat.le_succ _) _⟩
theorem LI.store {w W : World} {m : Mach} {l : ML} {K N k p : Nat} {U : Nat → Nat → Nat → Nat} (h : LI w W m l K N K U) (hk : k < K) (hp : p < N) (S : Nat → Nat) :
    LI w ((((W.setCell ⟨w.heap.size + 1 + 1 + k, p * 4, none⟩ (.int .u64 (S 0))).setCell ⟨w.heap.size + 1 + 1 + k, p * 4 + 1, none⟩ (.int .u64 (S 1))).setCell ⟨w.heap.size + 1 + 1 + k, p * 4 + 2, none⟩ (.int .u64 (S 2))).setCell ⟨w.heap.size + 1 + 1 + k, p * 4 + 3, none⟩ (.int .u64 (S 3))) m l K N K (fun q => if q = k then (fun r => if r = p then S else U k r) else U q) :=
  ⟨Blk.other4' h.blk (p * 4) (by omega) _ _ _ _, h.t2.store hk hp S, below_set4' h.bel (p * 4) (by omega) _ _ _ _⟩
theorem T2.made {W : World} {g K N : Nat} (h : Blk W g 87 (madeCells #[.slice none 0 0] K)) : T2 W g K N 0 fun _ _ => zeroS := by
  refine ⟨⟨_, h, size_madeCells _ _, fun i hi => ?_⟩, fun i hi => absurd hi (Nat.not_lt_zero i)⟩
  unfold madeCells rcell
  rw [Array.getElem?_map, Array.getElem?_range, if_pos hi]
  simp [Nat.mod_one]

set_option maxRecDepth 100000 in
set_option maxHeartbeats 4000000 in
theorem loud_any (st : Nat) (ev : Int) (starts : List Int) (ars : List Arr) (ends : List Int) (a1 : Option Addr) (c1 : Nat) (a2 : Option Addr) (c2 : Nat) (a3 : Option Addr) (c3 : Nat) (sa : Option Addr) (sc : Nat) (seen : List Int) (pg : Nat) (S : Nat → Nat → Nat) (w : World) (hst : st ≤ 256) (hlen : ars.length ≤ 4096) (hA : Hid (AtA w a2 ars)) (hin : Hid (∀ a ∈ ars, (0 ≤ a.f ∧ a.f < st) ∧ 0 ≤ a.t ∧ a.t < st)) (hs : Hid (At w sa seen)) (hsl : seen.length ≤ 8) (hsi : Hid (Inc seen)) (hS : Hid (TB w pg st S)) (hSok : Hid (∀ p, okS (S p))) :
    Calls Tryd.prog 71 #[mval ⟨st, ev, starts, ars, ends⟩ ⟨a1, c1, a2, c2, a3, c3⟩, .slice sa seen.length sc, .slice (some ⟨pg, 0, none⟩) st st] w fun e w' => e = .returned (.slice (some ⟨w.heap.size + 1, 0, none⟩) seen.length seen.length) ∧ T2 w' (w.heap.size + 1) seen.length st seen.length (lTab seen S ars) ∧ Below w.heap.size w w' := by
  obtain ⟨i0, hi, hz0, hz1, hz2⟩ := info_parts Tryd.infoSet
  have hmk : ∀ w : World, (Instr.makeSlice 87 (.int .i64 st) (.int .i64 st)).run Tryd.prog w = .ok (.slice (some ⟨w.heap.size, 0, none⟩) st st) (w.alloc (.cells (madeCells #[.int .u64 0, .int .u64 0, .int .u64 0, .int .u64 0] (st * 4)) 62)) := fun w => by
    have := run_make (P := Tryd.prog) w 87 62 i0 (sval zeroS) Tryd.underlying87 hi hz0 .i64 .i64 st st (by omega) (by omega) (by rw [hz2]; omega) (by omega)
    rw [hz1, Int.toNat_natCast] at this
    exact this
  clear hi hz0 hz1 hz2
  obtain ⟨i1, hi, hz0, hz1, hz2⟩ := info_parts Tryd.infoSlSet
  obtain ⟨K, HK⟩ : ∃ K, Hid (seen.length = K) := ⟨_, rfl⟩
  rw [HK.out] at hsl
  have hmk2 : ∀ w : World, (Instr.makeSlice 91 (.int .i64 K) (.int .i64 K)).run Tryd.prog w = .ok (.slice (some ⟨w.heap.size, 0, none⟩) K K) (w.alloc (.cells (madeCells #[.slice none 0 0] K) 87)) := fun w => by
    have := run_make (P := Tryd.prog) w 91 87 i1 (.slice none 0 0) Tryd.underlying91 hi hz0 .i64 .i64 K K (by omega) (by omega) (by rw [hz2]; omega) (by omega)
    rw [hz1, Int.toNat_natCast, Nat.mul_one] at this
    exact this
  clear hi hz0 hz1 hz2
  have L0 : Hid (LI w ((w.alloc (.cells (mcells ⟨st, ev, starts, ars, ends⟩ ⟨a1, c1, a2, c2, a3, c3⟩) 25)).alloc (.cells (madeCells #[.slice none 0 0] K) 87)) ⟨st, ev, starts, ars, ends⟩ ⟨a1, c1, a2, c2, a3, c3⟩ K st 0 fun _ _ => zeroS) := by
    refine ⟨(Blk.new w _ _).alloc _, T2.made ?_, ((Below.refl _ _).alloc (Nat.le_refl _) _).alloc (by simp) _⟩
    have := Blk.new (w.alloc (.cells (mcells ⟨st, ev, starts, ars, ends⟩ ⟨a1, c1, a2, c2, a3, c3⟩) 25)) 87 (madeCells #[.slice none 0 0] K)
    rwa [World.size_alloc] at this
  have Z0 : ((w.alloc (.cells (mcells ⟨st, ev, starts, ars, ends⟩ ⟨a1, c1, a2, c2, a3, c3⟩) 25)).alloc (.cells (madeCells #[.slice none 0 0] K) 87)).heap.size = w.heap.size + 2 := by simp
  rw [HK.out]
  go_enter Tryd.func71, Tryd.ntmps71
  go_wp2
  revert L0 Z0
  generalize (w.alloc (.cells (mcells ⟨st, ev, starts, ars, ends⟩ ⟨a1, c1, a2, c2, a3, c3⟩) 25)).alloc (.cells (madeCells #[.slice none 0 0] K) 87) = W0
  intro L0 Z0
  go_loopw [18] (fun i wr => ∃ k : Nat, k ≤ K ∧ i = .int .i64 k ∧ Hid (LI w wr ⟨st, ev, starts, ars, ends⟩ ⟨a1, c1, a2, c2, a3, c3⟩ K st k fun _ _ => zeroS) ∧ wr.heap.size = w.heap.size + 2 + k) (fun i _ => K - (intOf i).toNat)
  case atStart => exact ⟨0, by omega, rfl, L0, by omega⟩
  case round =>
    clear L0 Z0
    obtain ⟨k, hk, rfl, LL, hz⟩ := hrel
    by_cases hlt : k < K
    · have x0 : wr.cell? ⟨w.heap.size, 0, none⟩ = some (.int .i64 st) := LL.out.blk.cell 0 rfl
      have hk0 : (0 : Int) ≤ (k : Int) := by omega
      have hkI : (k : Int) < (K : Int) := by omega
      have L1 := LL.out.alloc (.cells (madeCells #[.int .u64 0, .int .u64 0, .int .u64 0, .int .u64 0] (st * 4)) 62)
      have t1 : TB (wr.alloc (.cells (madeCells #[.int .u64 0, .int .u64 0, .int .u64 0, .int .u64 0] (st * 4)) 62)) (w.heap.size + 1 + 1 + k) st fun _ => zeroS := by
        refine TB.made ?_
        have := Blk.new wr 62 (madeCells #[.int .u64 0, .int .u64 0, .int .u64 0, .int .u64 0] (st * 4))
        rwa [hz] at this
      have y0 := L1.t2.cell hlt
      have fz := L1.t2.frozen
      have L2 := Hid.of (L1.more hlt t1)
      have z2 : ((wr.alloc (.cells (madeCells #[.int .u64 0, .int .u64 0, .int .u64 0, .int .u64 0] (st * 4)) 62)).setCell ⟨w.heap.size + 1, k, none⟩ (.slice (some ⟨w.heap.size + 1 + 1 + k, 0, none⟩) st st)).heap.size = w.heap.size + 2 + (k + 1) := by
        simp [World.setCell]; omega
      clear t1 L1 LL
      go_wp2
      have e2 : w.heap.size + 1 + 1 + k = w.heap.size + 2 + k := by omega
      rw [e2] at L2 z2
      clear e2
      go_wp2
      exact ⟨⟨k + 1, by omega, by go_num, L2, z2⟩, by simp [intOf]; omega⟩
    · have hk2 : K = k := by omega
      subst hk2
      obtain ⟨x0, x1, x2, x3, x4⟩ := (⟨LL.out.blk.cell 0 rfl, LL.out.blk.cell 1 rfl, LL.out.blk.cell 2 rfl, LL.out.blk.cell 3 rfl, LL.out.blk.cell 4 rfl⟩ : _ ∧ _ ∧ _ ∧ _ ∧ _)
      have L3 : Hid (LI w wr ⟨st, ev, starts, ars, ends⟩ ⟨a1, c1, a2, c2, a3, c3⟩ K st K (lTab seen S (ars.take 0))) := LL
      clear LL hz hmk hmk2
      go_wp2
      go_loopw [31] (fun i wr => ∃ j : Nat, j ≤ ars.length ∧ i = .int .i64 j ∧ Hid (LI w wr ⟨st, ev, starts, ars, ends⟩ ⟨a1, c1, a2, c2, a3, c3⟩ K st K (lTab seen S (ars.take j)))) (fun i _ => ars.length - (intOf i).toNat)
      case atStart => exact ⟨0, by omega, rfl, L3⟩
      case round =>
        clear L3
        try clear x0 x1 x2 x3 x4
        obtain ⟨j, hj, rfl, LL⟩ := hrel
        by_cases hlt : j < ars.length
        · rcases hA.out with h0 | ⟨b, off, rfl, hb, hca⟩
          · rw [h0] at hlt; simp at hlt
          obtain ⟨a, HA, y1, y2, y3⟩ := hca.at hlt
          have hia : (0 ≤ a.f ∧ a.f < st) ∧ 0 ≤ a.t ∧ a.t < st := by
            have h := HA.out
            rw [List.getElem?_eq_getElem hlt, Option.getD_some] at h
            rw [h]; exact hin.out _ (List.getElem_mem hlt)
          obtain ⟨f, ef⟩ : ∃ f : Nat, a.f = (f : Int) := ⟨a.f.toNat, by omega⟩
          obtain ⟨e, ee⟩ : ∃ e : Int, a.e = e := ⟨_, rfl⟩
          obtain ⟨t, et⟩ : ∃ t : Nat, a.t = (t : Int) := ⟨a.t.toNat, by omega⟩
          rw [ef] at y1
          rw [ee] at y2
          rw [et] at y3
          have hf : f < st := by omega
          have ht : t < st := by omega
          have HN1 : Hid (hasB seen e = false → lTab seen S (ars.take (j + 1)) = lTab seen S (ars.take j)) := fun h => by
            rw [lTab_take hlt HA]; unfold lStep; rw [ee, if_neg (by rw [h]; simp)]
          have HN2 : Hid (∀ k : Nat, hasB seen e = true → placeI seen e = (k : Int) → lTab seen S (ars.take (j + 1)) = fun q => if q = k then (fun r => if r = f then joinS (lTab seen S (ars.take j) k f) (S t) else lTab seen S (ars.take j) k r) else lTab seen S (ars.take j) q) := fun k h hp => by
            rw [lTab_take hlt HA]; unfold lStep; rw [ee, if_pos h, hp, ef, et]
            simp only [Int.toNat_natCast]
            funext q
            by_cases e : q = k
            · subst e
              simp only [if_true]
              funext r
              by_cases e : r = f
              · subst e; simp only [if_true]
              · rw [if_neg e, if_neg e]
            · rw [if_neg e, if_neg e]
          have hp0 : (0 : Int) ≤ (f : Int) := by omega
          have hpI : (f : Int) < (st : Int) := by omega
          have ht0 : (0 : Int) ≤ (t : Int) := by omega
          have htI : (t : Int) < (st : Int) := by omega
          clear hia ef ee et HA
          have z1 := (LL.out.bel.cell (p := ⟨b, off + j * 3, none⟩) hb).trans y1
          have z2 := (LL.out.bel.cell (p := ⟨b, off + j * 3 + 1, none⟩) hb).trans y2
          have z3 := (LL.out.bel.cell (p := ⟨b, off + j * 3 + 2, none⟩) hb).trans y3
          have LV := Hid.of (LL.out.alloc (.cells #[.int .i64 f, .int .i64 e, .int .i64 t] 58))
          have HAV := Hid.of (Blk.new wr 58 #[.int .i64 f, .int .i64 e, .int .i64 t])
          have HSZ : Hid ((wr.alloc (.cells #[.int .i64 f, .int .i64 e, .int .i64 t] 58)).heap.size = wr.heap.size + 1) := World.size_alloc _ _
          have l1 := LL.out.t2.lt
          have l2 : ∀ k, k < K → w.heap.size + 1 + 1 + k < wr.heap.size := fun k hk => (LL.out.t2.tb k hk).lt
          have l0 := hS.out.lt
          have l3 := LL.out.bel.size
          clear y1 y2 y3 hca LL
          go_wp2_with fail
          revert LV HAV HSZ
          generalize wr.alloc (.cells #[.int .i64 f, .int .i64 e, .int .i64 t] 58) = V
          intro LV HAV HSZ
          have hbs := bs_any sa sc seen e V (hs.out.below LV.out.bel (Nat.le_refl _)) (by rw [HK.out]; omega) hsi.out
          rw [HK.out] at hbs
          refine hbs.mono ?_
          clear hbs
          rintro e' V ⟨k, rfl, hpl, rfl⟩
          clear z1 z2 z3
          have HPL := Hid.of hpl
          have HLK : Hid (hasB seen e = true → k < K) := fun h => by
            have h1 := HPL.out h
            have h2 := placeI_lt ((hasB_iff _ _).1 h)
            rw [HK.out] at h2
            omega
          clear hpl
          cases hh : hasB seen e with
          | false =>
            have HN := Hid.of (HN1.out hh)
            clear HN1 HN2 HAV HSZ hh HPL HLK
            go_wp2
            go_roundw
            case rel =>
              refine ⟨j + 1, by omega, by go_num, ?_⟩
              rw [HN.out]; exact LV
            case measure => simp [intOf]; omega
          | true =>
            have HN := Hid.of (HN2.out k hh (HPL.out hh))
            have hkK : k < K := HLK.out hh
            clear HN1 HN2 hh HPL HLK
            have hk0 : (0 : Int) ≤ (k : Int) := by omega
            have hkI : (k : Int) < (K : Int) := by omega
            obtain ⟨t0, t1, t2, t3⟩ := (LV.out.t2.tb k hkK).cells hf
            obtain ⟨s0, s1, s2, s3⟩ := (hS.out.below LV.out.bel hS.out.lt).cells ht
            have r0 := LV.out.t2.row hkK
            have d1 : V.cell? ⟨wr.heap.size, 0, none⟩ = some (.int .i64 f) := HAV.out.cell 0 rfl
            have d2 : V.cell? ⟨wr.heap.size, 2, none⟩ = some (.int .i64 t) := HAV.out.cell 2 rfl
            have hsz := HSZ.out
            have l2k := l2 k hkK
            clear l2
            obtain ⟨R, HR⟩ : ∃ R, Hid (R = lTab seen S (ars.take j) k f) := ⟨_, rfl⟩
            have hok : Hid (okS R) := by show okS R; rw [HR.out]; exact okS_lTab hSok.out _ _ _
            have hok2 : Hid (okS (S t)) := hSok.out t
            rw [← HR.out] at t0 t1 t2 t3
            have LVd := Hid.of LV.out.drew
            have HAd : Hid (Blk V.drew wr.heap.size 58 #[.int .i64 f, .int .i64 e, .int .i64 t]) := HAV.out
            clear LV
            have hpg : ¬ pg = w.heap.size + 1 + 1 + k := by omega
            have hwr : ¬ wr.heap.size = w.heap.size + 1 + 1 + k := by omega
            have hgk : ¬ w.heap.size + 1 = w.heap.size + 1 + 1 + k := by omega
            go_wp2
            refine wp_region_held_drew (S := fun w' => w'.cell? ⟨w.heap.size + 1, k, none⟩ = some (.slice (some ⟨w.heap.size + 1 + 1 + k, 0, none⟩) st st) ∧ w'.cell? ⟨wr.heap.size, 0, none⟩ = some (.int .i64 f) ∧ w'.cell? ⟨wr.heap.size, 2, none⟩ = some (.int .i64 t) ∧ w'.cell? ⟨pg, t * 4, none⟩ = some (.int .u64 (S t 0)) ∧ w'.cell? ⟨pg, t * 4 + 1, none⟩ = some (.int .u64 (S t 1)) ∧ w'.cell? ⟨pg, t * 4 + 2, none⟩ = some (.int .u64 (S t 2)) ∧ w'.cell? ⟨pg, t * 4 + 3, none⟩ = some (.int .u64 (S t 3))) (by kernel_rfl) ⟨r0, d1, d2, s0, s1, s2, s3⟩ (fun hSd => ?_)
            refine wpAnyH_take (i := 0) (v := .slice (some ⟨w.heap.size + 1, 0, none⟩) K K) rfl (by kernel_rfl) (by kernel_rfl) (by kernel_rfl) (fun _ _ _ h => h) (Or.inl ⟨by kernel_rfl, fun w' hw' => by obtain ⟨q0, q1, q2, q3, q4, q5, q6⟩ := hw'; go_simp⟩) hSd ?_
            refine wpAnyH_take (i := 1) (v := .int .i64 k) rfl (by kernel_rfl) (by kernel_rfl) (by kernel_rfl) (fun _ _ _ h => h) (Or.inl ⟨by kernel_rfl, fun w' hw' => by obtain ⟨q0, q1, q2, q3, q4, q5, q6⟩ := hw'; go_simp⟩) hSd ?_
            refine wpAnyH_take (i := 2) (v := .pointer (some ⟨w.heap.size + 1, k, none⟩)) rfl (by kernel_rfl) (by kernel_rfl) (by kernel_rfl) (fun _ _ _ h => h) (Or.inl ⟨by kernel_rfl, fun w' hw' => by obtain ⟨q0, q1, q2, q3, q4, q5, q6⟩ := hw'; go_simp⟩) hSd ?_
            refine wpAnyH_take (i := 3) (v := .slice (some ⟨w.heap.size + 1 + 1 + k, 0, none⟩) st st) rfl (by kernel_rfl) (by kernel_rfl) (by kernel_rfl) (fun _ _ _ h => h) (Or.inl ⟨by kernel_rfl, fun w' hw' => by obtain ⟨q0, q1, q2, q3, q4, q5, q6⟩ := hw'; go_simp⟩) hSd ?_
            refine wpAnyH_take (i := 4) (v := .pointer (some ⟨wr.heap.size, 0, none⟩)) rfl (by kernel_rfl) (by kernel_rfl) (by kernel_rfl) (fun _ _ _ h => h) (Or.inl ⟨by kernel_rfl, fun w' hw' => by obtain ⟨q0, q1, q2, q3, q4, q5, q6⟩ := hw'; go_simp⟩) hSd ?_
            refine wpAnyH_take (i := 5) (v := .int .i64 f) rfl (by kernel_rfl) (by kernel_rfl) (by kernel_rfl) (fun _ _ _ h => h) (Or.inl ⟨by kernel_rfl, fun w' hw' => by obtain ⟨q0, q1, q2, q3, q4, q5, q6⟩ := hw'; go_simp⟩) hSd ?_
            refine wpAnyH_take (i := 6) (v := .slice (some ⟨w.heap.size + 1, 0, none⟩) K K) rfl (by kernel_rfl) (by kernel_rfl) (by kernel_rfl) (fun _ _ _ h => h) (Or.inl ⟨by kernel_rfl, fun w' hw' => by obtain ⟨q0, q1, q2, q3, q4, q5, q6⟩ := hw'; go_simp⟩) hSd ?_
            refine wpAnyH_take (i := 7) (v := .int .i64 k) rfl (by kernel_rfl) (by kernel_rfl) (by kernel_rfl) (fun _ _ _ h => h) (Or.inl ⟨by kernel_rfl, fun w' hw' => by obtain ⟨q0, q1, q2, q3, q4, q5, q6⟩ := hw'; go_simp⟩) hSd ?_
            refine wpAnyH_take (i := 8) (v := .pointer (some ⟨w.heap.size + 1, k, none⟩)) rfl (by kernel_rfl) (by kernel_rfl) (by kernel_rfl) (fun _ _ _ h => h) (Or.inl ⟨by kernel_rfl, fun w' hw' => by obtain ⟨q0, q1, q2, q3, q4, q5, q6⟩ := hw'; go_simp⟩) hSd ?_
            refine wpAnyH_take (i := 9) (v := .slice (some ⟨w.heap.size + 1 + 1 + k, 0, none⟩) st st) rfl (by kernel_rfl) (by kernel_rfl) (by kernel_rfl) (fun _ _ _ h => h) (Or.inl ⟨by kernel_rfl, fun w' hw' => by obtain ⟨q0, q1, q2, q3, q4, q5, q6⟩ := hw'; go_simp⟩) hSd ?_
            refine wpAnyH_take (i := 10) (v := .pointer (some ⟨wr.heap.size, 0, none⟩)) rfl (by kernel_rfl) (by kernel_rfl) (by kernel_rfl) (fun _ _ _ h => h) (Or.inl ⟨by kernel_rfl, fun w' hw' => by obtain ⟨q0, q1, q2, q3, q4, q5, q6⟩ := hw'; go_simp⟩) hSd ?_
            refine wpAnyH_take (i := 11) (v := .int .i64 f) rfl (by kernel_rfl) (by kernel_rfl) (by kernel_rfl) (fun _ _ _ h => h) (Or.inl ⟨by kernel_rfl, fun w' hw' => by obtain ⟨q0, q1, q2, q3, q4, q5, q6⟩ := hw'; go_simp⟩) hSd ?_
            refine wpAnyH_take (i := 12) (v := .pointer (some ⟨w.heap.size + 1 + 1 + k, f * 4, none⟩)) rfl (by kernel_rfl) (by kernel_rfl) (by kernel_rfl) (fun _ _ _ h => h) (Or.inl ⟨by kernel_rfl, fun w' hw' => by obtain ⟨q0, q1, q2, q3, q4, q5, q6⟩ := hw'; go_simp⟩) hSd ?_
            refine wpAnyH_take (i := 14) (v := .slice (some ⟨pg, 0, none⟩) st st) rfl (by kernel_rfl) (by kernel_rfl) (by kernel_rfl) (fun _ _ _ h => h) (Or.inl ⟨by kernel_rfl, fun w' hw' => by obtain ⟨q0, q1, q2, q3, q4, q5, q6⟩ := hw'; go_simp⟩) hSd ?_
            refine wpAnyH_take (i := 15) (v := .pointer (some ⟨wr.heap.size, 2, none⟩)) rfl (by kernel_rfl) (by kernel_rfl) (by kernel_rfl) (fun _ _ _ h => h) (Or.inl ⟨by kernel_rfl, fun w' hw' => by obtain ⟨q0, q1, q2, q3, q4, q5, q6⟩ := hw'; go_simp⟩) hSd ?_
            refine wpAnyH_take (i := 16) (v := .int .i64 t) rfl (by kernel_rfl) (by kernel_rfl) (by kernel_rfl) (fun _ _ _ h => h) (Or.inl ⟨by kernel_rfl, fun w' hw' => by obtain ⟨q0, q1, q2, q3, q4, q5, q6⟩ := hw'; go_simp⟩) hSd ?_
            refine wpAnyH_take (i := 17) (v := .pointer (some ⟨pg, t * 4, none⟩)) rfl (by kernel_rfl) (by kernel_rfl) (by kernel_rfl) (fun _ _ _ h => h) (Or.inl ⟨by kernel_rfl, fun w' hw' => by obtain ⟨q0, q1, q2, q3, q4, q5, q6⟩ := hw'; go_simp⟩) hSd ?_
            refine wpAnyH_take (i := 18) (v := sval (S t)) rfl (by kernel_rfl) (by kernel_rfl) (by kernel_rfl) (fun _ _ _ h => h) (Or.inl ⟨by kernel_rfl, fun w' hw' => by obtain ⟨q0, q1, q2, q3, q4, q5, q6⟩ := hw'; go_simp⟩) hSd ?_
            simp only [Act.put, List.setIfInBounds_toArray]
            refine wpAnyH_ready (rs := [13]) (by kernel_rfl) (by simp) ?_
            refine AllReadyH.cons rfl (fun K' hK' => ?_) AllReadyH.nil
            go_simp
            refine hK'.out _ _ hSd (fun _ => ?_)
            clear hK' K'
            refine wpAnyH_ready (rs := [19]) (by kernel_rfl) (by simp) ?_
            refine AllReadyH.cons rfl (fun K' hK' => ?_) AllReadyH.nil
            go_simp
            refine (join_any R (S t) _ hok.out hok2.out).mono ?_
            rintro e' w1 ⟨rfl, hb1⟩
            have L9 := LVd.out.below hb1
            have A9 := HAd.out.below hb1 (show _ < V.heap.size by omega)
            have T9 := hS.out.below L9.bel hS.out.lt
            obtain ⟨v0, v1, v2, v3⟩ := (L9.t2.tb k hkK).cells hf
            rw [← HR.out] at v0 v1 v2 v3
            have fz := (L9.t2.tb k hkK).frozen
            have L10 := L9.store hkK hf (joinS R (S t))
            have A10 := Blk.other4' A9 (f * 4) hwr (.int .u64 (joinS R (S t) 0)) (.int .u64 (joinS R (S t) 1)) (.int .u64 (joinS R (S t) 2)) (.int .u64 (joinS R (S t) 3))
            have T10 := T9.other4' (f * 4) hpg (.int .u64 (joinS R (S t) 0)) (.int .u64 (joinS R (S t) 1)) (.int .u64 (joinS R (S t) 2)) (.int .u64 (joinS R (S t) 3))
            refine hK'.out _ _ ⟨L9.t2.row hkK, A9.cell 0 rfl, A9.cell 2 rfl, T9.cells ht⟩ (fun hS1 => ?_)
            clear hK' K'
            refine wpAnyH_take (i := 20) (v := .pointer (some ⟨w.heap.size + 1 + 1 + k, f * 4, none⟩)) rfl (by kernel_rfl) (by kernel_rfl) (by kernel_rfl) (fun _ _ _ h => h) (Or.inl ⟨by kernel_rfl, fun w' hw' => by obtain ⟨q0, q1, q2, q3, q4, q5, q6⟩ := hw'; go_simp⟩) hS1 ?_
            refine wpAnyH_ready (rs := [21]) (by kernel_rfl) (by simp) ?_
            refine AllReadyH.cons rfl (fun K' hK' => ?_) AllReadyH.nil
            clear t0 t1 t2 t3 s0 s1 s2 s3 r0 d1 d2 L9 A9 T9 hb1 hSd
            go_simp
            refine hK'.out _ _ ⟨L10.t2.row hkK, A10.cell 0 rfl, A10.cell 2 rfl, T10.cells ht⟩ (fun _ => ?_)
            clear hK' K' A10 T10 v0 v1 v2 v3 fz hS1
            refine wpAnyH_done (by kernel_rfl) ?_ _
            have L11 := Hid.of L10
            clear L10 LVd HAd HAV
            revert L11
            generalize ((((w1.setCell ⟨w.heap.size + 1 + 1 + k, f * 4, none⟩ (.int .u64 (joinS R (S t) 0))).setCell ⟨w.heap.size + 1 + 1 + k, f * 4 + 1, none⟩ (.int .u64 (joinS R (S t) 1))).setCell ⟨w.heap.size + 1 + 1 + k, f * 4 + 2, none⟩ (.int .u64 (joinS R (S t) 2))).setCell ⟨w.heap.size + 1 + 1 + k, f * 4 + 3, none⟩ (.int .u64 (joinS R (S t) 3))) = X
            intro L11
            go_wp2
            go_roundw
            case rel =>
              refine ⟨j + 1, by omega, by go_num, ?_⟩
              rw [HN.out, ← HR.out]; exact L11
            case measure => simp [intOf]; omega
        · have hj2 : ars.length = j := by omega
          subst hj2
          rw [List.take_of_length_le (Nat.le_refl _)] at LL
          go_wp2
          go_ret
          exact ⟨rfl, LL.out.t2, LL.out.bel⟩

end Go.Proofs.YtbdkaobbfmgnhaaDoor
