/-
  The walk of hide.quiet: of each state, where unseen events lead to.
-/
import Derived.Test.YtbdkaobbfmgnhaaDoorG14
import Derived.Test.YtbdkaobbfmgnhaaDoorCSetOps
import Derived.Test.YtbdkaobbfmgnhaaDoorG08
import Derived.Test.YtbdkaobbfmgnhaaDoorG37
namespace Go.Proofs.YtbdkaobbfmgnhaaDoor
open Go.RowKit
set_option linter.unusedVariables false

/-- What quiet knows of the memory: the machine, the table, and that nothing else has turned. -/
structure QI (w W : World) (m : Mach) (l : ML) (N : Nat) (T : Nat → Nat → Nat) : Prop where
  blk : Blk W w.heap.size 25 (mcells m l)
  tb : TB W (w.heap.size + 1) N T
  bel : Below w.heap.size w W
theorem QI.below {w W W' : World} {m : Mach} {l : ML} {N : Nat} {T : Nat → Nat → Nat} (h : QI w W m l N T) (hb : Below W.heap.size W W') : QI w W' m l N T :=
  ⟨h.blk.below hb h.blk.lt, h.tb.below hb h.tb.lt, h.bel.trans (hb.mono h.bel.size)⟩
theorem QI.drew {w W : World} {m : Mach} {l : ML} {N : Nat} {T : Nat → Nat → Nat} (h : QI w W m l N T) : QI w W.drew m l N T := ⟨h.blk, h.tb, h.bel.drew⟩
theorem QI.alloc {w W : World} {m : Mach} {l : ML} {N : Nat} {T : Nat → Nat → Nat} (h : QI w W m l N T) (o : Obj) : QI w (W.alloc o) m l N T := h.below ((Below.refl _ _).alloc (Nat.le_refl _) o)
theorem QI.store {w W : World} {m : Mach} {l : ML} {N p : Nat} {T : Nat → Nat → Nat} (h : QI w W m l N T) (hp : p < N) (U : Nat → Nat) :
    QI w ((((W.setCell ⟨w.heap.size + 1, p * 4, none⟩ (.int .u64 (U 0))).setCell ⟨w.heap.size + 1, p * 4 + 1, none⟩ (.int .u64 (U 1))).setCell ⟨w.heap.size + 1, p * 4 + 2, none⟩ (.int .u64 (U 2))).setCell ⟨w.heap.size + 1, p * 4 + 3, none⟩ (.int .u64 (U 3))) m l N (fun q => if q = p then U else T q) :=
  ⟨Blk.other4' h.blk (p * 4) (by omega) _ _ _ _, TB.store h.tb hp U, below_set4' h.bel (p * 4) (by omega) _ _ _ _⟩
theorem QI.lt {w W : World} {m : Mach} {l : ML} {N : Nat} {T : Nat → Nat → Nat} (h : QI w W m l N T) : w.heap.size < W.heap.size ∧ w.heap.size + 1 < W.heap.size := ⟨h.blk.lt, h.tb.lt⟩
theorem ini_succ (k : Nat) : iniT (k + 1) = fun q => if q = k then withS zeroS k else iniT k q := by
  funext q
  unfold iniT
  by_cases h : q = k
  · subst h; simp
  · have : (q < k + 1) ↔ q < k := by omega
    simp [h, this]
theorem ini_zero : iniT 0 = fun _ => zeroS := by funext q; simp [iniT]
theorem ini_at (k : Nat) : iniT k k = zeroS := by simp [iniT]
theorem meet_one {S : Nat → Nat} (h : okS S) {k : Nat} (hk : k < 256) : meetB S (withS zeroS k) = hasS S k := by
  have h1 : ∀ j, j < 4 → (S j &&& withS zeroS k j = 0 ↔ ¬ (j = k / 64 ∧ hasS S k = true)) := by
    intro j hj
    rw [meet_word (h j)]
    constructor
    · rintro h2 ⟨rfl, h3⟩
      refine h2 (k % 64) (by omega) ⟨h3, ?_⟩
      simp [withS, zeroS]
    · intro h2 i hi h3
      have h4 := h3.2
      unfold withS at h4
      by_cases e : j = k / 64
      · rw [if_pos e] at h4
        have : i = k % 64 := by
          simp [zeroS, Nat.testBit_two_pow] at h4; omega
        subst this
        exact h2 ⟨e, by unfold hasS; rw [← e]; exact h3.1⟩
      · rw [if_neg e] at h4; simp [zeroS] at h4
  unfold meetB
  have h64 : k / 64 < 4 := by omega
  have e : (S 0 &&& withS zeroS k 0 = 0 ∧ S 1 &&& withS zeroS k 1 = 0 ∧ S 2 &&& withS zeroS k 2 = 0 ∧ S 3 &&& withS zeroS k 3 = 0) ↔ hasS S k = false := by
    rw [h1 0 (by omega), h1 1 (by omega), h1 2 (by omega), h1 3 (by omega)]
    have : k / 64 = 0 ∨ k / 64 = 1 ∨ k / 64 = 2 ∨ k / 64 = 3 := by omega
    cases hasS S k <;> rcases this with h | h | h | h <;> simp [h]
  cases hb : hasS S k with
  | true => exact decide_eq_true (fun h => by have := e.1 h; rw [hb] at this; cases this)
  | false => exact decide_eq_false (fun h => h (e.2 hb))

set_option maxRecDepth 100000 in
set_option maxHeartbeats 4000000 in
theorem quiet_any (st : Nat) (ev : Int) (starts : List Int) (ars : List Arr) (ends : List Int) (a1 : Option Addr) (c1 : Nat) (a2 : Option Addr) (c2 : Nat) (a3 : Option Addr) (c3 : Nat) (sa : Option Addr) (sc : Nat) (seen : List Int) (w : World) (hst : st ≤ 256) (hlen : ars.length ≤ 4096) (hA : Hid (AtA w a2 ars)) (hin : Hid (∀ a ∈ ars, (0 ≤ a.f ∧ a.f < st) ∧ 0 ≤ a.t ∧ a.t < st)) (hs : Hid (At w sa seen)) (hsl : Hid (seen.length ≤ maxLen)) :
    Calls Tryd.prog 69 #[mval ⟨st, ev, starts, ars, ends⟩ ⟨a1, c1, a2, c2, a3, c3⟩, .slice sa seen.length sc] w fun e w' => e = .returned (.slice (some ⟨w.heap.size + 1, 0, none⟩) st st) ∧ TB w' (w.heap.size + 1) st (stillT seen st ars) ∧ Below w.heap.size w w' := by
  obtain ⟨i0, hi, hz0, hz1, hz2⟩ := info_parts Tryd.infoSet
  have hmk : ∀ w : World, (Instr.makeSlice 87 (.int .i64 st) (.int .i64 st)).run Tryd.prog w = .ok (.slice (some ⟨w.heap.size, 0, none⟩) st st) (w.alloc (.cells (madeCells #[.int .u64 0, .int .u64 0, .int .u64 0, .int .u64 0] (st * 4)) 62)) := fun w => by
    have := run_make (P := Tryd.prog) w 87 62 i0 (sval zeroS) Tryd.underlying87 hi hz0 .i64 .i64 st st (by omega) (by omega) (by rw [hz2]; omega) (by omega)
    rw [hz1, Int.toNat_natCast] at this
    exact this
  clear hi hz0 hz1 hz2
  have Q0 : Hid (QI w ((w.alloc (.cells (mcells ⟨st, ev, starts, ars, ends⟩ ⟨a1, c1, a2, c2, a3, c3⟩) 25)).alloc (.cells (madeCells #[.int .u64 0, .int .u64 0, .int .u64 0, .int .u64 0] (st * 4)) 62)) ⟨st, ev, starts, ars, ends⟩ ⟨a1, c1, a2, c2, a3, c3⟩ st (iniT 0)) := by
    refine ⟨(Blk.new w _ _).alloc _, ?_, ((Below.refl _ _).alloc (Nat.le_refl _) _).alloc (by simp) _⟩
    rw [ini_zero]
    refine TB.made ?_
    have := Blk.new (w.alloc (.cells (mcells ⟨st, ev, starts, ars, ends⟩ ⟨a1, c1, a2, c2, a3, c3⟩) 25)) 62 (madeCells #[.int .u64 0, .int .u64 0, .int .u64 0, .int .u64 0] (st * 4))
    rwa [World.size_alloc] at this
  go_enter Tryd.func69, Tryd.ntmps69
  go_wp2
  revert Q0
  generalize (w.alloc (.cells (mcells ⟨st, ev, starts, ars, ends⟩ ⟨a1, c1, a2, c2, a3, c3⟩) 25)).alloc (.cells (madeCells #[.int .u64 0, .int .u64 0, .int .u64 0, .int .u64 0] (st * 4)) 62) = W0
  intro Q0
  go_loopw [17] (fun i wr => ∃ k : Nat, k ≤ st ∧ i = .int .i64 k ∧ Hid (QI w wr ⟨st, ev, starts, ars, ends⟩ ⟨a1, c1, a2, c2, a3, c3⟩ st (iniT k))) (fun i _ => st - (intOf i).toNat)
  case atStart => exact ⟨0, by omega, rfl, Q0⟩
  case round =>
    obtain ⟨k, hk, rfl, QQ⟩ := hrel
    by_cases hlt : k < st
    · obtain ⟨t0, t1, t2, t3⟩ := QQ.out.tb.cells hlt
      rw [ini_at] at t0 t1 t2 t3
      have hk0 : (0 : Int) ≤ (k : Int) := by omega
      have hkI : (k : Int) < (st : Int) := by omega
      go_wp2_with fail
      refine (with_any zeroS k _ okS_zero hk0 (by omega)).mono ?_
      rintro e w1 ⟨rfl, hb1⟩
      rw [Int.toNat_natCast]
      have Q1 := QQ.out.below hb1
      obtain ⟨v0, v1, v2, v3⟩ := Q1.tb.cells hlt
      have fz := Q1.tb.frozen
      have Q2 := Hid.of (Q1.store hlt (withS zeroS k))
      rw [← ini_succ] at Q2
      clear Q1 hb1 QQ t0 t1 t2 t3
      go_wp2
      go_roundw
      case rel => exact ⟨k + 1, by omega, by go_num, Q2⟩
      case measure => simp [intOf]; omega
    · have hk : st = k := by omega
      subst hk
      obtain ⟨x0, x1, x2, x3, x4⟩ := (⟨QQ.out.blk.cell 0 rfl, QQ.out.blk.cell 1 rfl, QQ.out.blk.cell 2 rfl, QQ.out.blk.cell 3 rfl, QQ.out.blk.cell 4 rfl⟩ : _ ∧ _ ∧ _ ∧ _ ∧ _)
      have Q3 : Hid (QI w wr ⟨st, ev, starts, ars, ends⟩ ⟨a1, c1, a2, c2, a3, c3⟩ st (qTab seen st (ars.take 0))) := QQ
      clear Q0 hmk QQ
      go_wp2
      go_loopw [33] (fun i wr => ∃ j : Nat, j ≤ ars.length ∧ i = .int .i64 j ∧ Hid (QI w wr ⟨st, ev, starts, ars, ends⟩ ⟨a1, c1, a2, c2, a3, c3⟩ st (qTab seen st (ars.take j)))) (fun i _ => ars.length - (intOf i).toNat)
      case atStart => exact ⟨0, by omega, rfl, Q3⟩
      case round =>
        obtain ⟨j, hj, rfl, QQ⟩ := hrel
        by_cases hlt : j < ars.length
        · rcases hA.out with h0 | ⟨b, off, rfl, hb, hca⟩
          · rw [h0] at hlt; simp at hlt
          obtain ⟨a, HA, y1, y2, y3⟩ := hca.at hlt
          have hia : (0 ≤ a.f ∧ a.f < st) ∧ 0 ≤ a.t ∧ a.t < st := by
            have h := HA.out
            rw [List.getElem?_eq_getElem hlt, Option.getD_some] at h
            rw [h]; exact hin.out _ (List.getElem_mem hlt)
          obtain ⟨f, ef⟩ : ∃ f : Nat, a.f = (f : Int) := ⟨a.f.toNat, by omega⟩
          obtain ⟨e, ee⟩ : ∃ e : Int, a.e = e := ⟨_, rfl⟩
          obtain ⟨t, et⟩ : ∃ t : Nat, a.t = (t : Int) := ⟨a.t.toNat, by omega⟩
          rw [ef] at y1
          rw [ee] at y2
          rw [et] at y3
          have hf : f < st := by omega
          have ht : t < st := by omega
          have HN1 : hasB seen e = true → Hid (qTab seen st (ars.take (j + 1)) = qTab seen st (ars.take j)) := fun h => by
            show _ = _
            rw [qTab_take hlt HA]; unfold qStep; rw [ee, if_pos h]
          have HN2 : hasB seen e = false → Hid (qTab seen st (ars.take (j + 1)) = fun r => if r = f then withS (qTab seen st (ars.take j) f) t else qTab seen st (ars.take j) r) := fun h => by
            show _ = _
            rw [qTab_take hlt HA]; unfold qStep; rw [ee, if_neg (by rw [h]; simp)]
            funext r
            simp only [tabKStep, ef, et, Int.toNat_natCast]
            by_cases e : r = f
            · subst e; simp only [if_true]
            · rw [if_neg e, if_neg e]
          have hp0 : (0 : Int) ≤ (f : Int) := by omega
          have hpI : (f : Int) < (st : Int) := by omega
          clear hia ef ee et HA
          have z1 := (QQ.out.bel.cell (p := ⟨b, off + j * 3, none⟩) hb).trans y1
          have z2 := (QQ.out.bel.cell (p := ⟨b, off + j * 3 + 1, none⟩) hb).trans y2
          have z3 := (QQ.out.bel.cell (p := ⟨b, off + j * 3 + 2, none⟩) hb).trans y3
          have QV := Hid.of (QQ.out.alloc (.cells #[.int .i64 f, .int .i64 e, .int .i64 t] 58))
          have HAV := Hid.of (Blk.new wr 58 #[.int .i64 f, .int .i64 e, .int .i64 t])
          have HSZ : Hid ((wr.alloc (.cells #[.int .i64 f, .int .i64 e, .int .i64 t] 58)).heap.size = wr.heap.size + 1) := World.size_alloc _ _
          have l1 := QQ.out.lt
          clear y1 y2 y3 hca QQ
          try clear x0 x1 x2 x3 x4
          go_wp2_with fail
          revert QV HAV HSZ
          generalize wr.alloc (.cells #[.int .i64 f, .int .i64 e, .int .i64 t] 58) = V
          intro QV HAV HSZ
          refine (rowHas_any sa sc seen e _ (hs.out.below QV.out.bel (Nat.le_refl _)) hsl.out).mono ?_
          rintro e' V ⟨rfl, rfl⟩
          clear z1 z2 z3
          cases hh : hasB seen e with
          | true =>
            have HN := HN1 hh
            clear HN1 HN2 HAV HSZ hh
            go_wp2
            go_roundw
            case rel =>
              refine ⟨j + 1, by omega, by go_num, ?_⟩
              rw [HN.out]; exact QV
            case measure => simp [intOf]; omega
          | false =>
            have HN := HN2 hh
            clear HN1 HN2 hh
            obtain ⟨t0, t1, t2, t3⟩ := QV.out.tb.cells hf
            have d1 : V.cell? ⟨wr.heap.size, 0, none⟩ = some (.int .i64 f) := HAV.out.cell 0 rfl
            have d2 : V.cell? ⟨wr.heap.size, 2, none⟩ = some (.int .i64 t) := HAV.out.cell 2 rfl
            have hsz := HSZ.out
            obtain ⟨R, HR⟩ : ∃ R, Hid (R = qTab seen st (ars.take j) f) := ⟨_, rfl⟩
            have hok : Hid (okS R) := by show okS R; rw [HR.out]; exact okS_qTab _ _ _ _
            rw [← HR.out] at t0 t1 t2 t3
            have QVd := Hid.of QV.out.drew
            have HAd : Hid (Blk V.drew wr.heap.size 58 #[.int .i64 f, .int .i64 e, .int .i64 t]) := HAV.out
            have hne1 : ¬ w.heap.size + 1 = wr.heap.size := by omega
            have hne2 : ¬ wr.heap.size = w.heap.size + 1 := by omega
            clear QV
            go_wp2
            go_region_with (go_at_call 95; refine (with_any R t _ hok.out (by omega) (by omega)).mono ?_; rintro e' w1 ⟨rfl, hb1⟩; have QW := Hid.of (QVd.out.below hb1); obtain ⟨v0, v1, v2, v3⟩ := QW.out.tb.cells hf; rw [← HR.out] at v0 v1 v2 v3; have fz := QW.out.tb.frozen; have d3 : w1.cell? ⟨wr.heap.size, 0, none⟩ = some (.int .i64 f) := (Blk.below HAd.out hb1 (show _ < V.heap.size by omega)).cell 0 rfl; have d4 : w1.cell? ⟨wr.heap.size, 2, none⟩ = some (.int .i64 t) := (Blk.below HAd.out hb1 (show _ < V.heap.size by omega)).cell 2 rfl)
            all_goals
              have Q4 := Hid.of (QW.out.store hf (withS R t))
              clear v0 v1 v2 v3 d1 d2 d3 d4 fz hb1 QW QVd HAd t0 t1 t2 t3
              revert Q4
              generalize ((((w1.setCell ⟨w.heap.size + 1, f * 4, none⟩ (.int .u64 (withS R t 0))).setCell ⟨w.heap.size + 1, f * 4 + 1, none⟩ (.int .u64 (withS R t 1))).setCell ⟨w.heap.size + 1, f * 4 + 2, none⟩ (.int .u64 (withS R t 2))).setCell ⟨w.heap.size + 1, f * 4 + 3, none⟩ (.int .u64 (withS R t 3))) = X
              intro Q4
              go_wp2
              go_roundw
              case rel =>
                refine ⟨j + 1, by omega, by go_num, ?_⟩
                rw [HN.out, ← HR.out]; exact Q4
              case measure => simp [intOf]; omega
        · have hj2 : ars.length = j := by omega
          subst hj2
          rw [List.take_of_length_le (Nat.le_refl _)] at QQ
          obtain ⟨x0, x1, x2, x3, x4⟩ := (⟨QQ.out.blk.cell 0 rfl, QQ.out.blk.cell 1 rfl, QQ.out.blk.cell 2 rfl, QQ.out.blk.cell 3 rfl, QQ.out.blk.cell 4 rfl⟩ : _ ∧ _ ∧ _ ∧ _ ∧ _)
          clear Q3
          have Q5 : Hid (QI w wr ⟨st, ev, starts, ars, ends⟩ ⟨a1, c1, a2, c2, a3, c3⟩ st (fOut (qTab seen st ars) st 0)) := QQ
          have HOK : Hid (∀ k p, okS (fOut (qTab seen st ars) st k p)) := fun k p => okS_fOut (okS_qTab seen st ars) st k p
          have HSU : Hid (∀ k, fOut (qTab seen st ars) st (k + 1) = fIn (fOut (qTab seen st ars) st k) k st) := fun k => rfl
          have HST : Hid (fOut (qTab seen st ars) st st = stillT seen st ars) := rfl
          clear QQ
          generalize fOut (qTab seen st ars) st = FO at *
          go_wp2
          go_loopw [57] (fun i wr => ∃ k : Nat, k ≤ st ∧ i = .int .i64 k ∧ Hid (QI w wr ⟨st, ev, starts, ars, ends⟩ ⟨a1, c1, a2, c2, a3, c3⟩ st (FO k))) (fun i _ => st - (intOf i).toNat)
          case atStart => exact ⟨0, by omega, rfl, Q5⟩
          case round =>
            try clear x0 x1 x2 x3 x4
            obtain ⟨k, hk, rfl, QQ⟩ := hrel
            by_cases hlt : k < st
            · have hk0 : (0 : Int) ≤ (k : Int) := by omega
              have hkI : (k : Int) < (st : Int) := by omega
              go_wp2_with fail
              refine (with_any zeroS k _ okS_zero hk0 (by omega)).mono ?_
              rintro e w1 ⟨rfl, hb1⟩
              rw [Int.toNat_natCast]
              have Q1 := QQ.out.below hb1
              have hl1 := Q1.lt
              have Q6 := Hid.of (Q1.alloc (.cells #[.int .u64 (withS zeroS k 0), .int .u64 (withS zeroS k 1), .int .u64 (withS zeroS k 2), .int .u64 (withS zeroS k 3)] 62))
              have S6 : Hid (SB (w1.alloc (.cells #[.int .u64 (withS zeroS k 0), .int .u64 (withS zeroS k 1), .int .u64 (withS zeroS k 2), .int .u64 (withS zeroS k 3)] 62)) w1.heap.size (withS zeroS k)) := Blk.new w1 62 _
              obtain ⟨x0, x1, x2, x3, x4⟩ := (⟨Q6.out.blk.cell 0 rfl, Q6.out.blk.cell 1 rfl, Q6.out.blk.cell 2 rfl, Q6.out.blk.cell 3 rfl, Q6.out.blk.cell 4 rfl⟩ : _ ∧ _ ∧ _ ∧ _ ∧ _)
              clear Q1 hb1 QQ
              go_wp2
              revert Q6 S6
              generalize w1.alloc (.cells #[.int .u64 (withS zeroS k 0), .int .u64 (withS zeroS k 1), .int .u64 (withS zeroS k 2), .int .u64 (withS zeroS k 3)] 62) = W6
              intro Q6 S6
              obtain ⟨bI, hbI⟩ : ∃ bI, bI = w1.heap.size := ⟨_, rfl⟩
              rw [← hbI] at S6 hl1 ⊢
              clear hbI
              go_loopw [65] (fun i wr => ∃ j : Nat, j ≤ st ∧ i = .int .i64 j ∧ Hid (QI w wr ⟨st, ev, starts, ars, ends⟩ ⟨a1, c1, a2, c2, a3, c3⟩ st (fIn (FO k) k j)) ∧ Hid (SB wr bI (withS zeroS k))) (fun i _ => st - (intOf i).toNat)
              case atStart => exact ⟨0, by omega, rfl, by rw [fIn_zero]; exact Q6, S6⟩
              case round =>
                clear Q6 S6
                try clear x0 x1 x2 x3 x4
                obtain ⟨j, hj, rfl, QJ, SJ⟩ := hrel
                by_cases hjt : j < st
                · obtain ⟨t0, t1, t2, t3⟩ := QJ.out.tb.cells hjt
                  rw [fIn_at] at t0 t1 t2 t3
                  obtain ⟨s0, s1, s2, s3⟩ := SB.cells SJ.out
                  have hok : Hid (okS (FO k j)) := HOK.out k j
                  have hok2 : Hid (okS (withS zeroS k)) := okS_with okS_zero k
                  have hok3 : Hid (okS (FO k k)) := HOK.out k k
                  have QJd := Hid.of QJ.out.drew
                  have SJd : Hid (SB wr.drew bI (withS zeroS k)) := SJ.out
                  have hj0 : (0 : Int) ≤ (j : Int) := by omega
                  have hjI : (j : Int) < (st : Int) := by omega
                  cases hh : hasS (FO k j) k with
                  | true =>
                    have HM : Hid (meetB (FO k j) (withS zeroS k) = true) := by show _ = _; rw [meet_one hok.out (by omega)]; exact hh
                    have HF := Hid.of (fIn_yes hh)
                    clear hh QJ SJ
                    go_wp2
                    go_region_with (go_at_call 51; refine (meets_any (FO k j) (withS zeroS k) _ hok.out hok2.out).mono ?_; rintro e' w2 ⟨rfl, hb2⟩; rw [HM.out])
                    all_goals
                      have Q2 := QJd.out.below hb2
                      have S2 := SJd.out.below hb2 SJd.out.lt
                      have Q2d := Hid.of Q2.drew
                      have S2d : Hid (SB w2.drew bI (withS zeroS k)) := S2
                      have l2 := Q2.lt
                      clear t0 t1 t2 t3 s0 s1 s2 s3 hb2
                      obtain ⟨t0, t1, t2, t3⟩ := Q2.tb.cells hjt
                      rw [fIn_at] at t0 t1 t2 t3
                      obtain ⟨r0, r1, r2, r3⟩ := Q2.tb.cells hlt
                      rw [fIn_mid] at r0 r1 r2 r3
                      clear Q2 S2
                      go_wp2
                      go_region_with (go_at_call 111; refine (join_any (FO k j) (FO k k) _ hok.out hok3.out).mono ?_; rintro e' w3 ⟨rfl, hb3⟩; have QW := Hid.of (Q2d.out.below hb3); have SW := Hid.of (S2d.out.below hb3 S2d.out.lt); obtain ⟨v0, v1, v2, v3⟩ := QW.out.tb.cells hjt; rw [fIn_at] at v0 v1 v2 v3; have fz := QW.out.tb.frozen)
                      all_goals
                        have Q4 := Hid.of (QW.out.store hjt (joinS (FO k j) (FO k k)))
                        have S4 := Hid.of (Blk.other4' SW.out (j * 4) (b' := w.heap.size + 1) (by omega) (.int .u64 (joinS (FO k j) (FO k k) 0)) (.int .u64 (joinS (FO k j) (FO k k) 1)) (.int .u64 (joinS (FO k j) (FO k k) 2)) (.int .u64 (joinS (FO k j) (FO k k) 3)))
                        clear v0 v1 v2 v3 fz hb3 QW SW Q2d S2d QJd SJd t0 t1 t2 t3 r0 r1 r2 r3
                        revert Q4 S4
                        generalize ((((w3.setCell ⟨w.heap.size + 1, j * 4, none⟩ (.int .u64 (joinS (FO k j) (FO k k) 0))).setCell ⟨w.heap.size + 1, j * 4 + 1, none⟩ (.int .u64 (joinS (FO k j) (FO k k) 1))).setCell ⟨w.heap.size + 1, j * 4 + 2, none⟩ (.int .u64 (joinS (FO k j) (FO k k) 2))).setCell ⟨w.heap.size + 1, j * 4 + 3, none⟩ (.int .u64 (joinS (FO k j) (FO k k) 3))) = X
                        intro Q4 S4
                        go_wp2
                        go_roundw
                        case rel =>
                          refine ⟨j + 1, by omega, by go_num, ?_, S4⟩
                          rw [HF.out]; exact Q4
                        case measure => simp [intOf]; omega
                  | false =>
                    have HM : Hid (meetB (FO k j) (withS zeroS k) = false) := by show _ = _; rw [meet_one hok.out (by omega)]; exact hh
                    have HF := Hid.of (fIn_no hh)
                    clear hh QJ SJ
                    go_wp2
                    go_region_with (go_at_call 51; refine (meets_any (FO k j) (withS zeroS k) _ hok.out hok2.out).mono ?_; rintro e' w2 ⟨rfl, hb2⟩; rw [HM.out])
                    all_goals
                      have Q2 := Hid.of (QJd.out.below hb2)
                      have S2 := Hid.of (SJd.out.below hb2 SJd.out.lt)
                      clear t0 t1 t2 t3 s0 s1 s2 s3 hb2
                      go_wp2
                      go_roundw
                      case rel =>
                        refine ⟨j + 1, by omega, by go_num, ?_, S2⟩
                        rw [HF.out]; exact Q2
                      case measure => simp [intOf]; omega
                · have hj2 : st = j := by omega
                  subst hj2
                  rw [← HSU.out] at QJ
                  clear SJ
                  go_wp2
                  go_roundw
                  case rel => exact ⟨k + 1, by omega, by go_num, QJ⟩
                  case measure => simp [intOf]; omega
            · have hk2 : st = k := by omega
              subst hk2
              rw [HST.out] at QQ
              go_wp2
              go_ret
              exact ⟨rfl, QQ.out.tb, QQ.out.bel⟩

end Go.Proofs.YtbdkaobbfmgnhaaDoor
