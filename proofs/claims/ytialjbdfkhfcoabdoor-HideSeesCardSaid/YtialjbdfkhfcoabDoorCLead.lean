/-
  The walk of machine.leader: a table of where each state leads at each event, and the closure over it.
-/
import Derived.Test.YtialjbdfkhfcoabDoorG10
import Derived.OwnWalk
import Derived.Deep.RegionWith
namespace Go.Proofs.YtialjbdfkhfcoabDoor
open Go.RowKit
set_option linter.unusedVariables false

theorem Tryd.infoSet : (Tryd.prog.info? 46).map (fun i => (i.zero, i.size, i.bytes)) = some (some (sval zeroS), 4, 32) := by kernel_rfl

theorem LD.drew {W : World} {pt pg pm : Nat} {m : Mach} {l : ML} {N : Nat} {T : Nat → Nat → Nat} (h : LD W pt pg pm m l N T) : LD W.drew pt pg pm m l N T := ⟨h.to, h.tab, h.m⟩

/-- What holds where a region is left as it should be. -/
def regQ (R : Act → World → Prop) : Exit → Act → World → Prop
  | .normal, a, w => R a w
  | _, _, _ => False
theorem regQ_imp {R : Act → World → Prop} {Q : Exit → Act → World → Prop} (h : ∀ a w, R a w → Q .normal a w) : ∀ e a w, regQ R e a w → Q e a w := fun e a w hr => by
  cases e <;> first | exact h a w hr | exact hr.elim

theorem Blk.other4' {W : World} {b b' : Nat} {t : TypeId} {cs : Array Value} (h : Blk W b t cs) (j : Nat) (hne : b ≠ b') (v0 v1 v2 v3 : Value) : Blk ((((W.setCell ⟨b', j, none⟩ v0).setCell ⟨b', j + 1, none⟩ v1).setCell ⟨b', j + 2, none⟩ v2).setCell ⟨b', j + 3, none⟩ v3) b t cs :=
  (((h.other hne v0).other hne v1).other hne v2).other hne v3
theorem below_set4' {W V : World} {B b' : Nat} (h : Below B V W) (j : Nat) (hb : B ≤ b') (v0 v1 v2 v3 : Value) : Below B V ((((W.setCell ⟨b', j, none⟩ v0).setCell ⟨b', j + 1, none⟩ v1).setCell ⟨b', j + 2, none⟩ v2).setCell ⟨b', j + 3, none⟩ v3) :=
  (((h.setCell (p := ⟨b', j, none⟩) hb v0).setCell (p := ⟨b', j + 1, none⟩) hb v1).setCell (p := ⟨b', j + 2, none⟩) hb v2).setCell (p := ⟨b', j + 3, none⟩) hb v3

theorem lead_ix {st ev x e : Nat} (hx : x < st) (he : e < ev) : x * ev + e < st * ev := by
  have : (x + 1) * ev ≤ st * ev := Nat.mul_le_mul_right _ hx
  rw [Nat.add_mul] at this
  omega

set_option maxRecDepth 100000 in
set_option maxHeartbeats 4000000 in
theorem leader_some (st ev : Nat) (starts : List Int) (ars : List Arr) (ends : List Int) (a1 : Option Addr) (c1 b off c2 : Nat) (a3 : Option Addr) (c3 : Nat) (w : World) (hst : st ≤ 256) (hev : ev ≤ 8) (hlen : ars.length ≤ 4096) (hb : b < w.heap.size) (hca : CellsA w b off ars) (hin : ∀ a ∈ ars, arrIn st ev a) :
    Calls Tryd.prog 57 #[mval ⟨st, ev, starts, ars, ends⟩ ⟨a1, c1, some ⟨b, off, none⟩, c2, a3, c3⟩] w fun e w' => e = .returned (.func (.func 83) #[] #[.pointer (some ⟨w.heap.size + 2, 0, none⟩), .pointer (some ⟨w.heap.size, 0, none⟩)]) ∧ LD w' (w.heap.size + 2) (w.heap.size + 1) w.heap.size ⟨st, ev, starts, ars, ends⟩ ⟨a1, c1, some ⟨b, off, none⟩, c2, a3, c3⟩ (st * ev) (tabS ev ars) ∧ Below w.heap.size w w' := by
  obtain ⟨i0, hi, hz0, hz1, hz2⟩ := info_parts Tryd.infoSet
  have hmf : ∀ (fn : Fn) (first cap : Array Value) (w : World), (Instr.makeFunc fn first cap).run Tryd.prog w = .ok (.func fn first cap) w := fun _ _ _ _ => rfl
  have hN : st * ev ≤ 2048 := Nat.mul_le_mul hst hev
  obtain ⟨N, HN⟩ : ∃ N, Hid (N = st * ev) := ⟨_, rfl⟩
  rw [← HN.out] at hN ⊢
  have hw0 : IntKind.i64.wrap ((st : Int) * (ev : Int)) = (N : Int) := by rw [IntKind.wrap_i64, ← Int.natCast_mul, ← HN.out]; omega
  have hmk : ∀ w : World, (Instr.makeSlice 71 (.int .i64 N) (.int .i64 N)).run Tryd.prog w = .ok (.slice (some ⟨w.heap.size, 0, none⟩) N N) (w.alloc (.cells (madeCells #[.int .u64 0, .int .u64 0, .int .u64 0, .int .u64 0] (N * 4)) 46)) := fun w => by
    have := run_make (P := Tryd.prog) w 71 46 i0 (sval zeroS) Tryd.underlying71 hi hz0 .i64 .i64 N N (by omega) (by omega) (by rw [hz2]; omega) (by omega)
    rw [hz1, Int.toNat_natCast] at this
    exact this
  have HI := Hid.of hin
  clear hin hi hz0 hz1 hz2
  go_enter Tryd.func57, Tryd.ntmps57
  go_wp2
  go_loopw [16] (fun i wr => ∃ k : Nat, k ≤ ars.length ∧ i = .int .i64 k ∧ LD wr (w.heap.size + 2) (w.heap.size + 1) w.heap.size ⟨st, ev, starts, ars, ends⟩ ⟨a1, c1, some ⟨b, off, none⟩, c2, a3, c3⟩ N (tabS ev (ars.take k)) ∧ Below w.heap.size w wr) (fun i _ => ars.length - (intOf i).toNat)
  case atStart =>
    refine ⟨0, by omega, rfl, ⟨?_, TB.made ?_, ((Blk.new w _ _).alloc _).alloc _⟩, (((Below.refl _ _).alloc (Nat.le_refl _) _).alloc (by simp) _).alloc (by simp; omega) _⟩
    · have := Boxed.new ((w.alloc (.cells (mcells ⟨st, ev, starts, ars, ends⟩ ⟨a1, c1, some ⟨b, off, none⟩, c2, a3, c3⟩) 25)).alloc (.cells (madeCells #[.int .u64 0, .int .u64 0, .int .u64 0, .int .u64 0] (N * 4)) 46)) 71 (.slice (some ⟨w.heap.size + 1, 0, none⟩) N N)
      rwa [World.size_alloc, World.size_alloc] at this
    · have := (Blk.new (w.alloc (.cells (mcells ⟨st, ev, starts, ars, ends⟩ ⟨a1, c1, some ⟨b, off, none⟩, c2, a3, c3⟩) 25)) 46 (madeCells #[.int .u64 0, .int .u64 0, .int .u64 0, .int .u64 0] (N * 4))).alloc (.cells #[.slice (some ⟨w.heap.size + 1, 0, none⟩) N N] 71)
      rwa [World.size_alloc] at this
  case round =>
    obtain ⟨k, hk, rfl, hL, hB⟩ := hrel
    by_cases hlt : k < ars.length
    · obtain ⟨a, HA, x1, x2, x3⟩ := hca.at hlt
      have hia : arrIn st ev a := by
        have h := HA.out
        rw [List.getElem?_eq_getElem hlt, Option.getD_some] at h
        rw [h]; exact HI.out _ (List.getElem_mem hlt)
      obtain ⟨f, ef⟩ : ∃ f : Nat, a.f = (f : Int) := ⟨a.f.toNat, by omega⟩
      obtain ⟨e, ee⟩ : ∃ e : Nat, a.e = (e : Int) := ⟨a.e.toNat, by omega⟩
      obtain ⟨t, et⟩ : ∃ t : Nat, a.t = (t : Int) := ⟨a.t.toNat, by omega⟩
      rw [ef] at x1
      rw [ee] at x2
      rw [et] at x3
      have hf : f < st := by omega
      have he : e < ev := by omega
      have ht : t < 256 := by omega
      have hpN := lead_ix hf he
      rw [← HN.out] at hpN
      obtain ⟨q, hq⟩ : ∃ q, q = f * ev := ⟨_, rfl⟩
      obtain ⟨p, hp⟩ : ∃ p, p = f * ev + e := ⟨_, rfl⟩
      rw [← hp] at hpN
      have hw1 : IntKind.i64.wrap ((f : Int) * (ev : Int)) = (q : Int) := by rw [IntKind.wrap_i64, ← Int.natCast_mul, ← hq]; omega
      have hw2 : IntKind.i64.wrap ((q : Int) + (e : Int)) = (p : Int) := by rw [IntKind.wrap_i64]; omega
      have HT : Hid (tabS ev (ars.take (k + 1)) = fun r => if r = p then withS (tabS ev (ars.take k) r) t else tabS ev (ars.take k) r) := by
        show _ = _
        rw [tabS_take hlt HA]
        funext r
        simp only [tabStep, ef, ee, et, Int.toNat_natCast, hp]
      have hp0 : (0 : Int) ≤ (p : Int) := by omega
      have hpI : (p : Int) < (N : Int) := by omega
      clear hq hp hia ef ee et HA
      have y1 := (hB.cell (p := ⟨b, off + k * 3, none⟩) hb).trans x1
      have y2 := (hB.cell (p := ⟨b, off + k * 3 + 1, none⟩) hb).trans x2
      have y3 := (hB.cell (p := ⟨b, off + k * 3 + 2, none⟩) hb).trans x3
      clear x1 x2 x3
      have z1 : (wr.alloc (.cells #[.int .i64 f, .int .i64 e, .int .i64 t] 81)).cell? ⟨w.heap.size, 1, none⟩ = some (.int .i64 ev) := (hL.m.alloc _).cell 1 rfl
      have hBV : Below wr.heap.size wr (wr.alloc (.cells #[.int .i64 f, .int .i64 e, .int .i64 t] 81)) := (Below.refl _ _).alloc (Nat.le_refl _) _
      have hLV := Hid.of (hL.below hBV hL.to.lt hL.tab.lt hL.m.lt)
      have hAV := Hid.of (Blk.new wr 81 #[.int .i64 f, .int .i64 e, .int .i64 t])
      have hBw := Hid.of (hB.trans (hBV.mono hB.size))
      have hszV : (wr.alloc (.cells #[.int .i64 f, .int .i64 e, .int .i64 t] 81)).heap.size = wr.heap.size + 1 := by simp
      have HSZ := Hid.of hszV
      have l1 := hL.to.lt
      have l2 := hL.tab.lt
      have l3 := hL.m.lt
      clear hL hB hszV hBV
      go_wp2
      revert z1 hLV hAV hBw HSZ
      generalize wr.alloc (.cells #[.int .i64 f, .int .i64 e, .int .i64 t] 81) = V
      intro z1 hLV hAV hBw HSZ
      obtain ⟨t0, t1, t2, t3⟩ := hLV.out.tab.cells hpN
      have d1 : V.cell? ⟨w.heap.size + 1 + 1, 0, none⟩ = some (.slice (some ⟨w.heap.size + 1, 0, none⟩) N N) := hLV.out.to.cell
      have d2 : V.cell? ⟨wr.heap.size, 2, none⟩ = some (.int .i64 t) := hAV.out.cell 2 rfl
      have hsz := HSZ.out
      have hok := Hid.of (okS_tab ev (ars.take k) p)
      obtain ⟨R, hR⟩ : ∃ R, R = tabS ev (ars.take k) p := ⟨_, rfl⟩
      have HR := Hid.of hR
      rw [← hR] at t0 t1 t2 t3 hok
      clear hR
      have hLd := Hid.of (LD.drew hLV.out)
      have hAd := Hid.of (Blk.drew hAV.out)
      have hne1 : ¬ w.heap.size + 1 = wr.heap.size := by omega
      have hne2 : ¬ wr.heap.size = w.heap.size + 1 := by omega
      refine Code.wp_mono (Q := regQ fun a' W' => (∃ r28 r29 r30 r31 r32 r33 r34 r35 r36 r37, a' = { tmps := #[mval ⟨st, ev, starts, ars, ends⟩ ⟨a1, c1, some ⟨b, off, none⟩, c2, a3, c3⟩, .pointer (some ⟨w.heap.size, 0, none⟩), .nilFunc, .pointer (some ⟨w.heap.size + 1 + 1, 0, none⟩), undef, .pointer (some ⟨wr.heap.size, 0, none⟩), .int .i64 p, .pointer (some ⟨w.heap.size, 0, none⟩), .int .i64 st, .pointer (some ⟨w.heap.size, 1, none⟩), .int .i64 ev, .int .i64 N, .slice (some ⟨w.heap.size + 1, 0, none⟩) N N, .pointer (some ⟨w.heap.size, 3, none⟩), .slice (some ⟨b, off, none⟩) ars.length c2, .int .i64 ars.length, .int .i64 k, .bool true, .pointer (some ⟨b, off + k * 3, none⟩), .agg #[.int .i64 f, .int .i64 e, .int .i64 t], .pointer (some ⟨wr.heap.size, 0, none⟩), .int .i64 f, .pointer (some ⟨w.heap.size, 1, none⟩), .int .i64 ev, .int .i64 q, .pointer (some ⟨wr.heap.size, 1, none⟩), .int .i64 e, .int .i64 p, r28, r29, r30, r31, r32, r33, r34, r35, r36, r37, u38, undef], defers := [] }) ∧ ∃ w1, Below V.heap.size V.drew w1 ∧ W' = ((((w1.setCell ⟨w.heap.size + 1, p * 4, none⟩ (.int .u64 (withS R t 0))).setCell ⟨w.heap.size + 1, p * 4 + 1, none⟩ (.int .u64 (withS R t 1))).setCell ⟨w.heap.size + 1, p * 4 + 2, none⟩ (.int .u64 (withS R t 2))).setCell ⟨w.heap.size + 1, p * 4 + 3, none⟩ (.int .u64 (withS R t 3)))) ?aft ?reg
      case reg =>
        clear HT hBw hca y1 y2 y3 z1 hmk hmf hw0 hw1 hw2 HI
        go_region_with (go_at_call 49; refine (with_any R t _ hok.out (by omega) (by omega)).mono ?_; rintro e' w1 ⟨rfl, hb1⟩; have hLW := Hid.of (LD.below hLd.out hb1 (show _ < V.heap.size by omega) (show _ < V.heap.size by omega) (show _ < V.heap.size by omega)); obtain ⟨v0, v1, v2, v3⟩ := hLW.out.tab.cells hpN; rw [← HR.out] at v0 v1 v2 v3; have fz := hLW.out.tab.frozen; have e1 : w1.cell? ⟨w.heap.size + 1 + 1, 0, none⟩ = some (.slice (some ⟨w.heap.size + 1, 0, none⟩) N N) := hLW.out.to.cell)
        all_goals exact ⟨⟨_, _, _, _, _, _, _, _, _, _, rfl⟩, _, hb1, rfl⟩
      case aft =>
        refine regQ_imp ?_
        rintro a' W' ⟨⟨r28, r29, r30, r31, r32, r33, r34, r35, r36, r37, rfl⟩, w1, hb1, rfl⟩
        have hLW := LD.below hLd.out hb1 (show _ < V.heap.size by omega) (show _ < V.heap.size by omega) (show _ < V.heap.size by omega)
        have hbW := hBw.out.drew.trans (hb1.mono hBw.out.size)
        have hfin := Hid.of (TB.store hLW.tab hpN (withS R t))
        have hto := Hid.of (Blk.other4' hLW.to (p * 4) (b' := w.heap.size + 1) (by omega) (.int .u64 (withS R t 0)) (.int .u64 (withS R t 1)) (.int .u64 (withS R t 2)) (.int .u64 (withS R t 3)))
        have hmm := Hid.of (Blk.other4' hLW.m (p * 4) (b' := w.heap.size + 1) (by omega) (.int .u64 (withS R t 0)) (.int .u64 (withS R t 1)) (.int .u64 (withS R t 2)) (.int .u64 (withS R t 3)))
        have hbb := Hid.of (below_set4' hbW (p * 4) (b' := w.heap.size + 1) (by omega) (.int .u64 (withS R t 0)) (.int .u64 (withS R t 1)) (.int .u64 (withS R t 2)) (.int .u64 (withS R t 3)))
        clear hLW hbW hb1
        revert hfin hto hmm hbb
        generalize ((((w1.setCell ⟨w.heap.size + 1, p * 4, none⟩ (.int .u64 (withS R t 0))).setCell ⟨w.heap.size + 1, p * 4 + 1, none⟩ (.int .u64 (withS R t 1))).setCell ⟨w.heap.size + 1, p * 4 + 2, none⟩ (.int .u64 (withS R t 2))).setCell ⟨w.heap.size + 1, p * 4 + 3, none⟩ (.int .u64 (withS R t 3))) = X
        intro hfin hto hmm hbb
        go_wp2
        go_roundw
        case rel =>
          refine ⟨k + 1, by omega, by go_num, ⟨hto.out, ?_, hmm.out⟩, hbb.out⟩
          rw [HT.out]
          have e1 : (fun r => if r = p then withS (tabS ev (ars.take k) r) t else tabS ev (ars.take k) r) = (fun q => if q = p then withS R t else tabS ev (ars.take k) q) := by
            funext r
            by_cases e : r = p
            · subst e; simp only [if_true, HR.out]
            · rw [if_neg e, if_neg e]
          rw [e1]
          exact hfin.out
        case measure => simp [intOf]; omega
    · rw [List.take_of_length_le (by omega)] at hL
      go_wp2
      go_ret
      exact ⟨rfl, hL, hB⟩

end Go.Proofs.YtialjbdfkhfcoabDoor
