/-
  The walk of machine.Leader, of what may be: a table of where each state leads at each event, and the closure over it.
-/
import Derived.Deep.RegionHeld3
import Derived.Test.YtbdkaobbfmgnhaaDoorG14
import Derived.Test.YtbdkaobbfmgnhaaDoorG10
import Derived.Test.YtbdkaobbfmgnhaaDoorG18
namespace Go.Proofs.YtbdkaobbfmgnhaaDoor
open Go.RowKit
set_option linter.unusedVariables false

/-- What is known on the way: the table's variable, the table, the machine. -/
structure LT (W : World) (pt pg pm : Nat) (m : Mach) (l : ML) (N : Nat) (T : Nat → Nat → Nat) : Prop where
  to : Boxed W pt 87 (.slice (some ⟨pg, 0, none⟩) N N)
  tab : TB W pg N T
  m : Blk W pm 25 (mcells m l)
theorem LT.below {W W' : World} {B pt pg pm : Nat} {m : Mach} {l : ML} {N : Nat} {T : Nat → Nat → Nat} (h : LT W pt pg pm m l N T) (hb : Below B W W') (h1 : pt < B) (h2 : pg < B) (h3 : pm < B) : LT W' pt pg pm m l N T :=
  ⟨(hb.block pt h1).trans h.to, h.tab.below hb h2, h.m.below hb h3⟩
theorem LT.drew {W : World} {pt pg pm : Nat} {m : Mach} {l : ML} {N : Nat} {T : Nat → Nat → Nat} (h : LT W pt pg pm m l N T) : LT W.drew pt pg pm m l N T := ⟨h.to, h.tab, h.m⟩

theorem ld_leaf {w wr W3 : World} {pt pg pm pi pe pb ev N : Nat} {m : Mach} {l : ML} {T : Nat → Nat → Nat} (hL : LT wr pt pg pm m l N T) (hB : Below w.heap.size w wr) (hb3 : Below wr.heap.size wr W3) (h1 : Blk W3 pi 120 #[isV pb]) (h2 : Blk W3 pe 3 #[.int .i64 ev]) (h3 : Blk W3 pb 3 #[.int .i64 ev]) (n1 : wr.heap.size ≤ pi) (n2 : wr.heap.size ≤ pe) (n3 : wr.heap.size ≤ pb) (hl : w.heap.size < pg) (hpt : pt = pg + 1 := by rfl) :
    LD W3 ⟨pi, pe, pt, pg, pb⟩ ev N T ∧ LB.all ⟨pi, pe, pt, pg, pb⟩ (w.heap.size ≤ ·) ∧ Below w.heap.size w W3 := by
  have q1 := hL.to.lt
  have q2 := hL.tab.lt
  have q3 := hB.size
  have hL3 := hL.below hb3 q1 q2 hL.m.lt
  refine ⟨⟨h1, h2, hL3.to, hL3.tab, h3⟩, ⟨?_, ?_, ?_, ?_, ?_⟩, hB.trans (hb3.mono q3)⟩
  all_goals (dsimp only; omega)

set_option maxRecDepth 100000 in
set_option maxHeartbeats 4000000 in
theorem leader_go (st ev : Nat) (starts : List Int) (ars : List Arr) (ends : List Int) (a1 : Option Addr) (c1 : Nat) (a2 : Option Addr) (c2 : Nat) (a3 : Option Addr) (c3 : Nat) (w : World) (h : Hid (MAt w ⟨st, ev, starts, ars, ends⟩ ⟨a1, c1, a2, c2, a3, c3⟩)) (hm : Hid (mayB ⟨st, ev, starts, ars, ends⟩ = true)) (hst : st ≤ 256) (hev : ev ≤ 8) (hlen : ars.length ≤ 4096) (HI : Hid (∀ a ∈ ars, arrIn st ev a)) :
    Calls Tryd.prog 76 #[mval ⟨st, ev, starts, ars, ends⟩ ⟨a1, c1, a2, c2, a3, c3⟩] w fun e w' => ∃ L, e = .returned (leadV L) ∧ LD w' L ev (st * ev) (tabS ev ars) ∧ L.all (w.heap.size ≤ ·) ∧ Below w.heap.size w w' := by
  obtain ⟨i0, hi, hz0, hz1, hz2⟩ := info_parts Tryd.infoSet
  have hmf : ∀ (fn : Fn) (first cap : Array Value) (w : World), (Instr.makeFunc fn first cap).run Tryd.prog w = .ok (.func fn first cap) w := fun _ _ _ _ => rfl
  have hN : st * ev ≤ 2048 := Nat.mul_le_mul hst hev
  obtain ⟨N, HN⟩ : ∃ N, Hid (N = st * ev) := ⟨_, rfl⟩
  rw [← HN.out] at hN ⊢
  have hw0 : IntKind.i64.wrap ((st : Int) * (ev : Int)) = (N : Int) := by rw [IntKind.wrap_i64, ← Int.natCast_mul, ← HN.out]; omega
  have hmk : ∀ w : World, (Instr.makeSlice 87 (.int .i64 N) (.int .i64 N)).run Tryd.prog w = .ok (.slice (some ⟨w.heap.size, 0, none⟩) N N) (w.alloc (.cells (madeCells #[.int .u64 0, .int .u64 0, .int .u64 0, .int .u64 0] (N * 4)) 62)) := fun w => by
    have := run_make (P := Tryd.prog) w 87 62 i0 (sval zeroS) Tryd.underlying87 hi hz0 .i64 .i64 N N (by omega) (by omega) (by rw [hz2]; omega) (by omega)
    rw [hz1, Int.toNat_natCast] at this
    exact this
  clear hi hz0 hz1 hz2
  have B0 : Hid (Below w.heap.size w (w.alloc (.cells (mcells ⟨st, ev, starts, ars, ends⟩ ⟨a1, c1, a2, c2, a3, c3⟩) 25))) := (Below.refl _ _).alloc (Nat.le_refl _) _
  have K0 : Hid (Blk (w.alloc (.cells (mcells ⟨st, ev, starts, ars, ends⟩ ⟨a1, c1, a2, c2, a3, c3⟩) 25)) w.heap.size 25 (mcells ⟨st, ev, starts, ars, ends⟩ ⟨a1, c1, a2, c2, a3, c3⟩)) := Blk.new w _ _
  go_enter Tryd.func76, Tryd.ntmps76
  go_wp2_with fail
  revert B0 K0
  generalize w.alloc (.cells (mcells ⟨st, ev, starts, ars, ends⟩ ⟨a1, c1, a2, c2, a3, c3⟩) 25) = V0
  intro B0 K0
  refine (pMay_any ⟨st, ev, starts, ars, ends⟩ ⟨a1, c1, a2, c2, a3, c3⟩ _ (h.out.below B0.out (Nat.le_refl _))).mono ?_
  rintro e0 U ⟨rfl, hb1⟩
  rw [hm.out]
  have B1 := Hid.of (B0.out.trans (hb1.mono B0.out.size))
  have K1 := Hid.of (K0.out.below hb1 K0.out.lt)
  clear hb1 B0 K0
  have B2 : Hid (Below w.heap.size w ((U.alloc (.cells (madeCells #[.int .u64 0, .int .u64 0, .int .u64 0, .int .u64 0] (N * 4)) 62)).alloc (.cells #[.slice (some ⟨U.heap.size, 0, none⟩) N N] 87))) := (B1.out.alloc B1.out.size _).alloc (by simp; have := B1.out.size; omega) _
  have L2 : Hid (LT ((U.alloc (.cells (madeCells #[.int .u64 0, .int .u64 0, .int .u64 0, .int .u64 0] (N * 4)) 62)).alloc (.cells #[.slice (some ⟨U.heap.size, 0, none⟩) N N] 87)) (U.heap.size + 1) U.heap.size w.heap.size ⟨st, ev, starts, ars, ends⟩ ⟨a1, c1, a2, c2, a3, c3⟩ N (tabS ev (ars.take 0))) := by
    refine ⟨?_, TB.made ((Blk.new U _ _).alloc _), (K1.out.alloc _).alloc _⟩
    have := Boxed.new (U.alloc (.cells (madeCells #[.int .u64 0, .int .u64 0, .int .u64 0, .int .u64 0] (N * 4)) 62)) 87 (.slice (some ⟨U.heap.size, 0, none⟩) N N)
    rwa [World.size_alloc] at this
  have lU : Hid (w.heap.size < U.heap.size) := K1.out.lt
  obtain ⟨x0, x1, x2, x3, x4⟩ := mcell_at K1.out
  obtain ⟨y0, y1, y2, y3, y4⟩ := mcell_at L2.out.m
  dsimp only at x0 x1 x2 x3 x4 y0 y1 y2 y3 y4
  clear B1 K1
  go_wp2
  clear x0 x1 x2 x3 x4 y0 y1 y2 y3 y4
  revert B2 L2
  generalize (U.alloc (.cells (madeCells #[.int .u64 0, .int .u64 0, .int .u64 0, .int .u64 0] (N * 4)) 62)).alloc (.cells #[.slice (some ⟨U.heap.size, 0, none⟩) N N] 87) = X
  intro B2 L2
  go_loopw [21] (fun i wr => ∃ k : Nat, k ≤ ars.length ∧ i = .int .i64 k ∧ LT wr (U.heap.size + 1) U.heap.size w.heap.size ⟨st, ev, starts, ars, ends⟩ ⟨a1, c1, a2, c2, a3, c3⟩ N (tabS ev (ars.take k)) ∧ Below w.heap.size w wr) (fun i _ => ars.length - (intOf i).toNat)
  case atStart => exact ⟨0, Nat.zero_le _, rfl, L2.out, B2.out⟩
  case round =>
    obtain ⟨k, hk, rfl, hL, hB⟩ := hrel
    clear B2 L2
    have lu := lU.out
    by_cases hlt : k < ars.length
    · obtain ⟨b, off, rfl, hb, hca⟩ : ∃ b off, a2 = some ⟨b, off, none⟩ ∧ b < w.heap.size ∧ CellsA w b off ars := by
        rcases h.out.a with h0 | ⟨b, off, h0⟩
        · have h0 : ars = [] := h0
          rw [h0] at hlt; simp at hlt
        · exact ⟨b, off, h0⟩
      obtain ⟨a, HA, x1, x2, x3⟩ := hca.at hlt
      have hia : arrIn st ev a := by
        have h := HA.out
        rw [List.getElem?_eq_getElem hlt, Option.getD_some] at h
        rw [h]; exact HI.out _ (List.getElem_mem hlt)
      obtain ⟨f, ef⟩ : ∃ f : Nat, a.f = (f : Int) := ⟨a.f.toNat, by omega⟩
      obtain ⟨e, ee⟩ : ∃ e : Nat, a.e = (e : Int) := ⟨a.e.toNat, by omega⟩
      obtain ⟨t, et⟩ : ∃ t : Nat, a.t = (t : Int) := ⟨a.t.toNat, by omega⟩
      rw [ef] at x1
      rw [ee] at x2
      rw [et] at x3
      have hf : f < st := by omega
      have he : e < ev := by omega
      have ht : t < 256 := by omega
      have hpN := lead_ix hf he
      rw [← HN.out] at hpN
      obtain ⟨q, hq⟩ : ∃ q, q = f * ev := ⟨_, rfl⟩
      obtain ⟨p, hp⟩ : ∃ p, p = f * ev + e := ⟨_, rfl⟩
      rw [← hp] at hpN
      have hw1 : IntKind.i64.wrap ((f : Int) * (ev : Int)) = (q : Int) := by rw [IntKind.wrap_i64, ← Int.natCast_mul, ← hq]; omega
      have hw2 : IntKind.i64.wrap ((q : Int) + (e : Int)) = (p : Int) := by rw [IntKind.wrap_i64]; omega
      have HT : Hid (tabS ev (ars.take (k + 1)) = fun r => if r = p then withS (tabS ev (ars.take k) r) t else tabS ev (ars.take k) r) := by
        show _ = _
        rw [tabS_take hlt HA]
        funext r
        simp only [tabStep, ef, ee, et, Int.toNat_natCast, hp]
      have hp0 : (0 : Int) ≤ (p : Int) := by omega
      have hpI : (p : Int) < (N : Int) := by omega
      clear hq hp hia ef ee et HA
      have y1 := (hB.cell (p := ⟨b, off + k * 3, none⟩) hb).trans x1
      have y2 := (hB.cell (p := ⟨b, off + k * 3 + 1, none⟩) hb).trans x2
      have y3 := (hB.cell (p := ⟨b, off + k * 3 + 2, none⟩) hb).trans x3
      clear x1 x2 x3
      have z1 : (wr.alloc (.cells #[.int .i64 f, .int .i64 e, .int .i64 t] 58)).cell? ⟨w.heap.size, 1, none⟩ = some (.int .i64 ev) := (hL.m.alloc _).cell 1 rfl
      have hBV : Below wr.heap.size wr (wr.alloc (.cells #[.int .i64 f, .int .i64 e, .int .i64 t] 58)) := (Below.refl _ _).alloc (Nat.le_refl _) _
      have hLV := Hid.of (hL.below hBV hL.to.lt hL.tab.lt hL.m.lt)
      have hAV := Hid.of (Blk.new wr 58 #[.int .i64 f, .int .i64 e, .int .i64 t])
      have hBw := Hid.of (hB.trans (hBV.mono hB.size))
      have hszV : (wr.alloc (.cells #[.int .i64 f, .int .i64 e, .int .i64 t] 58)).heap.size = wr.heap.size + 1 := by simp
      have HSZ := Hid.of hszV
      have l1 := hL.to.lt
      have l2 := hL.tab.lt
      have l3 := hL.m.lt
      clear hL hB hszV hBV
      go_wp2
      revert z1 hLV hAV hBw HSZ
      generalize wr.alloc (.cells #[.int .i64 f, .int .i64 e, .int .i64 t] 58) = V
      intro z1 hLV hAV hBw HSZ
      obtain ⟨t0, t1, t2, t3⟩ := hLV.out.tab.cells hpN
      have d1 : V.cell? ⟨U.heap.size + 1, 0, none⟩ = some (.slice (some ⟨U.heap.size, 0, none⟩) N N) := hLV.out.to.cell
      have d2 : V.cell? ⟨wr.heap.size, 2, none⟩ = some (.int .i64 t) := hAV.out.cell 2 rfl
      have hsz := HSZ.out
      clear h
      have hok := Hid.of (okS_tab ev (ars.take k) p)
      obtain ⟨R, hR⟩ : ∃ R, R = tabS ev (ars.take k) p := ⟨_, rfl⟩
      have HR := Hid.of hR
      rw [← hR] at t0 t1 t2 t3 hok
      clear hR
      have hLd := Hid.of (LT.drew hLV.out)
      have hAd := Hid.of (Blk.drew hAV.out)
      have hne1 : ¬ U.heap.size = wr.heap.size := by omega
      have hne2 : ¬ wr.heap.size = U.heap.size := by omega
      refine Code.wp_mono (Q := regQ fun a' W' => (∃ r33 r34 r35 r36 r37 r38 r39 r40 r41 r42, a' = { tmps := #[mval ⟨st, ev, starts, ars, ends⟩ ⟨a1, c1, some ⟨b, off, none⟩, c2, a3, c3⟩, .pointer (some ⟨w.heap.size, 0, none⟩), .nilFunc, .pointer (some ⟨U.heap.size + 1, 0, none⟩), undef, .pointer (some ⟨wr.heap.size, 0, none⟩), .int .i64 p, undef, undef, .agg #[.int .i64 st, .int .i64 ev, .slice a1 starts.length c1, .slice (some ⟨b, off, none⟩) ars.length c2, .slice a3 ends.length c3], .bool true, .bool false, .pointer (some ⟨w.heap.size, 0, none⟩), .int .i64 st, .pointer (some ⟨w.heap.size, 1, none⟩), .int .i64 ev, .int .i64 N, .slice (some ⟨U.heap.size, 0, none⟩) N N, .pointer (some ⟨w.heap.size, 3, none⟩), .slice (some ⟨b, off, none⟩) ars.length c2, .int .i64 ars.length, .int .i64 k, .bool true, .pointer (some ⟨b, off + k * 3, none⟩), .agg #[.int .i64 f, .int .i64 e, .int .i64 t], .pointer (some ⟨wr.heap.size, 0, none⟩), .int .i64 f, .pointer (some ⟨w.heap.size, 1, none⟩), .int .i64 ev, .int .i64 q, .pointer (some ⟨wr.heap.size, 1, none⟩), .int .i64 e, .int .i64 p, r33, r34, r35, r36, r37, r38, r39, r40, r41, r42, u43, undef, undef, undef, undef, undef, undef], defers := [] }) ∧ ∃ w1, Below V.heap.size V.drew w1 ∧ W' = ((((w1.setCell ⟨U.heap.size, p * 4, none⟩ (.int .u64 (withS R t 0))).setCell ⟨U.heap.size, p * 4 + 1, none⟩ (.int .u64 (withS R t 1))).setCell ⟨U.heap.size, p * 4 + 2, none⟩ (.int .u64 (withS R t 2))).setCell ⟨U.heap.size, p * 4 + 3, none⟩ (.int .u64 (withS R t 3)))) ?aft ?reg
      case reg =>
        clear HT hBw hca y1 y2 y3 z1 hmk hmf hw0 hw1 hw2 HI
        go_region_with (go_at_call 95; refine (with_any R t _ hok.out (by omega) (by omega)).mono ?_; rintro e' w1 ⟨rfl, hb1⟩; have hLW := Hid.of (LT.below hLd.out hb1 (show _ < V.heap.size by omega) (show _ < V.heap.size by omega) (show _ < V.heap.size by omega)); obtain ⟨v0, v1, v2, v3⟩ := hLW.out.tab.cells hpN; rw [← HR.out] at v0 v1 v2 v3; have fz := hLW.out.tab.frozen; have e1 : w1.cell? ⟨U.heap.size + 1, 0, none⟩ = some (.slice (some ⟨U.heap.size, 0, none⟩) N N) := hLW.out.to.cell)
        all_goals exact ⟨⟨_, _, _, _, _, _, _, _, _, _, rfl⟩, _, hb1, rfl⟩
      case aft =>
        refine regQ_imp ?_
        rintro a' W' ⟨⟨r33, r34, r35, r36, r37, r38, r39, r40, r41, r42, rfl⟩, w1, hb1, rfl⟩
        have hLW := LT.below hLd.out hb1 (show _ < V.heap.size by omega) (show _ < V.heap.size by omega) (show _ < V.heap.size by omega)
        have hbW := hBw.out.drew.trans (hb1.mono hBw.out.size)
        have hfin := Hid.of (TB.store hLW.tab hpN (withS R t))
        have hto := Hid.of (Blk.other4' hLW.to (p * 4) (b' := U.heap.size) (by omega) (.int .u64 (withS R t 0)) (.int .u64 (withS R t 1)) (.int .u64 (withS R t 2)) (.int .u64 (withS R t 3)))
        have hmm := Hid.of (Blk.other4' hLW.m (p * 4) (b' := U.heap.size) (by omega) (.int .u64 (withS R t 0)) (.int .u64 (withS R t 1)) (.int .u64 (withS R t 2)) (.int .u64 (withS R t 3)))
        have hbb := Hid.of (below_set4' hbW (p * 4) (b' := U.heap.size) (by omega) (.int .u64 (withS R t 0)) (.int .u64 (withS R t 1)) (.int .u64 (withS R t 2)) (.int .u64 (withS R t 3)))
        clear hLW hbW hb1
        revert hfin hto hmm hbb
        generalize ((((w1.setCell ⟨U.heap.size, p * 4, none⟩ (.int .u64 (withS R t 0))).setCell ⟨U.heap.size, p * 4 + 1, none⟩ (.int .u64 (withS R t 1))).setCell ⟨U.heap.size, p * 4 + 2, none⟩ (.int .u64 (withS R t 2))).setCell ⟨U.heap.size, p * 4 + 3, none⟩ (.int .u64 (withS R t 3))) = X
        intro hfin hto hmm hbb
        go_wp2
        go_roundw
        case rel =>
          refine ⟨k + 1, by omega, by go_num, ⟨hto.out, ?_, hmm.out⟩, hbb.out⟩
          rw [HT.out]
          have e1 : (fun r => if r = p then withS (tabS ev (ars.take k) r) t else tabS ev (ars.take k) r) = (fun q => if q = p then withS R t else tabS ev (ars.take k) q) := by
            funext r
            by_cases e : r = p
            · subst e; simp only [if_true, HR.out]
            · rw [if_neg e, if_neg e]
          rw [e1]
          exact hfin.out
        case measure => simp [intOf]; omega
    · rw [List.take_of_length_le (by omega)] at hL
      have z1 : wr.cell? ⟨w.heap.size, 1, none⟩ = some (.int .i64 ev) := hL.m.cell 1 rfl
      go_wp2
      have HBl := Hid.of hB
      have HLl := Hid.of hL
      have hLd := LT.drew hL
      have l3 := hL.m.lt
      clear hB hL
      refine Code.wp_mono (Q := regQ fun a' W' => ∃ (L : LB) (r44 r45 r46 r47 r48 : Value), a' = { tmps := #[mval ⟨st, ev, starts, ars, ends⟩ ⟨a1, c1, a2, c2, a3, c3⟩, .pointer (some ⟨w.heap.size, 0, none⟩), .nilFunc, .pointer (some ⟨L.pt, 0, none⟩), undef, u5, u6, .pointer (some ⟨L.pe, 0, none⟩), .pointer (some ⟨L.pi, 0, none⟩), .agg #[.int .i64 st, .int .i64 ev, .slice a1 starts.length c1, .slice a2 ars.length c2, .slice a3 ends.length c3], .bool true, .bool false, .pointer (some ⟨w.heap.size, 0, none⟩), .int .i64 st, .pointer (some ⟨w.heap.size, 1, none⟩), .int .i64 ev, .int .i64 N, .slice (some ⟨U.heap.size, 0, none⟩) N N, .pointer (some ⟨w.heap.size, 3, none⟩), .slice a2 ars.length c2, .int .i64 ars.length, .int .i64 k, .bool false, u23, u24, u25, u26, u27, u28, u29, u30, u31, u32, u33, u34, u35, u36, u37, u38, u39, u40, u41, u42, u43, r44, r45, r46, r47, r48, undef], defers := [] } ∧ LD W' L ev N (tabS ev ars) ∧ L.all (w.heap.size ≤ ·) ∧ Below w.heap.size w W') ?aft ?reg
      case reg =>
        refine wp_region_held_drew (S := fun w' => w'.cell? ⟨w.heap.size, 1, none⟩ = some (.int .i64 ev)) (by kernel_rfl) z1 (fun hS0 => ?_)
        refine wpAnyH_take (i := 0) (v := .pointer (some ⟨w.heap.size, 1, none⟩)) rfl (by kernel_rfl) (by kernel_rfl) (by kernel_rfl) (fun _ _ _ h => h) (Or.inl ⟨by kernel_rfl, fun w' hw' => by go_simp⟩) hS0 ?_
        refine wpAnyH_take (i := 1) (v := .int .i64 ev) rfl (by kernel_rfl) (by kernel_rfl) (by kernel_rfl) (fun _ _ _ h => h) (Or.inl ⟨by kernel_rfl, fun w' hw' => by go_simp⟩) hS0 ?_
        refine wpAnyH_take (i := 2) (v := .pointer (some ⟨w.heap.size, 1, none⟩)) rfl (by kernel_rfl) (by kernel_rfl) (by kernel_rfl) (fun _ _ _ h => h) (Or.inl ⟨by kernel_rfl, fun w' hw' => by go_simp⟩) hS0 ?_
        refine wpAnyH_take (i := 3) (v := .int .i64 ev) rfl (by kernel_rfl) (by kernel_rfl) (by kernel_rfl) (fun _ _ _ h => h) (Or.inl ⟨by kernel_rfl, fun w' hw' => by go_simp⟩) hS0 ?_
        simp only [Act.put, List.setIfInBounds_toArray]
        refine wpAnyH_ready (rs := [4, 5, 6]) (by kernel_rfl) (by simp) ?_
        refine AllReadyH.cons rfl (fun K' hK' => ?_) (AllReadyH.cons rfl (fun K' hK' => ?_) (AllReadyH.cons rfl (fun K' hK' => ?_) AllReadyH.nil))
        · go_simp
          refine (within_any _ _).mono ?_
          rintro e0 W' ⟨rfl, rfl⟩
          refine hK'.out _ _ (((hLd.m.alloc _)).cell 1 rfl) (fun hS => ?_)
          clear hK' K'
          refine wpAnyH_ready (rs := [5, 6]) (by kernel_rfl) (by simp) ?_
          refine AllReadyH.cons rfl (fun K' hK' => ?_) (AllReadyH.cons rfl (fun K' hK' => ?_) AllReadyH.nil)
          · go_simp
            refine hK'.out _ _ ((((hLd.m.alloc _).alloc _)).cell 1 rfl) (fun hS => ?_)
            clear hK' K'
            refine wpAnyH_ready (rs := [6]) (by kernel_rfl) (by simp) ?_
            refine AllReadyH.cons rfl (fun K' hK' => ?_) AllReadyH.nil
            · go_simp
              refine hK'.out _ _ (((((hLd.m.alloc _).alloc _).alloc _)).cell 1 rfl) (fun hS => ?_)
              clear hK' K'
              refine wpAnyH_ready (rs := [7]) (by kernel_rfl) (by simp) ?_
              refine AllReadyH.cons rfl (fun K' hK' => ?_) AllReadyH.nil
              go_simp
              refine hK'.out _ _ ((((hLd.m.alloc _).alloc _).alloc _).cell 1 rfl) (fun hS => ?_)
              clear hK' K'
              refine wpAnyH_ready (rs := [8]) (by kernel_rfl) (by simp) ?_
              refine AllReadyH.cons rfl (fun K' hK' => ?_) AllReadyH.nil
              go_simp
              refine hK'.out _ _ ((((hLd.m.alloc _).alloc _).alloc _).cell 1 rfl) (fun hS => ?_)
              clear hK' K'
              refine wpAnyH_done (by kernel_rfl) ?_ _
              have hb : Blk (((wr.alloc (.cells #[.int .i64 ev] 3)).alloc (.cells #[.int .i64 ev] 3)).alloc (.cells #[isV (wr.heap.size)] 120)) (wr.heap.size) 3 #[.int .i64 ev] := by
                have := ((Blk.new wr 3 #[.int .i64 ev]).alloc (.cells #[.int .i64 ev] 3)).alloc (.cells #[isV (wr.heap.size)] 120)
                exact this
              have he : Blk (((wr.alloc (.cells #[.int .i64 ev] 3)).alloc (.cells #[.int .i64 ev] 3)).alloc (.cells #[isV (wr.heap.size)] 120)) (wr.heap.size + 1) 3 #[.int .i64 ev] := by
                have := (Blk.new (wr.alloc (.cells #[.int .i64 ev] 3)) 3 #[.int .i64 ev]).alloc (.cells #[isV (wr.heap.size)] 120)
                rwa [World.size_alloc] at this
              have hi : Blk (((wr.alloc (.cells #[.int .i64 ev] 3)).alloc (.cells #[.int .i64 ev] 3)).alloc (.cells #[isV (wr.heap.size)] 120)) (wr.heap.size + 1 + 1) 120 #[isV (wr.heap.size)] := by
                have := Blk.new ((wr.alloc (.cells #[.int .i64 ev] 3)).alloc (.cells #[.int .i64 ev] 3)) 120 #[isV (wr.heap.size)]
                rwa [World.size_alloc, World.size_alloc] at this
              have hq := ld_leaf HLl.out HBl.out (W3 := (((wr.alloc (.cells #[.int .i64 ev] 3)).alloc (.cells #[.int .i64 ev] 3)).alloc (.cells #[isV (wr.heap.size)] 120)).drew) (((((Below.refl _ wr).alloc (Nat.le_refl _) _).alloc (by simp) _).alloc (by simp; omega) _).drew) (Blk.drew hi) (Blk.drew he) (Blk.drew hb) (by omega) (by omega) (by omega) lu
              exact ⟨⟨wr.heap.size + 1 + 1, wr.heap.size + 1, U.heap.size + 1, U.heap.size, wr.heap.size⟩, _, _, _, _, _, rfl, hq⟩
          · go_simp
            refine hK'.out _ _ ((((hLd.m.alloc _).alloc _)).cell 1 rfl) (fun hS => ?_)
            clear hK' K'
            refine wpAnyH_ready (rs := [5]) (by kernel_rfl) (by simp) ?_
            refine AllReadyH.cons rfl (fun K' hK' => ?_) AllReadyH.nil
            · go_simp
              refine hK'.out _ _ (((((hLd.m.alloc _).alloc _).alloc _)).cell 1 rfl) (fun hS => ?_)
              clear hK' K'
              refine wpAnyH_ready (rs := [7]) (by kernel_rfl) (by simp) ?_
              refine AllReadyH.cons rfl (fun K' hK' => ?_) AllReadyH.nil
              go_simp
              refine hK'.out _ _ ((((hLd.m.alloc _).alloc _).alloc _).cell 1 rfl) (fun hS => ?_)
              clear hK' K'
              refine wpAnyH_ready (rs := [8]) (by kernel_rfl) (by simp) ?_
              refine AllReadyH.cons rfl (fun K' hK' => ?_) AllReadyH.nil
              go_simp
              refine hK'.out _ _ ((((hLd.m.alloc _).alloc _).alloc _).cell 1 rfl) (fun hS => ?_)
              clear hK' K'
              refine wpAnyH_done (by kernel_rfl) ?_ _
              have hb : Blk (((wr.alloc (.cells #[.int .i64 ev] 3)).alloc (.cells #[isV (wr.heap.size)] 120)).alloc (.cells #[.int .i64 ev] 3)) (wr.heap.size) 3 #[.int .i64 ev] := by
                have := ((Blk.new wr 3 #[.int .i64 ev]).alloc (.cells #[isV (wr.heap.size)] 120)).alloc (.cells #[.int .i64 ev] 3)
                exact this
              have he : Blk (((wr.alloc (.cells #[.int .i64 ev] 3)).alloc (.cells #[isV (wr.heap.size)] 120)).alloc (.cells #[.int .i64 ev] 3)) (wr.heap.size + 1 + 1) 3 #[.int .i64 ev] := by
                have := Blk.new ((wr.alloc (.cells #[.int .i64 ev] 3)).alloc (.cells #[isV (wr.heap.size)] 120)) 3 #[.int .i64 ev]
                rwa [World.size_alloc, World.size_alloc] at this
              have hi : Blk (((wr.alloc (.cells #[.int .i64 ev] 3)).alloc (.cells #[isV (wr.heap.size)] 120)).alloc (.cells #[.int .i64 ev] 3)) (wr.heap.size + 1) 120 #[isV (wr.heap.size)] := by
                have := (Blk.new (wr.alloc (.cells #[.int .i64 ev] 3)) 120 #[isV (wr.heap.size)]).alloc (.cells #[.int .i64 ev] 3)
                rwa [World.size_alloc] at this
              have hq := ld_leaf HLl.out HBl.out (W3 := (((wr.alloc (.cells #[.int .i64 ev] 3)).alloc (.cells #[isV (wr.heap.size)] 120)).alloc (.cells #[.int .i64 ev] 3)).drew) (((((Below.refl _ wr).alloc (Nat.le_refl _) _).alloc (by simp) _).alloc (by simp; omega) _).drew) (Blk.drew hi) (Blk.drew he) (Blk.drew hb) (by omega) (by omega) (by omega) lu
              exact ⟨⟨wr.heap.size + 1, wr.heap.size + 1 + 1, U.heap.size + 1, U.heap.size, wr.heap.size⟩, _, _, _, _, _, rfl, hq⟩
        · go_simp
          refine hK'.out _ _ (((hLd.m.alloc _)).cell 1 rfl) (fun hS => ?_)
          clear hK' K'
          refine wpAnyH_ready (rs := [4, 6]) (by kernel_rfl) (by simp) ?_
          refine AllReadyH.cons rfl (fun K' hK' => ?_) (AllReadyH.cons rfl (fun K' hK' => ?_) AllReadyH.nil)
          · go_simp
            refine (within_any _ _).mono ?_
            rintro e0 W' ⟨rfl, rfl⟩
            refine hK'.out _ _ ((((hLd.m.alloc _).alloc _)).cell 1 rfl) (fun hS => ?_)
            clear hK' K'
            refine wpAnyH_ready (rs := [6]) (by kernel_rfl) (by simp) ?_
            refine AllReadyH.cons rfl (fun K' hK' => ?_) AllReadyH.nil
            · go_simp
              refine hK'.out _ _ (((((hLd.m.alloc _).alloc _).alloc _)).cell 1 rfl) (fun hS => ?_)
              clear hK' K'
              refine wpAnyH_ready (rs := [7]) (by kernel_rfl) (by simp) ?_
              refine AllReadyH.cons rfl (fun K' hK' => ?_) AllReadyH.nil
              go_simp
              refine hK'.out _ _ ((((hLd.m.alloc _).alloc _).alloc _).cell 1 rfl) (fun hS => ?_)
              clear hK' K'
              refine wpAnyH_ready (rs := [8]) (by kernel_rfl) (by simp) ?_
              refine AllReadyH.cons rfl (fun K' hK' => ?_) AllReadyH.nil
              go_simp
              refine hK'.out _ _ ((((hLd.m.alloc _).alloc _).alloc _).cell 1 rfl) (fun hS => ?_)
              clear hK' K'
              refine wpAnyH_done (by kernel_rfl) ?_ _
              have hb : Blk (((wr.alloc (.cells #[.int .i64 ev] 3)).alloc (.cells #[.int .i64 ev] 3)).alloc (.cells #[isV (wr.heap.size + 1)] 120)) (wr.heap.size + 1) 3 #[.int .i64 ev] := by
                have := (Blk.new (wr.alloc (.cells #[.int .i64 ev] 3)) 3 #[.int .i64 ev]).alloc (.cells #[isV (wr.heap.size + 1)] 120)
                rwa [World.size_alloc] at this
              have he : Blk (((wr.alloc (.cells #[.int .i64 ev] 3)).alloc (.cells #[.int .i64 ev] 3)).alloc (.cells #[isV (wr.heap.size + 1)] 120)) (wr.heap.size) 3 #[.int .i64 ev] := by
                have := ((Blk.new wr 3 #[.int .i64 ev]).alloc (.cells #[.int .i64 ev] 3)).alloc (.cells #[isV (wr.heap.size + 1)] 120)
                exact this
              have hi : Blk (((wr.alloc (.cells #[.int .i64 ev] 3)).alloc (.cells #[.int .i64 ev] 3)).alloc (.cells #[isV (wr.heap.size + 1)] 120)) (wr.heap.size + 1 + 1) 120 #[isV (wr.heap.size + 1)] := by
                have := Blk.new ((wr.alloc (.cells #[.int .i64 ev] 3)).alloc (.cells #[.int .i64 ev] 3)) 120 #[isV (wr.heap.size + 1)]
                rwa [World.size_alloc, World.size_alloc] at this
              have hq := ld_leaf HLl.out HBl.out (W3 := (((wr.alloc (.cells #[.int .i64 ev] 3)).alloc (.cells #[.int .i64 ev] 3)).alloc (.cells #[isV (wr.heap.size + 1)] 120)).drew) (((((Below.refl _ wr).alloc (Nat.le_refl _) _).alloc (by simp) _).alloc (by simp; omega) _).drew) (Blk.drew hi) (Blk.drew he) (Blk.drew hb) (by omega) (by omega) (by omega) lu
              exact ⟨⟨wr.heap.size + 1 + 1, wr.heap.size, U.heap.size + 1, U.heap.size, wr.heap.size + 1⟩, _, _, _, _, _, rfl, hq⟩
          · go_simp
            refine hK'.out _ _ ((((hLd.m.alloc _).alloc _)).cell 1 rfl) (fun hS => ?_)
            clear hK' K'
            refine wpAnyH_ready (rs := [4]) (by kernel_rfl) (by simp) ?_
            refine AllReadyH.cons rfl (fun K' hK' => ?_) AllReadyH.nil
            · go_simp
              refine (within_any _ _).mono ?_
              rintro e0 W' ⟨rfl, rfl⟩
              refine hK'.out _ _ (((((hLd.m.alloc _).alloc _).alloc _)).cell 1 rfl) (fun hS => ?_)
              clear hK' K'
              refine wpAnyH_ready (rs := [7]) (by kernel_rfl) (by simp) ?_
              refine AllReadyH.cons rfl (fun K' hK' => ?_) AllReadyH.nil
              go_simp
              refine hK'.out _ _ ((((hLd.m.alloc _).alloc _).alloc _).cell 1 rfl) (fun hS => ?_)
              clear hK' K'
              refine wpAnyH_ready (rs := [8]) (by kernel_rfl) (by simp) ?_
              refine AllReadyH.cons rfl (fun K' hK' => ?_) AllReadyH.nil
              go_simp
              refine hK'.out _ _ ((((hLd.m.alloc _).alloc _).alloc _).cell 1 rfl) (fun hS => ?_)
              clear hK' K'
              refine wpAnyH_done (by kernel_rfl) ?_ _
              have hb : Blk (((wr.alloc (.cells #[.int .i64 ev] 3)).alloc (.cells #[isV (wr.heap.size + 1 + 1)] 120)).alloc (.cells #[.int .i64 ev] 3)) (wr.heap.size + 1 + 1) 3 #[.int .i64 ev] := by
                have := Blk.new ((wr.alloc (.cells #[.int .i64 ev] 3)).alloc (.cells #[isV (wr.heap.size + 1 + 1)] 120)) 3 #[.int .i64 ev]
                rwa [World.size_alloc, World.size_alloc] at this
              have he : Blk (((wr.alloc (.cells #[.int .i64 ev] 3)).alloc (.cells #[isV (wr.heap.size + 1 + 1)] 120)).alloc (.cells #[.int .i64 ev] 3)) (wr.heap.size) 3 #[.int .i64 ev] := by
                have := ((Blk.new wr 3 #[.int .i64 ev]).alloc (.cells #[isV (wr.heap.size + 1 + 1)] 120)).alloc (.cells #[.int .i64 ev] 3)
                exact this
              have hi : Blk (((wr.alloc (.cells #[.int .i64 ev] 3)).alloc (.cells #[isV (wr.heap.size + 1 + 1)] 120)).alloc (.cells #[.int .i64 ev] 3)) (wr.heap.size + 1) 120 #[isV (wr.heap.size + 1 + 1)] := by
                have := (Blk.new (wr.alloc (.cells #[.int .i64 ev] 3)) 120 #[isV (wr.heap.size + 1 + 1)]).alloc (.cells #[.int .i64 ev] 3)
                rwa [World.size_alloc] at this
              have hq := ld_leaf HLl.out HBl.out (W3 := (((wr.alloc (.cells #[.int .i64 ev] 3)).alloc (.cells #[isV (wr.heap.size + 1 + 1)] 120)).alloc (.cells #[.int .i64 ev] 3)).drew) (((((Below.refl _ wr).alloc (Nat.le_refl _) _).alloc (by simp) _).alloc (by simp; omega) _).drew) (Blk.drew hi) (Blk.drew he) (Blk.drew hb) (by omega) (by omega) (by omega) lu
              exact ⟨⟨wr.heap.size + 1, wr.heap.size, U.heap.size + 1, U.heap.size, wr.heap.size + 1 + 1⟩, _, _, _, _, _, rfl, hq⟩
        · go_simp
          refine hK'.out _ _ (((hLd.m.alloc _)).cell 1 rfl) (fun hS => ?_)
          clear hK' K'
          refine wpAnyH_ready (rs := [4, 5]) (by kernel_rfl) (by simp) ?_
          refine AllReadyH.cons rfl (fun K' hK' => ?_) (AllReadyH.cons rfl (fun K' hK' => ?_) AllReadyH.nil)
          · go_simp
            refine (within_any _ _).mono ?_
            rintro e0 W' ⟨rfl, rfl⟩
            refine hK'.out _ _ ((((hLd.m.alloc _).alloc _)).cell 1 rfl) (fun hS => ?_)
            clear hK' K'
            refine wpAnyH_ready (rs := [5]) (by kernel_rfl) (by simp) ?_
            refine AllReadyH.cons rfl (fun K' hK' => ?_) AllReadyH.nil
            · go_simp
              refine hK'.out _ _ (((((hLd.m.alloc _).alloc _).alloc _)).cell 1 rfl) (fun hS => ?_)
              clear hK' K'
              refine wpAnyH_ready (rs := [7]) (by kernel_rfl) (by simp) ?_
              refine AllReadyH.cons rfl (fun K' hK' => ?_) AllReadyH.nil
              go_simp
              refine hK'.out _ _ ((((hLd.m.alloc _).alloc _).alloc _).cell 1 rfl) (fun hS => ?_)
              clear hK' K'
              refine wpAnyH_ready (rs := [8]) (by kernel_rfl) (by simp) ?_
              refine AllReadyH.cons rfl (fun K' hK' => ?_) AllReadyH.nil
              go_simp
              refine hK'.out _ _ ((((hLd.m.alloc _).alloc _).alloc _).cell 1 rfl) (fun hS => ?_)
              clear hK' K'
              refine wpAnyH_done (by kernel_rfl) ?_ _
              have hb : Blk (((wr.alloc (.cells #[isV (wr.heap.size + 1)] 120)).alloc (.cells #[.int .i64 ev] 3)).alloc (.cells #[.int .i64 ev] 3)) (wr.heap.size + 1) 3 #[.int .i64 ev] := by
                have := (Blk.new (wr.alloc (.cells #[isV (wr.heap.size + 1)] 120)) 3 #[.int .i64 ev]).alloc (.cells #[.int .i64 ev] 3)
                rwa [World.size_alloc] at this
              have he : Blk (((wr.alloc (.cells #[isV (wr.heap.size + 1)] 120)).alloc (.cells #[.int .i64 ev] 3)).alloc (.cells #[.int .i64 ev] 3)) (wr.heap.size + 1 + 1) 3 #[.int .i64 ev] := by
                have := Blk.new ((wr.alloc (.cells #[isV (wr.heap.size + 1)] 120)).alloc (.cells #[.int .i64 ev] 3)) 3 #[.int .i64 ev]
                rwa [World.size_alloc, World.size_alloc] at this
              have hi : Blk (((wr.alloc (.cells #[isV (wr.heap.size + 1)] 120)).alloc (.cells #[.int .i64 ev] 3)).alloc (.cells #[.int .i64 ev] 3)) (wr.heap.size) 120 #[isV (wr.heap.size + 1)] := by
                have := ((Blk.new wr 120 #[isV (wr.heap.size + 1)]).alloc (.cells #[.int .i64 ev] 3)).alloc (.cells #[.int .i64 ev] 3)
                exact this
              have hq := ld_leaf HLl.out HBl.out (W3 := (((wr.alloc (.cells #[isV (wr.heap.size + 1)] 120)).alloc (.cells #[.int .i64 ev] 3)).alloc (.cells #[.int .i64 ev] 3)).drew) (((((Below.refl _ wr).alloc (Nat.le_refl _) _).alloc (by simp) _).alloc (by simp; omega) _).drew) (Blk.drew hi) (Blk.drew he) (Blk.drew hb) (by omega) (by omega) (by omega) lu
              exact ⟨⟨wr.heap.size, wr.heap.size + 1 + 1, U.heap.size + 1, U.heap.size, wr.heap.size + 1⟩, _, _, _, _, _, rfl, hq⟩
          · go_simp
            refine hK'.out _ _ ((((hLd.m.alloc _).alloc _)).cell 1 rfl) (fun hS => ?_)
            clear hK' K'
            refine wpAnyH_ready (rs := [4]) (by kernel_rfl) (by simp) ?_
            refine AllReadyH.cons rfl (fun K' hK' => ?_) AllReadyH.nil
            · go_simp
              refine (within_any _ _).mono ?_
              rintro e0 W' ⟨rfl, rfl⟩
              refine hK'.out _ _ (((((hLd.m.alloc _).alloc _).alloc _)).cell 1 rfl) (fun hS => ?_)
              clear hK' K'
              refine wpAnyH_ready (rs := [7]) (by kernel_rfl) (by simp) ?_
              refine AllReadyH.cons rfl (fun K' hK' => ?_) AllReadyH.nil
              go_simp
              refine hK'.out _ _ ((((hLd.m.alloc _).alloc _).alloc _).cell 1 rfl) (fun hS => ?_)
              clear hK' K'
              refine wpAnyH_ready (rs := [8]) (by kernel_rfl) (by simp) ?_
              refine AllReadyH.cons rfl (fun K' hK' => ?_) AllReadyH.nil
              go_simp
              refine hK'.out _ _ ((((hLd.m.alloc _).alloc _).alloc _).cell 1 rfl) (fun hS => ?_)
              clear hK' K'
              refine wpAnyH_done (by kernel_rfl) ?_ _
              have hb : Blk (((wr.alloc (.cells #[isV (wr.heap.size + 1 + 1)] 120)).alloc (.cells #[.int .i64 ev] 3)).alloc (.cells #[.int .i64 ev] 3)) (wr.heap.size + 1 + 1) 3 #[.int .i64 ev] := by
                have := Blk.new ((wr.alloc (.cells #[isV (wr.heap.size + 1 + 1)] 120)).alloc (.cells #[.int .i64 ev] 3)) 3 #[.int .i64 ev]
                rwa [World.size_alloc, World.size_alloc] at this
              have he : Blk (((wr.alloc (.cells #[isV (wr.heap.size + 1 + 1)] 120)).alloc (.cells #[.int .i64 ev] 3)).alloc (.cells #[.int .i64 ev] 3)) (wr.heap.size + 1) 3 #[.int .i64 ev] := by
                have := (Blk.new (wr.alloc (.cells #[isV (wr.heap.size + 1 + 1)] 120)) 3 #[.int .i64 ev]).alloc (.cells #[.int .i64 ev] 3)
                rwa [World.size_alloc] at this
              have hi : Blk (((wr.alloc (.cells #[isV (wr.heap.size + 1 + 1)] 120)).alloc (.cells #[.int .i64 ev] 3)).alloc (.cells #[.int .i64 ev] 3)) (wr.heap.size) 120 #[isV (wr.heap.size + 1 + 1)] := by
                have := ((Blk.new wr 120 #[isV (wr.heap.size + 1 + 1)]).alloc (.cells #[.int .i64 ev] 3)).alloc (.cells #[.int .i64 ev] 3)
                exact this
              have hq := ld_leaf HLl.out HBl.out (W3 := (((wr.alloc (.cells #[isV (wr.heap.size + 1 + 1)] 120)).alloc (.cells #[.int .i64 ev] 3)).alloc (.cells #[.int .i64 ev] 3)).drew) (((((Below.refl _ wr).alloc (Nat.le_refl _) _).alloc (by simp) _).alloc (by simp; omega) _).drew) (Blk.drew hi) (Blk.drew he) (Blk.drew hb) (by omega) (by omega) (by omega) lu
              exact ⟨⟨wr.heap.size, wr.heap.size + 1, U.heap.size + 1, U.heap.size, wr.heap.size + 1 + 1⟩, _, _, _, _, _, rfl, hq⟩
      case aft =>
        refine regQ_imp ?_
        rintro a' W' ⟨L, r44, r45, r46, r47, r48, rfl, q1, q2, q3⟩
        have Q1 := Hid.of q1
        have Q2 := Hid.of q2
        have Q3 := Hid.of q3
        clear q1 q2 q3 z1
        go_wp2
        go_ret
        exact ⟨L, rfl, Q1.out, Q2.out, Q3.out⟩

end Go.Proofs.YtbdkaobbfmgnhaaDoor
