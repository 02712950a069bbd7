/-
  The walk of jalousieref15.Good.
-/
import Derived.Deep.RegionHeld3
import Derived.Test.YtmlkpdeidpcidaaDoorJ32
import Derived.Test.YtmlkpdeidpcidaaDoorJ31
import Derived.Test.YtmlkpdeidpcidaaDoorJ29
import Derived.Test.YtmlkpdeidpcidaaDoorJ05
import Derived.Test.YtmlkpdeidpcidaaDoorJ04
import Derived.Test.YtmlkpdeidpcidaaDoorJ18
namespace Go.Proofs.YtmlkpdeidpcidaaDoor
open Go.RowKit
set_option linter.unusedVariables false

theorem Tryd.infoBoolV : (Tryd.prog.info? 4).map (fun i => (i.zero, i.size, i.bytes)) = some (some (.bool false), 1, 1) := by kernel_rfl
theorem Tryd.infoIntsV : (Tryd.prog.info? 22).map (fun i => (i.zero, i.size, i.bytes)) = some (some (.slice none 0 0), 1, 24) := by kernel_rfl
/-- What Good leaves. -/
def GoodPost (w : World) (p : Plant) (free : List Int) (N : Nat) (e : Ending) (w' : World) : Prop := ∃ g : Nat → Bool, e = .returned (.slice (some ⟨w.heap.size + 1, 0, none⟩) N N) ∧ RowC w' (w.heap.size + 1) 4 N (fun j => .bool (g j)) ∧ TellsG p free (fun r => g (numN r)) ∧ Below w.heap.size w w'
/-- A row that lies apart from others lies apart still. -/
theorem apart_row {lv : Value} {v : Nat → Value} {N s m : Nat} {v' : Value} (h : ∀ j, j < N → ∀ b, lv.ownBlock = some b → (v j).ownBlock ≠ some b) (hl : ∀ b, lv.ownBlock = some b → b < m) (hs : s < N) (fr : v'.ownBlock = (v s).ownBlock ∨ v'.ownBlock = some m) : ∀ j, j < N → ∀ b, lv.ownBlock = some b → (if j = s then v' else v j).ownBlock ≠ some b := fun j hj b hb => by
  by_cases e : j = s
  · rw [if_pos e]
    rcases fr with f | f
    · rw [f]; exact h s hs b hb
    · rw [f]; intro h'; have := Option.some.inj h'; have := hl b hb; omega
  · rw [if_neg e]; exact h j hj b hb

theorem tok_succ {p : Plant} {free : List Int} {n k : Nat} {t : Int} (h1 : (fun j => if j < n then toNa p free j else if j = n then toNs p free n k else []) n = toNs p free n k) (h2 : toNs p free n (k + 1) = toNs p free n k ++ [t]) (j : Nat) :
    (fun x => if x = n then (fun j => if j < n then toNa p free j else if j = n then toNs p free n k else []) n ++ [t] else (fun j => if j < n then toNa p free j else if j = n then toNs p free n k else []) x) j = (fun j => if j < n then toNa p free j else if j = n then toNs p free n (k + 1) else []) j := by
  show (if j = n then _ else _) = _
  by_cases e : j = n
  · rw [if_pos e, h1, ← h2]
    show _ = if j < n then _ else _
    rw [if_neg (by omega), if_pos e]
  · rw [if_neg e]
    show (if j < n then _ else _) = if j < n then _ else _
    split
    · rfl
    · first | rfl | rw [if_neg e]

set_option maxRecDepth 100000 in
set_option maxHeartbeats 16000000 in
theorem rgood_go (p : Plant) (Pl : ML) (sa : Option Addr) (sc : Nat) (ta : Option Addr) (tc : Nat) (fa : Option Addr) (fc : Nat) (free : List Int) (w : World) (h : Hid (PAt w p ⟨Pl, sa, sc, ta, tc⟩)) (hF : Hid (At w fa free)) (hFl : Hid (free.length ≤ maxLen)) (hp : Hid (mayP p = true)) (S N : Nat) (hS : Hid (p.m.st = (S : Int))) (hS6 : S ≤ 6) (hN : Hid (N = 2 ^ S)) (hN64 : N ≤ 64) :
    Calls Tryd.prog 110 #[ptval p ⟨Pl, sa, sc, ta, tc⟩, .slice fa free.length fc] w fun e w' => GoodPost w p free N e w' := by
  have hmP := (mayP_iff p).1 hp.out
  have hMM := Hid.of hmP.1
  have hz := mayB_size hmP.1
  unfold sizeOk at hz
  have hs8 : p.seen.length ≤ 8 := by have := row_short (by omega) (by omega) hmP.2.2.1; omega
  have hal : Hid (p.m.arrows.length ≤ 4096) := by show _ ≤ _; omega
  clear hmP hz
  obtain ⟨i0, hi, hz0, hz1, hz2⟩ := info_parts Tryd.infoBoolV
  have hmk1 : ∀ w : World, (Instr.makeSlice 169 (.int .i64 N) (.int .i64 N)).run Tryd.prog w = .ok (.slice (some ⟨w.heap.size, 0, none⟩) N N) (w.alloc (.cells (madeCells #[.bool false] N) 4)) := fun w => by
    have := run_make (P := Tryd.prog) w 169 4 i0 (.bool false) Tryd.underlying169 hi hz0 .i64 .i64 N N (by omega) (by omega) (by rw [hz2]; omega) (by omega)
    rw [hz1, Int.toNat_natCast, Nat.mul_one] at this
    exact this
  clear hi hz0 hz1 hz2
  obtain ⟨i1, hi, hz0, hz1, hz2⟩ := info_parts Tryd.infoIntsV
  have hmk2 : ∀ w : World, (Instr.makeSlice 69 (.int .i64 N) (.int .i64 N)).run Tryd.prog w = .ok (.slice (some ⟨w.heap.size, 0, none⟩) N N) (w.alloc (.cells (madeCells #[.slice none 0 0] N) 22)) := fun w => by
    have := run_make (P := Tryd.prog) w 69 22 i1 (.slice none 0 0) Tryd.underlying69 hi hz0 .i64 .i64 N N (by omega) (by omega) (by rw [hz2]; omega) (by omega)
    rw [hz1, Int.toNat_natCast, Nat.mul_one] at this
    exact this
  clear hi hz0 hz1 hz2
  obtain ⟨j0, ji, jz0, jz1, jz2⟩ := info_parts Tryd.infoInt
  have A0 : Hid (GD w (((w.alloc (.cells (ptcells p ⟨Pl, sa, sc, ta, tc⟩) 44)).alloc (.cells (madeCells #[.bool false] N) 4)).alloc (.cells (madeCells #[.slice none 0 0] N) 22)) p ⟨Pl, sa, sc, ta, tc⟩ N (fun _ => false) (fun _ => .slice none 0 0) (fun _ => [])) := by
    refine ⟨(((Below.refl _ _).alloc (Nat.le_refl _) _).alloc (by simp) _).alloc (by simp; omega) _, ((Blk.new w _ _).alloc _).alloc _, ?_, ?_, fun s hs => own_nil _ _, fun s s' b hs hs' hne e => by cases e⟩
    · have := (Blk.new (w.alloc (.cells (ptcells p ⟨Pl, sa, sc, ta, tc⟩) 44)) 4 (madeCells #[.bool false] N)).alloc (.cells (madeCells #[.slice none 0 0] N) 22)
      rw [World.size_alloc] at this
      exact RowC.made this
    · have := Blk.new ((w.alloc (.cells (ptcells p ⟨Pl, sa, sc, ta, tc⟩) 44)).alloc (.cells (madeCells #[.bool false] N) 4)) 22 (madeCells #[.slice none 0 0] N)
      rw [World.size_alloc, World.size_alloc] at this
      exact RowC.made this
  have x0 : (w.alloc (.cells (ptcells p ⟨Pl, sa, sc, ta, tc⟩) 44)).cell? ⟨w.heap.size, 0, none⟩ = some (.int .i64 (S : Int)) := by rw [← hS.out]; exact (Blk.new w 44 (ptcells p ⟨Pl, sa, sc, ta, tc⟩)).cell 0 rfl
  go_enter Tryd.func110, Tryd.ntmps110
  go_wp2_with fail
  go_loopw [5, 6] (fun v i wr => ∃ (s q : Nat), i = .int .i64 s ∧ v = .int .i64 q ∧ s ≤ S ∧ q ≤ 64 ∧ Hid (q = 2 ^ s) ∧ (w.alloc (.cells (ptcells p ⟨Pl, sa, sc, ta, tc⟩) 44)) = wr) (fun _ i _ => S - (intOf i).toNat)
  case atStart => exact ⟨0, 1, rfl, rfl, Nat.zero_le _, by omega, rfl, rfl⟩
  case round =>
    obtain ⟨s, q, rfl, rfl, hs, hq, HQ, rfl⟩ := hrel
    by_cases hsl : s < S
    · have hq32 : q ≤ 32 := by
        rw [HQ.out]
        exact Nat.le_trans (Nat.pow_le_pow_right (by omega) (show s ≤ 5 by omega)) (by decide)
      have HQ2 : Hid (2 * q = 2 ^ (s + 1)) := by show _ = _; rw [HQ.out, Nat.pow_succ]; omega
      go_wp2_with fail
      go_roundw
      case rel => exact ⟨s + 1, 2 * q, by go_num, by go_num, by omega, by omega, HQ2, by first | rfl | trivial⟩
      case measure => simp [intOf]; omega
    · have hs2 : s = S := by omega
      subst hs2
      have hqN : q = N := by rw [HQ.out, hN.out]
      subst hqN
      clear hsl
      go_wp2_with fail
      clear x0
      revert A0
      generalize (((w.alloc (.cells (ptcells p ⟨Pl, sa, sc, ta, tc⟩) 44)).alloc (.cells (madeCells #[.bool false] q) 4)).alloc (.cells (madeCells #[.slice none 0 0] q) 22)) = W0
      intro A0
      obtain ⟨N, HNq⟩ : ∃ N, N = q := ⟨_, rfl⟩
      subst HNq
      go_loopw [9] (fun i wr => ∃ (n : Nat) (g : Nat → Bool) (v : Nat → Value), i = .int .i64 n ∧ n ≤ N ∧ Hid (GD w wr p ⟨Pl, sa, sc, ta, tc⟩ N g v (fun j => if j < n then toNa p free j else [])) ∧ Hid (∀ j, j < n → g j = !leakB p.secret (rowN j))) (fun i _ => N - (intOf i).toNat)
      case atStart => exact ⟨0, _, _, rfl, Nat.zero_le _, A0.out.congr (fun _ _ => rfl) (fun _ _ => rfl) (fun j hj => by rw [if_neg (by omega)]), fun j hj => absurd hj (Nat.not_lt_zero _)⟩
      case round =>
        clear A0
        obtain ⟨n, g, v, rfl, hn, HG, HL⟩ := hrel
        by_cases hlt : n < N
        · have hn64 : n < 64 := by omega
          have RR := Hid.of (rrow_any n wr hn64)
          have hrl := rowNs_len n 64
          rw [← rowN_eq] at hrl
          go_wp2_with fail
          refine RR.out.mono ?_
          rintro e V ⟨lv, rfl, ol, hb⟩
          have HV := Hid.of (HG.out.below hb)
          have OL := Hid.of (ol.low (B' := w.heap.size + 3) (Nat.le_trans (Nat.succ_le_of_lt HG.out.pl.lt) (Nat.le_refl _)))
          have NE : Hid (∀ j, j < N → ∀ b, lv.ownBlock = some b → (v j).ownBlock ≠ some b) := fun j hj b e1 e2 => by
            have h1 := (World.ownsRow.lt ol b e1).1
            have h2 := (World.ownsRow.lt (HG.out.le j hj) b e2).2
            omega
          clear ol hb RR HG
          obtain ⟨la, lc, hlv, lat, -⟩ := OL.out.at
          subst hlv
          have LA := Hid.of lat
          clear lat
          obtain ⟨RN, HRN⟩ : ∃ R, Hid (R = rowN n) := ⟨_, rfl⟩
          rw [← HRN.out] at OL NE LA hrl
          rw [← HRN.out]
          obtain ⟨y0, y1, y2, y3, y4, y5, y6⟩ := ptcell_at HV.out.kp
          go_wp2_with fail
          clear y0 y1 y2 y3 y4 y5 y6
          refine (rTells_any la ta lc tc RN p.secret _ LA.out (by omega) (h.out.t.at_.below HV.out.bel (Nat.le_refl _)) h.out.t.len).mono ?_
          rintro e V1 ⟨rfl, hb⟩
          replace HV := Hid.of (HV.out.below hb)
          replace OL : Hid (Own V1 (w.heap.size + 3) (.slice la RN.length lc) RN) := own_same OL.out (fun k hk => hb.block k (World.ownsRow.lt OL.out k hk).2)
          clear hb LA
          have g1 := HV.out.kg.cell hlt
          obtain ⟨cs1, hcs1, -, -⟩ := HV.out.kg
          have gz := hcs1.frozen n
          clear hcs1
          obtain ⟨bt, HBT⟩ : ∃ b, Hid (b = leakB p.secret RN) := ⟨_, rfl⟩
          rw [← HBT.out]
          have HS := Hid.of (HV.out.set hlt (!bt))
          have OS : Hid (Own (V1.setCell ⟨w.heap.size + 1, n, none⟩ (.bool (!bt))) (w.heap.size + 3) (.slice la RN.length lc) RN) := own_same OL.out (fun k hk => Below.heap_setCell V1 ⟨w.heap.size + 1, n, none⟩ _ k (fun e => by have h1 := (World.ownsRow.lt OL.out k hk).1; have e : k = w.heap.size + 1 := e; omega))
          go_wp2_with fail
          clear g1 gz HV OL
          revert HS OS
          generalize V1.setCell ⟨w.heap.size + 1, n, none⟩ (.bool (!bt)) = V2
          intro HS OS
          have HL2 : Hid (∀ j, j < n + 1 → (fun y => if y = n then (!bt) else g y) j = !leakB p.secret (rowN j)) := fun j hj => by
            dsimp only
            by_cases e : j = n
            · rw [if_pos e, HBT.out, HRN.out, e]
            · rw [if_neg e]; exact HL.out j (by omega)
          obtain ⟨g2, HG2⟩ : ∃ g2, Hid (g2 = fun y => if y = n then (!bt) else g y) := ⟨_, rfl⟩
          rw [← HG2.out] at HS HL2
          clear HL HBT HG2
          go_loopw [11] (fun i wr => ∃ (k : Nat) (v : Nat → Value), i = .int .i64 k ∧ k ≤ p.seen.length ∧ Hid (GD w wr p ⟨Pl, sa, sc, ta, tc⟩ N g2 v (fun j => if j < n then toNa p free j else if j = n then toNs p free n k else [])) ∧ Hid (Own wr (w.heap.size + 3) (.slice la RN.length lc) RN) ∧ Hid (∀ j, j < N → ∀ b, (Value.slice la RN.length lc).ownBlock = some b → (v j).ownBlock ≠ some b)) (fun i _ => p.seen.length - (intOf i).toNat)
          case atStart => exact ⟨0, v, rfl, Nat.zero_le _, HS.out.congr (fun _ _ => rfl) (fun _ _ => rfl) (fun j hj => by
            by_cases e : j < n
            · rw [if_pos e, if_pos e]
            · rw [if_neg e, if_neg e]
              split
              · rfl
              · rfl), OS, NE⟩
          case round =>
            clear HS OS NE
            obtain ⟨k, v, rfl, hk, HG, OL, NE⟩ := hrel
            by_cases hkl : k < p.seen.length
            · obtain ⟨sb, so, rfl, hsb, hcs⟩ : ∃ sb so, sa = some ⟨sb, so, none⟩ ∧ sb < w.heap.size ∧ Cells w sb so p.seen := by
                rcases h.out.s.at_ with h0 | h0
                · rw [h0] at hkl; simp at hkl
                · exact h0
              obtain ⟨ev, HEV, c1⟩ := hcs.at hkl
              have SEE : Hid (∀ W, GD w W p ⟨Pl, some ⟨sb, so, none⟩, sc, ta, tc⟩ N g2 v (fun j => if j < n then toNa p free j else if j = n then toNs p free n k else []) → W.cell? ⟨w.heap.size, 0, none⟩ = some (.int .i64 p.m.st) ∧ W.cell? ⟨w.heap.size, 1, none⟩ = some (.int .i64 p.m.ev) ∧ W.cell? ⟨w.heap.size, 2, none⟩ = some (.slice Pl.a1 p.m.starts.length Pl.c1) ∧ W.cell? ⟨w.heap.size, 3, none⟩ = some (.slice Pl.a2 p.m.arrows.length Pl.c2) ∧ W.cell? ⟨w.heap.size, 4, none⟩ = some (.slice Pl.a3 p.m.ends.length Pl.c3) ∧ W.cell? ⟨w.heap.size, 5, none⟩ = some (.slice (some ⟨sb, so, none⟩) p.seen.length sc) ∧ W.cell? ⟨sb, so + k, none⟩ = some (.int .i64 ev)) := fun W hW => by
                obtain ⟨y0, y1, y2, y3, y4, y5, y6⟩ := ptcell_at hW.kp
                exact ⟨y0, y1, y2, y3, y4, y5, (hW.bel.cell (p := ⟨sb, so + k, none⟩) hsb).trans c1⟩
              obtain ⟨y0, y1, y2, y3, y4, y5, c2⟩ := SEE.out _ HG.out
              have HTS := Hid.of (toNs_succ (p := p) (free := free) (n := n) hkl HEV)
              clear c1 hcs
              go_wp2_with fail
              clear y0 y1 y2 y3 y4 y5 c2
              refine (refHas_any fa fc free ev _ (hF.out.below HG.out.bel (Nat.le_refl _)) hFl.out).mono ?_
              rintro e W1 ⟨rfl, rfl⟩
              cases hfe : hasB free ev with
              | true =>
                have HT2 : Hid (toNs p free n (k + 1) = toNs p free n k) := by show _ = _; rw [HTS.out, if_pos hfe]
                clear hfe HTS SEE
                go_wp2_with fail
                go_roundw
                case rel => exact ⟨k + 1, v, by go_num, by omega, HG.out.congr (fun _ _ => rfl) (fun _ _ => rfl) (fun j hj => by rw [HT2.out]), OL, NE⟩
                case measure => simp [intOf]; omega
              | false =>
                obtain ⟨nx, HNX⟩ : ∃ nx, Hid (nx = seeL p (rowN n) ev) := ⟨_, rfl⟩
                have HT2 : Hid (toNs p free n (k + 1) = toNs p free n k ++ [((numN nx : Nat) : Int)]) := by show _ = _; rw [HTS.out, hfe, HNX.out]; rfl
                clear hfe HTS
                have hnxi : Hid (Inc nx ∧ ∀ x ∈ nx, 0 ≤ x ∧ x < 6) := by
                  have h1 := see_in hMM.out (rowN n) ev
                  have h2 := hS.out
                  show _ ∧ _
                  rw [HNX.out]
                  exact ⟨h1.1, fun x hx => by have := h1.2 x hx; omega⟩
                have SEK : Hid (∀ W, GD w W p ⟨Pl, some ⟨sb, so, none⟩, sc, ta, tc⟩ N g2 v (fun j => if j < n then toNa p free j else if j = n then toNs p free n k else []) → Own W (w.heap.size + 3) (.slice la RN.length lc) RN → Calls Tryd.prog 74 #[mval p.m Pl, .slice la RN.length lc, .slice (some ⟨sb, so, none⟩) p.seen.length sc, .int .i64 ev] W fun e w' => GivesO W nx e w') := fun W hW oW => by
                  obtain ⟨la', lc', e1, at1, ln1⟩ := oW.at
                  cases e1
                  have := refSeeing_any p.m Pl la (some ⟨sb, so, none⟩) lc sc RN p.seen ev W (h.out.m.a.below hW.bel (Nat.le_refl _)) hal.out (may_to hMM.out) at1 ln1 (h.out.s.at_.below hW.bel (Nat.le_refl _)) h.out.s.len
                  have e2 : seeingL p.m.arrows p.seen RN ev = nx := by rw [HNX.out, HRN.out]; rfl
                  rw [e2] at this
                  exact this
                go_wp2_with fail
                refine wp_region_held_drew (S := fun w' => w'.cell? ⟨w.heap.size, 0, none⟩ = some (.int .i64 p.m.st) ∧ w'.cell? ⟨w.heap.size, 1, none⟩ = some (.int .i64 p.m.ev) ∧ w'.cell? ⟨w.heap.size, 2, none⟩ = some (.slice Pl.a1 p.m.starts.length Pl.c1) ∧ w'.cell? ⟨w.heap.size, 3, none⟩ = some (.slice Pl.a2 p.m.arrows.length Pl.c2) ∧ w'.cell? ⟨w.heap.size, 4, none⟩ = some (.slice Pl.a3 p.m.ends.length Pl.c3) ∧ w'.cell? ⟨w.heap.size, 5, none⟩ = some (.slice (some ⟨sb, so, none⟩) p.seen.length sc) ∧ w'.cell? ⟨sb, so + k, none⟩ = some (.int .i64 ev)) (by kernel_rfl) (SEE.out _ (HG.out.drewG)) (fun hS0 => ?_)
                replace HG : Hid (GD w W1.drew p ⟨Pl, some ⟨sb, so, none⟩, sc, ta, tc⟩ N g2 v (fun j => if j < n then toNa p free j else if j = n then toNs p free n k else [])) := HG.out.drewG
                replace OL : Hid (Own W1.drew (w.heap.size + 3) (.slice la RN.length lc) RN) := own_same OL.out (fun _ _ => rfl)
                revert hS0 HG OL
                generalize W1.drew = Y0
                intro hS0 HG OL
                refine wpAnyH_take (i := 0) (v := .pointer (some ⟨w.heap.size, 0, none⟩)) rfl (by kernel_rfl) (by kernel_rfl) (by kernel_rfl) (fun _ _ _ h => h) (Or.inl ⟨by kernel_rfl, fun w' hw' => by obtain ⟨q0, q1, q2, q3, q4, q5, q6⟩ := hw'; go_simp⟩) hS0 ?_
                refine wpAnyH_take (i := 1) (v := .agg #[.int .i64 p.m.st, .int .i64 p.m.ev, .slice Pl.a1 p.m.starts.length Pl.c1, .slice Pl.a2 p.m.arrows.length Pl.c2, .slice Pl.a3 p.m.ends.length Pl.c3]) rfl (by kernel_rfl) (by kernel_rfl) (by kernel_rfl) (fun _ _ _ h => h) (Or.inl ⟨by kernel_rfl, fun w' hw' => by obtain ⟨q0, q1, q2, q3, q4, q5, q6⟩ := hw'; go_simp⟩) hS0 ?_
                refine wpAnyH_take (i := 2) (v := .slice la RN.length lc) rfl (by kernel_rfl) (by kernel_rfl) (by kernel_rfl) (fun _ _ _ h => h) (Or.inl ⟨by kernel_rfl, fun w' hw' => by obtain ⟨q0, q1, q2, q3, q4, q5, q6⟩ := hw'; go_simp⟩) hS0 ?_
                refine wpAnyH_take (i := 3) (v := .pointer (some ⟨w.heap.size, 5, none⟩)) rfl (by kernel_rfl) (by kernel_rfl) (by kernel_rfl) (fun _ _ _ h => h) (Or.inl ⟨by kernel_rfl, fun w' hw' => by obtain ⟨q0, q1, q2, q3, q4, q5, q6⟩ := hw'; go_simp⟩) hS0 ?_
                refine wpAnyH_take (i := 4) (v := .slice (some ⟨sb, so, none⟩) p.seen.length sc) rfl (by kernel_rfl) (by kernel_rfl) (by kernel_rfl) (fun _ _ _ h => h) (Or.inl ⟨by kernel_rfl, fun w' hw' => by obtain ⟨q0, q1, q2, q3, q4, q5, q6⟩ := hw'; go_simp⟩) hS0 ?_
                refine wpAnyH_take (i := 5) (v := .pointer (some ⟨w.heap.size, 5, none⟩)) rfl (by kernel_rfl) (by kernel_rfl) (by kernel_rfl) (fun _ _ _ h => h) (Or.inl ⟨by kernel_rfl, fun w' hw' => by obtain ⟨q0, q1, q2, q3, q4, q5, q6⟩ := hw'; go_simp⟩) hS0 ?_
                refine wpAnyH_take (i := 6) (v := .slice (some ⟨sb, so, none⟩) p.seen.length sc) rfl (by kernel_rfl) (by kernel_rfl) (by kernel_rfl) (fun _ _ _ h => h) (Or.inl ⟨by kernel_rfl, fun w' hw' => by obtain ⟨q0, q1, q2, q3, q4, q5, q6⟩ := hw'; go_simp⟩) hS0 ?_
                refine wpAnyH_take (i := 7) (v := .int .i64 k) rfl (by kernel_rfl) (by kernel_rfl) (by kernel_rfl) (fun _ _ _ h => h) (Or.inl ⟨by kernel_rfl, fun w' hw' => by obtain ⟨q0, q1, q2, q3, q4, q5, q6⟩ := hw'; go_simp⟩) hS0 ?_
                refine wpAnyH_take (i := 8) (v := .pointer (some ⟨sb, so + k, none⟩)) rfl (by kernel_rfl) (by kernel_rfl) (by kernel_rfl) (fun _ _ _ h => h) (Or.inl ⟨by kernel_rfl, fun w' hw' => by obtain ⟨q0, q1, q2, q3, q4, q5, q6⟩ := hw'; go_simp⟩) hS0 ?_
                refine wpAnyH_take (i := 9) (v := .int .i64 ev) rfl (by kernel_rfl) (by kernel_rfl) (by kernel_rfl) (fun _ _ _ h => h) (Or.inl ⟨by kernel_rfl, fun w' hw' => by obtain ⟨q0, q1, q2, q3, q4, q5, q6⟩ := hw'; go_simp⟩) hS0 ?_
                simp only [Act.put, List.setIfInBounds_toArray]
                refine wpAnyH_ready (rs := [10]) (by kernel_rfl) (by simp) ?_
                refine AllReadyH.cons rfl (fun K' hK' => ?_) AllReadyH.nil
                clear hS0
                go_simp
                refine (SEK.out _ HG.out OL.out).mono ?_
                rintro e Y1 ⟨nv, rfl, onx, hb⟩
                have ONX := Hid.of (onx.low (B' := w.heap.size + 3) (Nat.succ_le_of_lt HG.out.pl.lt))
                replace HG := Hid.of (HG.out.below hb)
                replace OL : Hid (Own Y1 (w.heap.size + 3) (.slice la RN.length lc) RN) := own_same OL.out (fun k hk => hb.block k (World.ownsRow.lt OL.out k hk).2)
                refine hK'.out _ _ (SEE.out _ HG.out) (fun hS1 => ?_)
                clear hK' K' hb onx SEK
                obtain ⟨xa, xc, hnv, xat, -⟩ := ONX.out.at
                subst hnv
                have XA := Hid.of xat
                clear xat
                refine wpAnyH_take (i := 11) (v := .slice xa nx.length xc) rfl (by kernel_rfl) (by kernel_rfl) (by kernel_rfl) (fun _ _ _ h => h) (Or.inl ⟨by kernel_rfl, fun w' hw' => by obtain ⟨q0, q1, q2, q3, q4, q5, q6⟩ := hw'; go_simp⟩) hS1 ?_
                refine wpAnyH_done (by kernel_rfl) ?_ _
                clear hS1 SEE
                go_wp2_with fail
                simp only [Act.put, List.setIfInBounds_toArray]
                have hLd : Hid ((fun j => if j < n then toNa p free j else if j = n then toNs p free n k else []) n = toNs p free n k) := by show _ = _; dsimp only; rw [if_neg (Nat.lt_irrefl n), if_pos rfl]
                obtain ⟨L, HLn⟩ : ∃ L, Hid (L = toNs p free n k) := ⟨_, rfl⟩
                have hLl : L.length ≤ 8 := by rw [HLn.out]; exact Nat.le_trans (toNs_len _ _ _ _) (by omega)
                have HO : Hid (Own Y1 (w.heap.size + 3) (v n) L) := by show Own _ _ _ _; rw [HLn.out, ← hLd.out]; exact HG.out.le n hlt
                obtain ⟨va, vc, hva, -, hv1, hv2⟩ := HO.out.at2
                have HVA := Hid.of hva
                rw [hva] at HO
                clear hva hv1 hv2
                obtain ⟨t, HTN⟩ : ∃ t : Nat, Hid (t = numN nx) := ⟨_, rfl⟩
                have ht64 : t < 64 := by rw [HTN.out]; exact num_lt (n := 6) hnxi.out.1 (fun x hx => by have := hnxi.out.2 x hx; omega)
                rw [← HTN.out] at HT2
                have hnxl : nx.length ≤ 64 := Nat.le_trans (inc_short hnxi.out.1 hnxi.out.2) (by omega)
                have PC : Hid (∀ W, GD w W p ⟨Pl, some ⟨sb, so, none⟩, sc, ta, tc⟩ N g2 v (fun j => if j < n then toNa p free j else if j = n then toNs p free n k else []) → W.cell? ⟨w.heap.size + 1 + 1, n, none⟩ = some (.slice va L.length vc)) := fun W hW => by
                  have := hW.pl.cell hlt
                  rw [HVA.out] at this
                  exact this
                have NUM : Hid (∀ W, At W xa nx → Calls Tryd.prog 111 #[.slice xa nx.length xc] W fun e w' => e = .returned (.int .i64 (t : Int)) ∧ w' = W) := fun W hW => by
                  have := rnum_any xa xc nx W (Hid.of hW) (Hid.of hnxi.out.1) (Hid.of hnxi.out.2) hnxl
                  rw [← HTN.out] at this
                  exact this
                refine wp_region_held_drew (S := fun _ => True) (by kernel_rfl) trivial (fun hS0 => ?_)
                replace HG : Hid (GD w Y1.drew p ⟨Pl, some ⟨sb, so, none⟩, sc, ta, tc⟩ N g2 v (fun j => if j < n then toNa p free j else if j = n then toNs p free n k else [])) := HG.out.drewG
                replace OL : Hid (Own Y1.drew (w.heap.size + 3) (.slice la RN.length lc) RN) := own_same OL.out (fun _ _ => rfl)
                replace HO : Hid (Own Y1.drew (w.heap.size + 3) (.slice va L.length vc) L) := own_same HO.out (fun _ _ => rfl)
                replace XA : Hid (At Y1.drew xa nx) := (show At Y1.drew xa nx from XA.out)
                clear ONX
                revert hS0 HG OL HO XA
                generalize Y1.drew = Y2
                intro hS0 HG OL HO XA
                have b2 : Hid (Below Y2.heap.size Y2 (Y2.alloc (.cells #[.int .i64 (t : Int)] 3))) := (Below.refl _ _).alloc (Nat.le_refl _) _
                refine wpAnyH_take (i := 0) (v := .slice (some ⟨w.heap.size + 1 + 1, 0, none⟩) N N) rfl (by kernel_rfl) (by kernel_rfl) (by kernel_rfl) (fun _ _ _ h => h) (Or.inl ⟨by kernel_rfl, fun w' hw' => by go_simp⟩) hS0 ?_
                refine wpAnyH_take (i := 1) (v := .int .i64 n) rfl (by kernel_rfl) (by kernel_rfl) (by kernel_rfl) (fun _ _ _ h => h) (Or.inl ⟨by kernel_rfl, fun w' hw' => by go_simp⟩) hS0 ?_
                refine wpAnyH_take (i := 2) (v := .slice (some ⟨w.heap.size + 1 + 1, 0, none⟩) N N) rfl (by kernel_rfl) (by kernel_rfl) (by kernel_rfl) (fun _ _ _ h => h) (Or.inl ⟨by kernel_rfl, fun w' hw' => by go_simp⟩) hS0 ?_
                refine wpAnyH_take (i := 3) (v := .int .i64 n) rfl (by kernel_rfl) (by kernel_rfl) (by kernel_rfl) (fun _ _ _ h => h) (Or.inl ⟨by kernel_rfl, fun w' hw' => by go_simp⟩) hS0 ?_
                refine wpAnyH_take (i := 4) (v := .pointer (some ⟨w.heap.size + 1 + 1, n, none⟩)) rfl (by kernel_rfl) (by kernel_rfl) (by kernel_rfl) (fun _ _ _ h => h) (Or.inl ⟨by kernel_rfl, fun w' hw' => by go_simp⟩) hS0 ?_
                refine wpAnyH_take (i := 6) (v := .slice xa nx.length xc) rfl (by kernel_rfl) (by kernel_rfl) (by kernel_rfl) (fun _ _ _ h => h) (Or.inl ⟨by kernel_rfl, fun w' hw' => by go_simp⟩) hS0 ?_
                simp only [Act.put]
                refine wpAnyH_ready (rs := [5, 7]) (by kernel_rfl) (by simp) ?_
                refine AllReadyH.cons rfl (fun K' hK' => ?_) (AllReadyH.cons rfl (fun K' hK' => ?_) AllReadyH.nil)
                · have pc := PC.out _ HG.out
                  go_simp
                  refine hK'.out _ _ trivial (fun _ => ?_)
                  clear hK' K' pc
                  refine wpAnyH_ready (rs := [7]) (by kernel_rfl) (by simp) ?_
                  refine AllReadyH.cons rfl (fun K' hK' => ?_) AllReadyH.nil
                  go_simp
                  refine (NUM.out _ XA.out).mono ?_
                  rintro e Y3 ⟨rfl, rfl⟩
                  refine hK'.out _ _ trivial (fun _ => ?_)
                  clear hK' K'
                  refine wpAnyH_ready (rs := [8]) (by kernel_rfl) (by simp) ?_
                  refine AllReadyH.cons rfl (fun K' hK' => ?_) AllReadyH.nil
                  go_simp
                  refine hK'.out _ _ trivial (fun _ => ?_)
                  clear hK' K'
                  refine wpAnyH_ready (rs := [9]) (by kernel_rfl) (by simp) ?_
                  refine AllReadyH.cons rfl (fun K' hK' => ?_) AllReadyH.nil
                  have hszz := HG.out.pl.lt
                  refine step_append_block rfl (.tmp 75) (.tmp 78) 22 rfl (w.heap.size + 3) 3 j0 (.int .i64 0) 1 8 Tryd.underlying22 ji jz0 jz1 jz2 rfl (by decide) _ L.length (L.map (Value.int .i64)) rfl (World.ownsRow.alloc HO.out _) ⟨Y3.heap.size, 0, none⟩ 1 1 [.int .i64 (t : Int)] rfl rfl (cell_one_new _ _ _) (by intro u hu; simp at hu; subst hu; rfl) (by decide) (by unfold maxLen; omega) (by omega) (by rw [World.size_alloc]; omega) ?_
                  intro v7 w7 o7 g7 n7
                  have O7 : Own w7 (w.heap.size + 3) v7 (L ++ [(t : Int)]) := by unfold Own; rw [List.length_append, List.map_append]; exact o7
                  have O7' : Own w7 (w.heap.size + 3) v7 ((fun j => if j < n then toNa p free j else if j = n then toNs p free n k else []) n ++ [(t : Int)]) := by rw [hLd.out, ← HLn.out]; exact O7
                  rw [← HVA.out] at g7 n7
                  obtain ⟨r1, r2⟩ := GD.lead HG.out b2.out hlt O7' g7 n7
                  have K1 := Hid.of (GD.keepL (v' := v7) HG.out b2.out hlt g7 OL.out NE.out)
                  have N1 := Hid.of (apart_row NE.out (fun b hb => Nat.lt_of_lt_of_le (World.ownsRow.lt OL.out b hb).2 b2.out.size) hlt n7)
                  obtain ⟨ga, gc, hv7, -, -, -⟩ := own_form2 O7
                  have hl7 : (L ++ [(t : Int)]).length = L.length + 1 := by simp
                  rw [hl7] at hv7
                  subst hv7
                  have y3 : w7.cell? ⟨w.heap.size + 1 + 1, n, none⟩ = some (.slice va L.length vc) := by have := r1.cell hlt; rw [HVA.out] at this; exact this
                  have yf : w7.frozen? ⟨w.heap.size + 1 + 1, n, none⟩ = false := by obtain ⟨cs, hb, -, -⟩ := r1; exact hb.frozen n
                  have R2 := Hid.of r2
                  refine hK'.out _ _ trivial (fun hS3 => ?_)
                  clear hK' K' r1 r2 O7 O7' o7 g7 n7 hl7
                  refine wpAnyH_take (i := 10) (v := .pointer (some ⟨w.heap.size + 1 + 1, n, none⟩)) rfl (by kernel_rfl) (by kernel_rfl) (by kernel_rfl) (fun _ _ _ h => h) (Or.inl ⟨by kernel_rfl, fun w' hw' => by go_simp⟩) hS3 ?_
                  simp only [Act.put, List.setIfInBounds_toArray]
                  refine wpAnyH_ready (rs := [11]) (by kernel_rfl) (by simp) ?_
                  refine AllReadyH.cons rfl (fun K' hK' => ?_) AllReadyH.nil
                  go_simp
                  refine hK'.out _ _ trivial (fun hS4 => ?_)
                  clear hK' K' hS4 hS3 hS0
                  refine wpAnyH_done (by kernel_rfl) ?_ _
                  clear y3 yf HG OL NE HO b2 PC NUM XA
                  have R3 : Hid (GD w (w7.setCell ⟨w.heap.size + 1 + 1, n, none⟩ (.slice ga (L.length + 1) gc)) p ⟨Pl, some ⟨sb, so, none⟩, sc, ta, tc⟩ N g2 (fun x => if x = n then .slice ga (L.length + 1) gc else v x) (fun x => if x = n then (fun j => if j < n then toNa p free j else if j = n then toNs p free n k else []) n ++ [(t : Int)] else (fun j => if j < n then toNa p free j else if j = n then toNs p free n k else []) x)) := R2
                  have K3 : Hid (Own (w7.setCell ⟨w.heap.size + 1 + 1, n, none⟩ (.slice ga (L.length + 1) gc)) (w.heap.size + 3) (.slice la RN.length lc) RN) := K1
                  clear R2 K1
                  revert R3 K3
                  generalize w7.setCell ⟨w.heap.size + 1 + 1, n, none⟩ (.slice ga (L.length + 1) gc) = Y4
                  intro R2 K1
                  go_wp2_with fail
                  go_roundw
                  case rel => exact ⟨k + 1, _, by go_num, by omega, R2.out.congr (fun _ _ => rfl) (fun _ _ => rfl) (fun j hj => tok_succ hLd.out HT2.out j), K1, N1⟩
                  case measure => simp [intOf]; omega
                · go_simp
                  refine (NUM.out _ XA.out).mono ?_
                  rintro e Y3 ⟨rfl, rfl⟩
                  refine hK'.out _ _ trivial (fun _ => ?_)
                  clear hK' K'
                  refine wpAnyH_ready (rs := [5, 8]) (by kernel_rfl) (by simp) ?_
                  refine AllReadyH.cons rfl (fun K' hK' => ?_) (AllReadyH.cons rfl (fun K' hK' => ?_) AllReadyH.nil)
                  · have pc := PC.out _ HG.out
                    go_simp
                    refine hK'.out _ _ trivial (fun _ => ?_)
                    clear hK' K' pc
                    refine wpAnyH_ready (rs := [8]) (by kernel_rfl) (by simp) ?_
                    refine AllReadyH.cons rfl (fun K' hK' => ?_) AllReadyH.nil
                    go_simp
                    refine hK'.out _ _ trivial (fun _ => ?_)
                    clear hK' K'
                    refine wpAnyH_ready (rs := [9]) (by kernel_rfl) (by simp) ?_
                    refine AllReadyH.cons rfl (fun K' hK' => ?_) AllReadyH.nil
                    have hszz := HG.out.pl.lt
                    refine step_append_block rfl (.tmp 75) (.tmp 78) 22 rfl (w.heap.size + 3) 3 j0 (.int .i64 0) 1 8 Tryd.underlying22 ji jz0 jz1 jz2 rfl (by decide) _ L.length (L.map (Value.int .i64)) rfl (World.ownsRow.alloc HO.out _) ⟨Y3.heap.size, 0, none⟩ 1 1 [.int .i64 (t : Int)] rfl rfl (cell_one_new _ _ _) (by intro u hu; simp at hu; subst hu; rfl) (by decide) (by unfold maxLen; omega) (by omega) (by rw [World.size_alloc]; omega) ?_
                    intro v7 w7 o7 g7 n7
                    have O7 : Own w7 (w.heap.size + 3) v7 (L ++ [(t : Int)]) := by unfold Own; rw [List.length_append, List.map_append]; exact o7
                    have O7' : Own w7 (w.heap.size + 3) v7 ((fun j => if j < n then toNa p free j else if j = n then toNs p free n k else []) n ++ [(t : Int)]) := by rw [hLd.out, ← HLn.out]; exact O7
                    rw [← HVA.out] at g7 n7
                    obtain ⟨r1, r2⟩ := GD.lead HG.out b2.out hlt O7' g7 n7
                    have K1 := Hid.of (GD.keepL (v' := v7) HG.out b2.out hlt g7 OL.out NE.out)
                    have N1 := Hid.of (apart_row NE.out (fun b hb => Nat.lt_of_lt_of_le (World.ownsRow.lt OL.out b hb).2 b2.out.size) hlt n7)
                    obtain ⟨ga, gc, hv7, -, -, -⟩ := own_form2 O7
                    have hl7 : (L ++ [(t : Int)]).length = L.length + 1 := by simp
                    rw [hl7] at hv7
                    subst hv7
                    have y3 : w7.cell? ⟨w.heap.size + 1 + 1, n, none⟩ = some (.slice va L.length vc) := by have := r1.cell hlt; rw [HVA.out] at this; exact this
                    have yf : w7.frozen? ⟨w.heap.size + 1 + 1, n, none⟩ = false := by obtain ⟨cs, hb, -, -⟩ := r1; exact hb.frozen n
                    have R2 := Hid.of r2
                    refine hK'.out _ _ trivial (fun hS3 => ?_)
                    clear hK' K' r1 r2 O7 O7' o7 g7 n7 hl7
                    refine wpAnyH_take (i := 10) (v := .pointer (some ⟨w.heap.size + 1 + 1, n, none⟩)) rfl (by kernel_rfl) (by kernel_rfl) (by kernel_rfl) (fun _ _ _ h => h) (Or.inl ⟨by kernel_rfl, fun w' hw' => by go_simp⟩) hS3 ?_
                    simp only [Act.put, List.setIfInBounds_toArray]
                    refine wpAnyH_ready (rs := [11]) (by kernel_rfl) (by simp) ?_
                    refine AllReadyH.cons rfl (fun K' hK' => ?_) AllReadyH.nil
                    go_simp
                    refine hK'.out _ _ trivial (fun hS4 => ?_)
                    clear hK' K' hS4 hS3 hS0
                    refine wpAnyH_done (by kernel_rfl) ?_ _
                    clear y3 yf HG OL NE HO b2 PC NUM XA
                    have R3 : Hid (GD w (w7.setCell ⟨w.heap.size + 1 + 1, n, none⟩ (.slice ga (L.length + 1) gc)) p ⟨Pl, some ⟨sb, so, none⟩, sc, ta, tc⟩ N g2 (fun x => if x = n then .slice ga (L.length + 1) gc else v x) (fun x => if x = n then (fun j => if j < n then toNa p free j else if j = n then toNs p free n k else []) n ++ [(t : Int)] else (fun j => if j < n then toNa p free j else if j = n then toNs p free n k else []) x)) := R2
                    have K3 : Hid (Own (w7.setCell ⟨w.heap.size + 1 + 1, n, none⟩ (.slice ga (L.length + 1) gc)) (w.heap.size + 3) (.slice la RN.length lc) RN) := K1
                    clear R2 K1
                    revert R3 K3
                    generalize w7.setCell ⟨w.heap.size + 1 + 1, n, none⟩ (.slice ga (L.length + 1) gc) = Y4
                    intro R2 K1
                    go_wp2_with fail
                    go_roundw
                    case rel => exact ⟨k + 1, _, by go_num, by omega, R2.out.congr (fun _ _ => rfl) (fun _ _ => rfl) (fun j hj => tok_succ hLd.out HT2.out j), K1, N1⟩
                    case measure => simp [intOf]; omega
                  · go_simp
                    refine hK'.out _ _ trivial (fun _ => ?_)
                    clear hK' K'
                    refine wpAnyH_ready (rs := [5]) (by kernel_rfl) (by simp) ?_
                    refine AllReadyH.cons rfl (fun K' hK' => ?_) AllReadyH.nil
                    have pc := PC.out _ (HG.out.below b2.out)
                    go_simp
                    refine hK'.out _ _ trivial (fun _ => ?_)
                    clear hK' K' pc
                    refine wpAnyH_ready (rs := [9]) (by kernel_rfl) (by simp) ?_
                    refine AllReadyH.cons rfl (fun K' hK' => ?_) AllReadyH.nil
                    have hszz := HG.out.pl.lt
                    refine step_append_block rfl (.tmp 75) (.tmp 78) 22 rfl (w.heap.size + 3) 3 j0 (.int .i64 0) 1 8 Tryd.underlying22 ji jz0 jz1 jz2 rfl (by decide) _ L.length (L.map (Value.int .i64)) rfl (World.ownsRow.alloc HO.out _) ⟨Y3.heap.size, 0, none⟩ 1 1 [.int .i64 (t : Int)] rfl rfl (cell_one_new _ _ _) (by intro u hu; simp at hu; subst hu; rfl) (by decide) (by unfold maxLen; omega) (by omega) (by rw [World.size_alloc]; omega) ?_
                    intro v7 w7 o7 g7 n7
                    have O7 : Own w7 (w.heap.size + 3) v7 (L ++ [(t : Int)]) := by unfold Own; rw [List.length_append, List.map_append]; exact o7
                    have O7' : Own w7 (w.heap.size + 3) v7 ((fun j => if j < n then toNa p free j else if j = n then toNs p free n k else []) n ++ [(t : Int)]) := by rw [hLd.out, ← HLn.out]; exact O7
                    rw [← HVA.out] at g7 n7
                    obtain ⟨r1, r2⟩ := GD.lead HG.out b2.out hlt O7' g7 n7
                    have K1 := Hid.of (GD.keepL (v' := v7) HG.out b2.out hlt g7 OL.out NE.out)
                    have N1 := Hid.of (apart_row NE.out (fun b hb => Nat.lt_of_lt_of_le (World.ownsRow.lt OL.out b hb).2 b2.out.size) hlt n7)
                    obtain ⟨ga, gc, hv7, -, -, -⟩ := own_form2 O7
                    have hl7 : (L ++ [(t : Int)]).length = L.length + 1 := by simp
                    rw [hl7] at hv7
                    subst hv7
                    have y3 : w7.cell? ⟨w.heap.size + 1 + 1, n, none⟩ = some (.slice va L.length vc) := by have := r1.cell hlt; rw [HVA.out] at this; exact this
                    have yf : w7.frozen? ⟨w.heap.size + 1 + 1, n, none⟩ = false := by obtain ⟨cs, hb, -, -⟩ := r1; exact hb.frozen n
                    have R2 := Hid.of r2
                    refine hK'.out _ _ trivial (fun hS3 => ?_)
                    clear hK' K' r1 r2 O7 O7' o7 g7 n7 hl7
                    refine wpAnyH_take (i := 10) (v := .pointer (some ⟨w.heap.size + 1 + 1, n, none⟩)) rfl (by kernel_rfl) (by kernel_rfl) (by kernel_rfl) (fun _ _ _ h => h) (Or.inl ⟨by kernel_rfl, fun w' hw' => by go_simp⟩) hS3 ?_
                    simp only [Act.put, List.setIfInBounds_toArray]
                    refine wpAnyH_ready (rs := [11]) (by kernel_rfl) (by simp) ?_
                    refine AllReadyH.cons rfl (fun K' hK' => ?_) AllReadyH.nil
                    go_simp
                    refine hK'.out _ _ trivial (fun hS4 => ?_)
                    clear hK' K' hS4 hS3 hS0
                    refine wpAnyH_done (by kernel_rfl) ?_ _
                    clear y3 yf HG OL NE HO b2 PC NUM XA
                    have R3 : Hid (GD w (w7.setCell ⟨w.heap.size + 1 + 1, n, none⟩ (.slice ga (L.length + 1) gc)) p ⟨Pl, some ⟨sb, so, none⟩, sc, ta, tc⟩ N g2 (fun x => if x = n then .slice ga (L.length + 1) gc else v x) (fun x => if x = n then (fun j => if j < n then toNa p free j else if j = n then toNs p free n k else []) n ++ [(t : Int)] else (fun j => if j < n then toNa p free j else if j = n then toNs p free n k else []) x)) := R2
                    have K3 : Hid (Own (w7.setCell ⟨w.heap.size + 1 + 1, n, none⟩ (.slice ga (L.length + 1) gc)) (w.heap.size + 3) (.slice la RN.length lc) RN) := K1
                    clear R2 K1
                    revert R3 K3
                    generalize w7.setCell ⟨w.heap.size + 1 + 1, n, none⟩ (.slice ga (L.length + 1) gc) = Y4
                    intro R2 K1
                    go_wp2_with fail
                    go_roundw
                    case rel => exact ⟨k + 1, _, by go_num, by omega, R2.out.congr (fun _ _ => rfl) (fun _ _ => rfl) (fun j hj => tok_succ hLd.out HT2.out j), K1, N1⟩
                    case measure => simp [intOf]; omega
            · have hk2 : k = p.seen.length := by omega
              subst hk2
              have HG3 : Hid (GD w wr p ⟨Pl, sa, sc, ta, tc⟩ N g2 v (fun j => if j < n + 1 then toNa p free j else [])) := HG.out.congr (fun _ _ => rfl) (fun _ _ => rfl) (fun j hj => by
                by_cases e1 : j < n
                · rw [if_pos e1, if_pos (by omega)]
                · rw [if_neg e1]
                  by_cases e2 : j = n
                  · rw [if_pos e2, if_pos (by omega), e2]; rfl
                  · rw [if_neg e2, if_neg (by omega)])
              obtain ⟨y0, y1, y2, y3, y4, y5, y6⟩ := ptcell_at HG.out.kp
              clear hkl hk HG OL NE
              go_wp2_with fail
              exact ⟨⟨n + 1, g2, v, by go_num, by omega, HG3, HL2⟩, by simp [intOf]; omega⟩
        · have hn2 : n = N := by omega
          subst hn2
          have hNp : Hid (n = 2 ^ p.m.st.toNat) := by show _ = _; rw [hN.out, hS.out, Int.toNat_natCast]
          have HGP : Hid (GP p free n g) := gp_start HL.out
          have HG3 : Hid (GD w wr p ⟨Pl, sa, sc, ta, tc⟩ n g v (fun j => toNa p free j)) := HG.out.congr (fun _ _ => rfl) (fun _ _ => rfl) (fun j hj => by rw [if_pos hj])
          have hz6 : Hid (p.m.st ≤ 6) := ((mayP_iff p).1 hp.out).2.1
          clear hlt hn HG HL
          obtain ⟨N, HNn⟩ : ∃ N, N = n := ⟨_, rfl⟩
          subst HNn
          go_wp2_with fail
          go_loopw [13] (fun v13 wr => ∃ (a : Bool) (g : Nat → Bool), v13 = .bool a ∧ Hid (GD w wr p ⟨Pl, sa, sc, ta, tc⟩ N g v (fun j => toNa p free j)) ∧ Hid (GP p free N g) ∧ Hid (a = false → ClG p free N g)) (fun v13 wr => cntG N (gAt wr (w.heap.size + 1)) + boolN v13)
          case atStart => exact ⟨true, g, rfl, HG3, HGP, fun e => absurd e (by simp)⟩
          case round =>
            clear HG3 HGP
            obtain ⟨a, g0, rfl, HG, HP, HC⟩ := hrel
            have HCT := Hid.of (cnt_at HG.out.kg)
            cases a with
            | true =>
              go_wp2_with fail
              go_loopw [13, 14] (fun v13 i wr' => ∃ (a : Bool) (n : Nat) (g : Nat → Bool), v13 = .bool a ∧ i = .int .i64 n ∧ n ≤ N ∧ Hid (GD w wr' p ⟨Pl, sa, sc, ta, tc⟩ N g v (fun j => toNa p free j)) ∧ Hid (GP p free N g) ∧ Hid (RdG p free N n 0 g0 g a)) (fun _ i _ => N - (intOf i).toNat)
              case atStart => exact ⟨false, 0, g0, rfl, rfl, Nat.zero_le _, HG, HP, rdg_start _ _ _ _⟩
              case round =>
                clear HG HP HC
                obtain ⟨a, n, g, rfl, rfl, hn, HG, HP, HRd⟩ := hrel
                by_cases hlt : n < N
                · go_wp2_with fail
                  go_loopw [13, 15] (fun v13 i wr' => ∃ (a : Bool) (k : Nat) (g : Nat → Bool), v13 = .bool a ∧ i = .int .i64 k ∧ k ≤ 8 ∧ Hid (GD w wr' p ⟨Pl, sa, sc, ta, tc⟩ N g v (fun j => toNa p free j)) ∧ Hid (GP p free N g) ∧ Hid (RdG p free N n k g0 g a)) (fun _ i _ => 9 - (intOf i).toNat)
                  case atStart => exact ⟨a, 0, g, rfl, rfl, by omega, HG, HP, HRd⟩
                  case round =>
                    clear HG HP HRd
                    obtain ⟨a, k, g, rfl, rfl, hk8, HG, HP, HRd⟩ := hrel
                    have HO : Hid (Own wr (w.heap.size + 3) (v n) (toNa p free n)) := HG.out.le n hlt
                    have htl : (toNa p free n).length ≤ 8 := Nat.le_trans (toNs_len _ _ _ _) hs8
                    obtain ⟨TL, HTL⟩ : ∃ TL, Hid (TL = toNa p free n) := ⟨_, rfl⟩
                    rw [← HTL.out] at HO htl
                    obtain ⟨va, vc, hva, vat, -, -, -⟩ := HO.out.at2
                    have pc : wr.cell? ⟨w.heap.size + 1 + 1, n, none⟩ = some (.slice va TL.length vc) := by have := HG.out.pl.cell hlt; rw [hva] at this; exact this
                    have gc := HG.out.kg.cell hlt
                    clear hva HO
                    by_cases hkl : k < TL.length
                    · cases hgn : g n with
                      | true =>
                        rw [hgn] at gc
                        obtain ⟨b, off, rfl, -, hcc⟩ : ∃ b off, va = some ⟨b, off, none⟩ ∧ b < wr.heap.size ∧ Cells wr b off TL := by
                          rcases vat with h0 | h0
                          · rw [h0] at hkl; simp at hkl
                          · exact h0
                        obtain ⟨t, HT, c1⟩ := hcc.at hkl
                        obtain ⟨q, hq1, hq2, hq3⟩ := toNa_at hMM.out hz6.out (free := free) (n := n) (i := k) (by rw [← HTL.out]; exact hkl)
                        rw [← HTL.out] at hq1
                        have hqt : t = (q : Int) := by rw [HT.out, hq1]
                        subst hqt
                        rw [← hNp.out] at hq2
                        have gq := HG.out.kg.cell hq2
                        have hqI : (q : Int) < (N : Int) := by omega
                        have hq0 : (0 : Int) ≤ (q : Int) := by omega
                        obtain ⟨cs1, hcs1, -, -⟩ := HG.out.kg
                        have gz := hcs1.frozen n
                        clear hcs1 vat hcc HT
                        cases hgq : g q with
                        | false =>
                          rw [hgq] at gq
                          have HP2 : Hid (GP p free N (fun y => if y = n then false else g y)) := by
                            have := HP.out
                            rw [hNp.out] at this hlt
                            have := gp_strike hMM.out hz6.out this hlt hq3 hgq
                            rw [← hNp.out] at this
                            exact this
                          have HR2 : Hid (RdG p free N n (k + 1) g0 (fun y => if y = n then false else g y) true) := rdg_strike HRd.out hlt hgn
                          have HG2 := Hid.of (HG.out.set hlt false)
                          clear hgn hgq hq1 hq3
                          go_wp2_with fail
                          go_roundw
                          case rel => exact ⟨true, k + 1, _, rfl, by go_num, by omega, HG2, HP2, HR2⟩
                          case measure => simp [intOf]; omega
                        | true =>
                          rw [hgq] at gq
                          have HR2 : Hid (RdG p free N n (k + 1) g0 g a) := rdg_on HRd.out (by rw [← HTL.out]; exact hkl) (by rw [← HTL.out]; exact hq1) hgq
                          clear hgn hgq hq1 hq3
                          go_wp2_with fail
                          go_roundw
                          case rel => exact ⟨a, k + 1, g, rfl, by go_num, by omega, HG, HP, HR2⟩
                          case measure => simp [intOf]; omega
                      | false =>
                        rw [hgn] at gc
                        have HR2 : Hid (RdG p free N (n + 1) 0 g0 g a) := rdg_next HRd.out (.inr hgn)
                        clear hgn vat
                        go_wp2_with fail
                        exact ⟨⟨a, n + 1, g, rfl, by go_num, by omega, HG, HP, HR2⟩, by simp [intOf]; omega⟩
                    · have HR2 : Hid (RdG p free N (n + 1) 0 g0 g a) := rdg_next HRd.out (.inl (by rw [← HTL.out]; omega))
                      have hkl2 : TL.length ≤ k := by omega
                      clear hkl vat
                      go_wp2_with fail
                      exact ⟨⟨a, n + 1, g, rfl, by go_num, by omega, HG, HP, HR2⟩, by simp [intOf]; omega⟩
                · have hn2 : n = N := by omega
                  subst hn2
                  have HC2 : Hid (a = false → ClG p free n g) := fun e => (HRd.out.1 e).2.1
                  have HM : Hid (cntG n (gAt wr (w.heap.size + 1)) + boolN (.bool a) < cntG n g0 + 1) := by
                    show _ < _
                    rw [cnt_at HG.out.kg]
                    cases a with
                    | false => have := rdg_le HRd.out; show _ + 0 < _; omega
                    | true => have := HRd.out.2 rfl; show _ + 1 < _; omega
                  clear hlt hn
                  go_wp2_with fail
                  exact ⟨⟨a, g, rfl, HG, HP, HC2⟩, by rw [HCT.out]; exact HM.out⟩
            | false =>
              have HTG : Hid (TellsG p free (fun r => g0 (numN r))) := by
                have h1 := HP.out
                have h2 := HC.out rfl
                rw [hNp.out] at h1 h2
                exact gp_end hMM.out hz6.out h1 h2
              go_wp2_with fail
              go_ret
              exact ⟨g0, rfl, HG.out.kg, HTG.out, HG.out.bel⟩

end Go.Proofs.YtmlkpdeidpcidaaDoor
