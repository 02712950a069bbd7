/-
  The walk of jalousieref14.Keep.
  The walk of jalousieref14.Safe.
-/
import Derived.Deep.QuietTactic
import Derived.Deep.RegionWith
import Derived.Deep.RegionHeld3
import Derived.BigQuiet
import Derived.Test.YtkodmnooibpflaaDoorG14
import Derived.Test.YtkodmnooibpflaaDoorG04
import Derived.Test.YtkodmnooibpflaaDoorG03
import Derived.Test.YtkodmnooibpflaaDoorG13
import Derived.Test.YtkodmnooibpflaaDoorG05
namespace Go.Proofs.YtkodmnooibpflaaDoor
open Go.RowKit
set_option linter.unusedVariables false

theorem own_lit14 {W : World} {b : Nat} {x : Int} (h : Blk W b 3 #[.int .i64 x]) : Own W b (.slice (some ⟨b, 0, none⟩) 1 1) [x] :=
  ⟨rfl, .inr ⟨b, 1, #[.int .i64 x], rfl, Nat.le_refl _, h, Nat.le_refl _, (by decide), rfl, rfl⟩⟩
/-- What is kept of the states below a number. -/
def keepK (m : Mach) (free bad : List Int) (k : Nat) : List Int := (rngI k).filter fun s => noneB bad (ctlGo m.arrows free s)
theorem keepK_succ (m : Mach) (free bad : List Int) (k : Nat) : keepK m free bad (k + 1) = if noneB bad (ctlGo m.arrows free (k : Int)) = true then keepK m free bad k ++ [(k : Int)] else keepK m free bad k := by
  unfold keepK
  rw [rngI_succ, List.filter_append]
  cases h : noneB bad (ctlGo m.arrows free (k : Int)) <;> simp [h]
theorem keepK_len (m : Mach) (free bad : List Int) (k : Nat) : (keepK m free bad k).length ≤ k := by
  unfold keepK
  exact Nat.le_trans (List.length_filter_le _ _) (by rw [rngI_len]; exact Nat.le_refl _)

set_option maxHeartbeats 8000000 in
set_option maxRecDepth 100000 in
theorem rkeep_go (m : Mach) (a1 : Option Addr) (c1 : Nat) (a2 : Option Addr) (c2 : Nat) (a3 : Option Addr) (c3 : Nat) (na : Option Addr) (nc : Nat) (seen : List Int) (ba : Option Addr) (bc : Nat) (bad : List Int) (w : World) (N : Nat) (hN : Hid (m.st = (N : Int))) (hN6 : N ≤ 256) (h : Hid (MAt w m ⟨a1, c1, a2, c2, a3, c3⟩)) (hlen : m.arrows.length ≤ 4096) (hin : Hid (∀ a ∈ m.arrows, 0 ≤ a.t ∧ a.t < (256 : Nat))) (hq : Hid (At w na seen)) (hql : Hid (seen.length ≤ maxLen)) (hB : Hid (At w ba bad)) (hBl : Hid (bad.length ≤ maxLen)) :
    Calls Tryd.prog 38 #[mval m ⟨a1, c1, a2, c2, a3, c3⟩, .slice na seen.length nc, .slice ba bad.length bc] w fun e w' => GivesO w (keepL m seen bad) e w' := by
  obtain ⟨i0, hi, hz0, hz1, hz2⟩ := info_parts Tryd.infoInt
  have B : Hid (Below w.heap.size w (w.alloc (.cells (mcells m ⟨a1, c1, a2, c2, a3, c3⟩) 25))) := (Below.refl _ _).alloc (Nat.le_refl _) _
  have KM : Hid (Blk (w.alloc (.cells (mcells m ⟨a1, c1, a2, c2, a3, c3⟩) 25)) w.heap.size 25 (mcells m ⟨a1, c1, a2, c2, a3, c3⟩)) := Blk.new w _ _
  have hsz0 : Hid (w.heap.size < (w.alloc (.cells (mcells m ⟨a1, c1, a2, c2, a3, c3⟩) 25)).heap.size) := KM.out.lt
  go_enter Tryd.func38, Tryd.ntmps38
  go_wp2_with fail
  revert B KM hsz0
  generalize (w.alloc (.cells (mcells m ⟨a1, c1, a2, c2, a3, c3⟩) 25)) = V0
  intro B KM hsz0
  go_loopw [7, 8] (fun v i wr => ∃ (s : Nat), s ≤ N ∧ i = .int .i64 s ∧ Hid (Own wr V0.heap.size v (keepK m seen bad s)) ∧ Hid (Below V0.heap.size V0 wr)) (fun _ i _ => N - (intOf i).toNat)
  case atStart => exact ⟨0, Nat.zero_le _, rfl, own_nil _ _, Below.refl _ _⟩
  case round =>
    obtain ⟨s, hs, rfl, HO, LB⟩ := hrel
    obtain ⟨Wk, hWkE⟩ : ∃ W, W = wr := ⟨_, rfl⟩
    subst hWkE
    obtain ⟨ka, kc, hv7, -, -, -⟩ := own_form2 HO.out
    subst hv7
    have BW := Hid.of (B.out.trans (LB.out.mono B.out.size))
    have KW := Hid.of (KM.out.below LB.out KM.out.lt)
    have hWk : Hid (w.heap.size < Wk.heap.size) := KW.out.lt
    have hx0 : Wk.cell? ⟨w.heap.size, 0, none⟩ = some (.int .i64 (N : Int)) := by rw [← hN.out]; exact KW.out.cell 0 rfl
    by_cases hsl : s < N
    · have O1 : Hid (Own (Wk.alloc (.cells #[.int .i64 (s : Int)] 3)) Wk.heap.size (.slice (some ⟨Wk.heap.size, 0, none⟩) 1 1) [(s : Int)]) := own_lit14 (Blk.new Wk _ _)
      have B1 : Hid (Below Wk.heap.size Wk (Wk.alloc (.cells #[.int .i64 (s : Int)] 3))) := (Below.refl _ _).alloc (Nat.le_refl _) _
      go_wp2_with fail
      clear hx0
      go_loopw [9, 10] (fun v i wr => ∃ (k : Nat) (L : List Int), k ≤ L.length ∧ i = .int .i64 k ∧ Hid (Own wr Wk.heap.size v L) ∧ Hid (Below Wk.heap.size Wk wr) ∧ Hid (wGo m.arrows seen 257 0 [(s : Int)] = wGo m.arrows seen (257 - k) k L) ∧ Hid (WB [(s : Int)] L)) (fun _ i _ => 257 - (intOf i).toNat)
      case atStart => exact ⟨0, [(s : Int)], by simp, rfl, O1, B1, rfl, WB.refl _⟩
      case round =>
        clear O1 B1
        obtain ⟨k, L, hk, rfl, hown, hbel, hc, hwb⟩ := hrel
        have hold := Hid.of (BW.out.trans (hbel.out.mono BW.out.size))
        have hsz := hbel.out.size
        have hbx : w.heap.size < wr.heap.size := Nat.lt_of_lt_of_le hWk.out hsz
        have x3 : wr.cell? ⟨w.heap.size, 3, none⟩ = some (.slice a2 m.arrows.length c2) := (KW.out.below hbel.out hWk.out).cell 3 rfl
        have hll := hwb.out.len
        simp only [List.length_cons, List.length_nil] at hll
        obtain ⟨la, lc, rfl, hat, hln⟩ := hown.out.at
        by_cases hks : k < L.length
        · go_wp2_with fail
          obtain ⟨x, HX⟩ : ∃ x, Hid (x = L[k]?.getD 0) := ⟨_, rfl⟩
          go_loopw [9, 11] (fun v i wr' => ∃ (j : Nat), j ≤ m.arrows.length ∧ i = .int .i64 j ∧ Hid (Own wr' Wk.heap.size v (wRow (m.arrows.take j) seen x L)) ∧ Hid (Below Wk.heap.size Wk wr') ∧ Hid (WB [(s : Int)] (wRow (m.arrows.take j) seen x L))) (fun _ i _ => m.arrows.length - (intOf i).toNat)
          case atStart => exact ⟨0, Nat.zero_le _, rfl, hown, hbel, hwb⟩
          case round =>
            clear hown hbel hold hat x3 hsz hbx hln hwb
            obtain ⟨j, hj, rfl, hown, hbel, hwb⟩ := hrel
            have hold := Hid.of (BW.out.trans (hbel.out.mono BW.out.size))
            have hsz := hbel.out.size
            have hbx : w.heap.size < wr.heap.size := Nat.lt_of_lt_of_le hWk.out hsz
            have x3 : wr.cell? ⟨w.heap.size, 3, none⟩ = some (.slice a2 m.arrows.length c2) := (KW.out.below hbel.out hWk.out).cell 3 rfl
            by_cases hlt : j < m.arrows.length
            · obtain ⟨b, off, rfl, hb, hca⟩ : ∃ b off, a2 = some ⟨b, off, none⟩ ∧ b < w.heap.size ∧ CellsA w b off m.arrows := by
                rcases h.out.a with h0 | h0
                · have h0 : m.arrows = [] := h0
                  rw [h0] at hlt; simp at hlt
                · exact h0
              obtain ⟨a, HA, y0, y1, y2⟩ := hca.at hlt
              have y0' := (hold.out.cell (p := ⟨b, off + j * 3, none⟩) hb).trans y0
              have y1' := (hold.out.cell (p := ⟨b, off + j * 3 + 1, none⟩) hb).trans y1
              have y2' := (hold.out.cell (p := ⟨b, off + j * 3 + 2, none⟩) hb).trans y2
              clear y0 y1 y2
              have HN := Hid.of (wRow_take (seen := seen) (x := x) (l := L) hlt HA)
              have HK := Hid.of (wRow_nth (ars := m.arrows.take j) (seen := seen) (x := x) hks)
              obtain ⟨T, hT⟩ : ∃ T, T = wRow (m.arrows.take j) seen x L := ⟨_, rfl⟩
              rw [← hT] at hown hwb HN HK
              clear hT
              have hlT := hwb.out.len
              simp only [List.length_cons, List.length_nil] at hlT
              have hkT := HK.out.1
              have hmem : a ∈ m.arrows := by have := HA.out; rw [List.getElem?_eq_getElem hlt, Option.getD_some] at this; rw [this]; exact List.getElem_mem _
              have hta := Hid.of (hin.out a hmem)
              have HW : Hid (WB [(s : Int)] (wAdd seen x T a)) := hwb.out.add hta.out
              clear hmem
              obtain ⟨la', lc', rfl, hat, hln⟩ := hown.out.at
              rcases hat with h0 | ⟨lb, lo, rfl, hlb, hcl⟩
              · exact absurd (by rw [h0]; rfl) (show ¬ T.length = 0 by omega)
              obtain ⟨x', HX', hcx⟩ := hcl.at hkT
              have hxx : Hid (x' = x) := by show _ = _; rw [HX'.out, HK.out.2, ← HX.out]
              have OV : Hid (Own (wr.alloc (Obj.cells #[.int .i64 a.f, .int .i64 a.e, .int .i64 a.t] 75)) Wk.heap.size (.slice (some ⟨lb, lo, none⟩) T.length lc') T) := World.ownsRow.alloc hown.out _
              have BV : Hid (Below Wk.heap.size Wk (wr.alloc (Obj.cells #[.int .i64 a.f, .int .i64 a.e, .int .i64 a.t] 75))) := hbel.out.alloc (by omega) _
              have B9 : Below w.heap.size w (wr.alloc (Obj.cells #[.int .i64 a.f, .int .i64 a.e, .int .i64 a.t] 75)) := hold.out.alloc (by omega) _
              have KV : Hid (Blk (wr.alloc (Obj.cells #[.int .i64 a.f, .int .i64 a.e, .int .i64 a.t] 75)) wr.heap.size 75 #[.int .i64 a.f, .int .i64 a.e, .int .i64 a.t]) := Blk.new wr _ _
              have cV : (wr.alloc (Obj.cells #[.int .i64 a.f, .int .i64 a.e, .int .i64 a.t] 75)).cell? ⟨lb, lo + k, none⟩ = some (.int .i64 x') := (((Below.refl wr.heap.size wr).alloc (Nat.le_refl _) _).cell (p := ⟨lb, lo + k, none⟩) hlb).trans hcx
              have qV : Hid (At (wr.alloc (Obj.cells #[.int .i64 a.f, .int .i64 a.e, .int .i64 a.t] 75)) na seen) := hq.out.below B9 (Nat.le_refl _)
              have f0 := KV.out.cell 0 rfl
              have f1 := KV.out.cell 1 rfl
              have f2 := KV.out.cell 2 rfl
              go_wp2_with fail
              clear B9 hcx hlb hcl y0' y1' y2' x3 hown hbel hold hsz
              have hVs : Hid (wr.heap.size < (wr.alloc (Obj.cells #[.int .i64 a.f, .int .i64 a.e, .int .i64 a.t] 75)).heap.size) := by show _ < _; rw [World.size_alloc]; omega
              revert OV BV KV cV qV f0 f1 f2 hVs
              generalize wr.alloc (Obj.cells #[.int .i64 a.f, .int .i64 a.e, .int .i64 a.t] 75) = V
              generalize wr.heap.size = N at *
              intro OV BV KV cV qV f0 f1 f2 hVs
              obtain ⟨la2, lc2, e2, aT, lT⟩ := OV.out.at
              cases e2
              have KEY1 : Hid (∀ n, Calls Tryd.prog 46 #[.slice na seen.length nc, .int .i64 a.e] (V.drewN n) fun e w' => e = .returned (.bool (hasB seen a.e)) ∧ w' = V.drewN n) := fun n => refHas_any na nc seen a.e _ (At.drewN qV.out n) hql.out
              have KEY2 : Hid (∀ n, Calls Tryd.prog 46 #[.slice (some ⟨lb, lo, none⟩) T.length lc', .int .i64 a.t] (V.drewN n) fun e w' => e = .returned (.bool (hasB T a.t)) ∧ w' = V.drewN n) := fun n => refHas_any _ lc' T a.t _ (At.drewN aT n) lT
              clear aT lT qV KV
              by_cases d1 : a.f = x'
              · have g1 : (a.f == x') = true := by simp [d1]
                have D1 : Hid (a.f = x) := by show _ = _; rw [d1, hxx.out]
                clear d1
                by_cases d2 : hasB seen a.e = true
                · rw [d2] at KEY1
                  have HR : Hid (wAdd seen x T a = T) := by show _ = _; unfold wAdd; rw [if_neg (by rw [d2]; simp)]
                  clear d2
                  go_quiet (first | (go_at_call_of 46 (Value.slice na seen.length nc); exact Calls.quiet_of_same (KEY1.out _)) | (go_at_call_of 46 (Value.slice (some ⟨lb, lo, none⟩) T.length lc'); exact Calls.quiet_of_same (KEY2.out _)))
                  obtain ⟨V2, HV2⟩ : ∃ V2, Hid (V2 = V.drewN nq) := ⟨_, rfl⟩
                  have OV2 : Hid (Own V2 Wk.heap.size (.slice (some ⟨lb, lo, none⟩) T.length lc') T) := by show Own _ _ _ _; rw [HV2.out]; exact OV.out
                  have BV2 : Hid (Below Wk.heap.size Wk V2) := by show Below _ _ _; rw [HV2.out]; exact below_drewN BV.out nq
                  rw [← HV2.out]
                  clear OV BV KEY1 KEY2 cV f0 f1 f2
                  go_wp2
                  go_roundw
                  case rel => exact ⟨j + 1, by omega, by go_num, by rw [HN.out, HR.out]; exact OV2, BV2, by rw [HN.out]; exact HW⟩
                  case measure => simp [intOf]; omega
                · have d2 : hasB seen a.e = false := by simpa using d2
                  rw [d2] at KEY1
                  by_cases d3 : hasB T a.t = true
                  · rw [d3] at KEY2
                    have HR : Hid (wAdd seen x T a = T) := by show _ = _; unfold wAdd; rw [if_neg (by rw [d3]; simp)]
                    clear d2 d3
                    go_quiet (first | (go_at_call_of 46 (Value.slice na seen.length nc); exact Calls.quiet_of_same (KEY1.out _)) | (go_at_call_of 46 (Value.slice (some ⟨lb, lo, none⟩) T.length lc'); exact Calls.quiet_of_same (KEY2.out _)))
                    obtain ⟨V2, HV2⟩ : ∃ V2, Hid (V2 = V.drewN nq) := ⟨_, rfl⟩
                    have OV2 : Hid (Own V2 Wk.heap.size (.slice (some ⟨lb, lo, none⟩) T.length lc') T) := by show Own _ _ _ _; rw [HV2.out]; exact OV.out
                    have BV2 : Hid (Below Wk.heap.size Wk V2) := by show Below _ _ _; rw [HV2.out]; exact below_drewN BV.out nq
                    rw [← HV2.out]
                    clear OV BV KEY1 KEY2 cV f0 f1 f2
                    go_wp2
                    go_roundw
                    case rel => exact ⟨j + 1, by omega, by go_num, by rw [HN.out, HR.out]; exact OV2, BV2, by rw [HN.out]; exact HW⟩
                    case measure => simp [intOf]; omega
                  · have d3 : hasB T a.t = false := by simpa using d3
                    rw [d3] at KEY2
                    have HR : Hid (wAdd seen x T a = T ++ [a.t]) := by show _ = _; unfold wAdd; rw [if_pos (by rw [D1.out, d2, d3]; simp)]
                    clear d2 d3
                    go_quiet (first | (go_at_call_of 46 (Value.slice na seen.length nc); exact Calls.quiet_of_same (KEY1.out _)) | (go_at_call_of 46 (Value.slice (some ⟨lb, lo, none⟩) T.length lc'); exact Calls.quiet_of_same (KEY2.out _)))
                    obtain ⟨V2, HV2⟩ : ∃ V2, Hid (V2 = V.drewN nq) := ⟨_, rfl⟩
                    have OV2 : Hid (Own V2 Wk.heap.size (.slice (some ⟨lb, lo, none⟩) T.length lc') T) := by show Own _ _ _ _; rw [HV2.out]; exact OV.out
                    have BV2 : Hid (Below Wk.heap.size Wk V2) := by show Below _ _ _; rw [HV2.out]; exact below_drewN BV.out nq
                    have f2' : V2.cell? ⟨N, 2, none⟩ = some (.int .i64 a.t) := by rw [HV2.out]; exact f2
                    have hVs2 := BV2.out.size
                    rw [← HV2.out]
                    clear OV BV KEY1 KEY2 cV f0 f1 f2
                    go_wp2_with (at_builtin; refine wpList_append_own _ rfl _ _ 22 rfl Wk.heap.size 3 i0 (.int .i64 0) 1 8 Tryd.underlying22 hi hz0 hz1 hz2 rfl (by decide) _ _ _ rfl (World.ownsRow.alloc OV2.out _) ⟨V2.heap.size, 0, none⟩ 1 1 [.int .i64 a.t] rfl rfl (cell_one_new _ _ _) (by intro u hu; simp at hu; subst hu; rfl) (by unfold maxLen; omega) (by omega) (by simp; omega) ?_)
                    intro v' w2 hown' hgrow _
                    obtain ⟨r1, r2, -⟩ := own_snoc OV2.out BV2.out (by omega) hown' hgrow
                    have R1 := Hid.of r1
                    have R2 := Hid.of r2
                    clear hown' hgrow r1 r2
                    go_wp2
                    go_roundw
                    case rel => exact ⟨j + 1, by omega, by go_num, by rw [HN.out, HR.out]; exact R1, R2, by rw [HN.out]; exact HW⟩
                    case measure => simp [intOf]; omega
              · have g1 : (a.f == x') = false := by simp [d1]
                have HR : Hid (wAdd seen x T a = T) := by show _ = _; unfold wAdd; rw [if_neg (by rw [← hxx.out]; simp [d1])]
                clear d1
                go_quiet (first | (go_at_call_of 46 (Value.slice na seen.length nc); exact Calls.quiet_of_same (KEY1.out _)) | (go_at_call_of 46 (Value.slice (some ⟨lb, lo, none⟩) T.length lc'); exact Calls.quiet_of_same (KEY2.out _)))
                obtain ⟨V2, HV2⟩ : ∃ V2, Hid (V2 = V.drewN nq) := ⟨_, rfl⟩
                have OV2 : Hid (Own V2 Wk.heap.size (.slice (some ⟨lb, lo, none⟩) T.length lc') T) := by show Own _ _ _ _; rw [HV2.out]; exact OV.out
                have BV2 : Hid (Below Wk.heap.size Wk V2) := by show Below _ _ _; rw [HV2.out]; exact below_drewN BV.out nq
                rw [← HV2.out]
                clear OV BV KEY1 KEY2 cV f0 f1 f2
                go_wp2
                go_roundw
                case rel => exact ⟨j + 1, by omega, by go_num, by rw [HN.out, HR.out]; exact OV2, BV2, by rw [HN.out]; exact HW⟩
                case measure => simp [intOf]; omega
            · have htk : m.arrows.take j = m.arrows := List.take_of_length_le (by omega)
              rw [htk] at hown hwb
              clear htk
              obtain ⟨T, hT⟩ : ∃ T, T = wRow m.arrows seen x L := ⟨_, rfl⟩
              have HT := Hid.of hT
              have HK := Hid.of (wRow_nth (ars := m.arrows) (seen := seen) (x := x) hks)
              rw [← hT] at hown hwb HK
              clear hT
              have HC : Hid (wGo m.arrows seen 257 0 [(s : Int)] = wGo m.arrows seen (257 - (k + 1)) (k + 1) T) := by
                show _ = _
                rw [hc.out, wGo_next hks (by omega), ← HX.out, ← HT.out, Nat.sub_sub]
              have hkT := HK.out.1
              have hj2 : m.arrows.length ≤ j := by omega
              clear hlt
              go_wp2_with fail
              exact ⟨⟨k + 1, T, by omega, by go_num, hown, hbel, HC, hwb⟩, by simp [intOf]; omega⟩
        · have HC : Hid (ctlGo m.arrows seen (s : Int) = L) := by
            show _ = _
            unfold ctlGo
            rw [hc.out, wGo_end hks]
          have hk2 : L.length ≤ k := by omega
          have hlpos : 0 < L.length := by
            obtain ⟨t, ht, -⟩ := hwb.out
            rw [ht]; simp
          have HAT := Hid.of hat
          clear hat hks
          go_wp2_with fail
          refine (sorted_own la lc L _ HAT.out (by omega)).mono ?_
          rintro e w1 ⟨v4, rfl, h4, b4⟩
          have hsp : Hid (0 < (srt L).length) := List.length_pos_of_mem ((mem_srt (L[0]) L).2 (List.getElem_mem hlpos))
          obtain ⟨g4, c4, hv4⟩ : ∃ g4 c4, v4 = .slice (some ⟨g4, 0, none⟩) (srt L).length c4 := by
            rcases h4.2 with ⟨rfl, hn⟩ | ⟨g, cap, cur, e4, -⟩
            · have := hsp.out; omega
            · exact ⟨g, cap, e4⟩
          subst hv4
          have A2 := Hid.of (HAT.out.below b4 (Nat.le_refl _))
          have L2 := Hid.of (hbel.out.trans (b4.mono hbel.out.size))
          clear h4 b4 hsp
          obtain ⟨F, HF⟩ : ∃ F, Hid (F = L.filter fun n => hasB bad n == true) := ⟨_, rfl⟩
          have HNB : Hid (noneB bad (ctlGo m.arrows seen (s : Int)) = decide (F.length = 0)) := by
            show _ = _
            unfold noneB
            rw [HC.out, HF.out]
          have hFl : F.length ≤ 257 := by
            rw [HF.out]
            exact Nat.le_trans (List.length_filter_le _ _) (by omega)
          have ONL : Hid (Calls Tryd.prog 40 #[.slice la L.length lc, .slice ba bad.length bc, .bool true] w1 fun e w' => Gives w1 F e w') := by
            have := only_any la ba lc bc L bad true w1 A2.out (by omega) (hB.out.below (BW.out.trans (L2.out.mono BW.out.size)) (Nat.le_refl _)) hBl.out
            rw [← HF.out] at this
            exact this
          have HKS := Hid.of (keepK_succ m seen bad s)
          rw [HNB.out] at HKS
          have hkl := keepK_len m seen bad s
          obtain ⟨KP, HKP⟩ : ∃ K, Hid (K = keepK m seen bad s) := ⟨_, rfl⟩
          rw [← HKP.out] at HKS HO hkl
          rw [← HKP.out]
          clear hc hwb hold x3 hown hll hln HC HF HNB
          go_wp2_with fail
          refine ONL.out.mono ?_
          rintro e w2 ⟨oa, oc, rfl, oat, oln, b5⟩
          have L3 := Hid.of (L2.out.trans (b5.mono L2.out.size))
          clear oat oln b5 ONL
          have O3 : Hid (Own w2 V0.heap.size (.slice ka KP.length kc) KP) := own_same HO.out (fun k hk => L3.out.block k (World.ownsRow.lt HO.out k hk).2)
          have B3 := Hid.of (LB.out.trans (L3.out.mono LB.out.size))
          by_cases hF0 : F.length = 0
          · have hb : ((F.length : Int) == 0) = true := beq_iff_eq.2 (by omega)
            have HK2 : Hid (keepK m seen bad (s + 1) = KP ++ [(s : Int)]) := by
              have := HKS.out
              rw [hF0] at this
              exact this
            have hB3 := B3.out.size
            clear hF0 HKS
            go_wp2_with (at_builtin; refine wpList_append_own _ rfl _ _ 22 rfl V0.heap.size 3 i0 (.int .i64 0) 1 8 Tryd.underlying22 hi hz0 hz1 hz2 rfl (by decide) _ _ _ rfl (World.ownsRow.alloc O3.out _) ⟨w2.heap.size, 0, none⟩ 1 1 [.int .i64 (s : Int)] rfl rfl (cell_one_new _ _ _) (by intro u hu; simp at hu; subst hu; rfl) (by unfold maxLen; omega) (by omega) (by simp; omega) ?_)
            intro v' w3 hown' hgrow _
            obtain ⟨r1, r2, -⟩ := own_snoc O3.out B3.out (by omega) hown' hgrow
            have R1 := Hid.of r1
            have R2 := Hid.of r2
            clear hown' hgrow r1 r2
            go_wp2_with fail
            exact ⟨⟨s + 1, by omega, by go_num, by rw [HK2.out]; exact R1, R2⟩, by simp [intOf]; omega⟩
          · have hb : ((F.length : Int) == 0) = false := beq_eq_false_iff_ne.2 (by omega)
            have HK2 : Hid (keepK m seen bad (s + 1) = KP) := by
              have := HKS.out
              rw [decide_eq_false hF0] at this
              exact this
            have hF1 : 0 < F.length := by omega
            clear hF0 HKS
            go_wp2_with fail
            exact ⟨⟨s + 1, by omega, by go_num, by rw [HK2.out]; exact O3, B3⟩, by simp [intOf]; omega⟩
    · have hs2 : s = N := by omega
      subst hs2
      have HK : Hid (keepK m seen bad s = keepL m seen bad) := by
        show _ = _
        unfold keepK keepL
        rw [hN.out, Int.toNat_natCast]
      rw [HK.out] at HO
      rw [HK.out]
      clear hsl
      go_wp2_with fail
      go_ret
      exact ⟨_, rfl, HO.out.low B.out.size, BW.out⟩

theorem rkeep_any (m : Mach) (l : ML) (na : Option Addr) (nc : Nat) (free : List Int) (ba : Option Addr) (bc : Nat) (bad : List Int) (w : World) (hm : mayB m = true) (h : MAt w m l) (hq : At w na free) (hql : free.length ≤ maxLen) (hB : At w ba bad) (hBl : bad.length ≤ maxLen) :
    Calls Tryd.prog 38 #[mval m l, .slice na free.length nc, .slice ba bad.length bc] w fun e w' => GivesO w (keepL m free bad) e w' := by
  obtain ⟨a1, c1, a2, c2, a3, c3⟩ := l
  have hz := mayB_size hm
  unfold sizeOk at hz
  exact rkeep_go m a1 c1 a2 c2 a3 c3 na nc free ba bc bad w m.st.toNat (by show _ = _; omega) (by omega) (Hid.of h) (by omega) (Hid.of (may_to hm)) (Hid.of hq) (Hid.of hql) (Hid.of hB) (Hid.of hBl)

end Go.Proofs.YtkodmnooibpflaaDoor
namespace Go.Proofs.YtkodmnooibpflaaDoor
open Go.RowKit
set_option linter.unusedVariables false

theorem all_take {l : List Int} {f : Int → Bool} {k : Nat} {x : Int} (h : k < l.length) (hx : Hid (x = l[k]?.getD 0)) (ha : (l.take k).all f = true) (hf : f x = true) : (l.take (k + 1)).all f = true := by
  have hx := hx.out
  rw [List.getElem?_eq_getElem h, Option.getD_some] at hx
  rw [List.take_add_one, List.getElem?_eq_getElem h, List.all_append, ha, ← hx]
  simp [hf]
theorem all_takeA {l : List Arr} {f : Arr → Bool} {k : Nat} {a : Arr} (h : k < l.length) (ha : Hid (a = l[k]?.getD arr0)) (hl : (l.take k).all f = true) (hf : f a = true) : (l.take (k + 1)).all f = true := by
  have ha := ha.out
  rw [List.getElem?_eq_getElem h, Option.getD_some] at ha
  rw [List.take_add_one, List.getElem?_eq_getElem h, List.all_append, hl, ← ha]
  simp [hf]
theorem safe_no1 {m : Mach} {free bad row : List Int} {k : Nat} {x : Int} (h : k < row.length) (hx : Hid (x = row[k]?.getD 0)) (hb : hasB bad x = true) : false = safeB m free bad row := by
  have hx := hx.out
  rw [List.getElem?_eq_getElem h, Option.getD_some] at hx
  cases hs : safeB m free bad row with
  | false => rfl
  | true => exact absurd ((hasB_iff _ _).1 hb) (((safeB_iff _ _ _ _).1 hs).1 x (by rw [hx]; exact List.getElem_mem _))
theorem safe_no2 {m : Mach} {free bad row : List Int} {k : Nat} {a : Arr} (h : k < m.arrows.length) (ha : Hid (a = m.arrows[k]?.getD arr0)) (h1 : hasB row a.f = true) (h2 : hasB free a.e = false) (h3 : hasB row a.t = false) : false = safeB m free bad row := by
  have ha := ha.out
  rw [List.getElem?_eq_getElem h, Option.getD_some] at ha
  cases hs : safeB m free bad row with
  | false => rfl
  | true =>
    have := ((safeB_iff _ _ _ _).1 hs).2 a (by rw [ha]; exact List.getElem_mem _) ((hasB_iff _ _).1 h1) (fun hc => by rw [(hasB_iff _ _).2 hc] at h2; cases h2)
    rw [(hasB_iff _ _).2 this] at h3; cases h3

set_option maxRecDepth 100000 in
set_option maxHeartbeats 4000000 in
theorem rsafe_go (m : Mach) (a1 : Option Addr) (c1 : Nat) (a2 : Option Addr) (c2 : Nat) (a3 : Option Addr) (c3 : Nat) (fa : Option Addr) (fc : Nat) (free : List Int) (ba : Option Addr) (bc : Nat) (bad : List Int) (ra : Option Addr) (rc : Nat) (row : List Int) (w : World) (h : Hid (MAt w m ⟨a1, c1, a2, c2, a3, c3⟩)) (hF : Hid (At w fa free)) (hFl : Hid (free.length ≤ maxLen)) (hB : Hid (At w ba bad)) (hBl : Hid (bad.length ≤ maxLen)) (hR : Hid (At w ra row)) (hRl : Hid (row.length ≤ maxLen)) :
    Calls Tryd.prog 39 #[mval m ⟨a1, c1, a2, c2, a3, c3⟩, .slice fa free.length fc, .slice ba bad.length bc, .slice ra row.length rc] w fun e w' => e = .returned (.bool (safeB m free bad row)) ∧ Below w.heap.size w w' := by
  have B : Hid (Below w.heap.size w (w.alloc (.cells (mcells m ⟨a1, c1, a2, c2, a3, c3⟩) 25))) := (Below.refl _ _).alloc (Nat.le_refl _) _
  have KM : Hid (Blk (w.alloc (.cells (mcells m ⟨a1, c1, a2, c2, a3, c3⟩) 25)) w.heap.size 25 (mcells m ⟨a1, c1, a2, c2, a3, c3⟩)) := Blk.new w _ _
  have hrl : row.length ≤ 9223372036854775807 := hRl.out
  have hal : m.arrows.length ≤ 9223372036854775807 := Nat.le_trans h.out.a1 h.out.a2
  go_enter Tryd.func39, Tryd.ntmps39
  go_wp2_with fail
  revert B KM
  generalize w.alloc (.cells (mcells m ⟨a1, c1, a2, c2, a3, c3⟩) 25) = V0
  intro B KM
  go_loopw [9] (fun i wr => ∃ k : Nat, k ≤ row.length ∧ i = .int .i64 k ∧ Hid ((row.take k).all (fun x => !hasB bad x) = true) ∧ V0 = wr) (fun i _ => row.length - (intOf i).toNat)
  case atStart => exact ⟨0, Nat.zero_le _, rfl, rfl, rfl⟩
  case round =>
    obtain ⟨k, hk, rfl, HA, rfl⟩ := hrel
    by_cases hlt : k < row.length
    · obtain ⟨b, off, rfl, hb, hc⟩ : ∃ b off, ra = some ⟨b, off, none⟩ ∧ b < w.heap.size ∧ Cells w b off row := by
        rcases hR.out with h0 | h0
        · rw [h0] at hlt; simp at hlt
        · exact h0
      obtain ⟨x, HX, c1⟩ := hc.at hlt
      have c2 := (B.out.cell (p := ⟨b, off + k, none⟩) hb).trans c1
      clear c1
      go_wp2_with fail
      refine (refHas_any ba bc bad x _ (hB.out.below B.out (Nat.le_refl _)) hBl.out).mono ?_
      rintro e W ⟨rfl, rfl⟩
      clear c2
      cases hx : hasB bad x with
      | true =>
        have HO : Hid (false = safeB m free bad row) := safe_no1 hlt HX hx
        clear hx
        go_wp2_with fail
        go_ret
        exact ⟨ret_bool HO.out, B.out⟩
      | false =>
        have HA2 : Hid ((row.take (k + 1)).all (fun x => !hasB bad x) = true) := all_take hlt HX HA.out (by rw [hx]; rfl)
        clear hx
        go_wp2_with fail
        go_roundw
        case rel => exact ⟨k + 1, by omega, by go_num, HA2, by first | rfl | trivial⟩
        case measure => simp [intOf]; omega
    · have hk2 : k = row.length := by omega
      subst hk2
      have HA2 : Hid (row.all (fun x => !hasB bad x) = true) := by have := HA.out; rw [List.take_of_length_le (Nat.le_refl _)] at this; exact this
      clear HA hlt hk
      go_wp2_with fail
      go_loopw [10] (fun i wr' => ∃ j : Nat, j ≤ m.arrows.length ∧ i = .int .i64 j ∧ Hid ((m.arrows.take j).all (arrOk free row) = true) ∧ Hid (Below V0.heap.size V0 wr')) (fun i _ => m.arrows.length - (intOf i).toNat)
      case atStart => exact ⟨0, Nat.zero_le _, rfl, rfl, Below.refl _ _⟩
      case round =>
        obtain ⟨j, hj, rfl, HL, LB⟩ := hrel
        have BW := Hid.of (B.out.trans (LB.out.mono B.out.size))
        have KW := Hid.of (KM.out.below LB.out KM.out.lt)
        obtain ⟨x0, x1, x2, x3, x4⟩ := mcell_at KW.out
        by_cases hlt : j < m.arrows.length
        · obtain ⟨b, off, rfl, hb, hca⟩ : ∃ b off, a2 = some ⟨b, off, none⟩ ∧ b < w.heap.size ∧ CellsA w b off m.arrows := by
            rcases h.out.a with h0 | h0
            · have h0 : m.arrows = [] := h0
              rw [h0] at hlt; simp at hlt
            · exact h0
          obtain ⟨a, HA, y0, y1, y2⟩ := hca.at hlt
          have z0 := (BW.out.cell (p := ⟨b, off + j * 3, none⟩) hb).trans y0
          have z1 := (BW.out.cell (p := ⟨b, off + j * 3 + 1, none⟩) hb).trans y1
          have z2 := (BW.out.cell (p := ⟨b, off + j * 3 + 2, none⟩) hb).trans y2
          clear y0 y1 y2
          have B2 : Hid (Below w.heap.size w (wr.alloc (.cells #[.int .i64 a.f, .int .i64 a.e, .int .i64 a.t] 75))) := BW.out.alloc BW.out.size _
          have L2 : Hid (Below V0.heap.size V0 (wr.alloc (.cells #[.int .i64 a.f, .int .i64 a.e, .int .i64 a.t] 75))) := LB.out.alloc LB.out.size _
          have KA : Hid (Blk (wr.alloc (.cells #[.int .i64 a.f, .int .i64 a.e, .int .i64 a.t] 75)) wr.heap.size 75 #[.int .i64 a.f, .int .i64 a.e, .int .i64 a.t]) := Blk.new wr _ _
          have f0 := KA.out.cell 0 rfl
          have f1 := KA.out.cell 1 rfl
          have f2 := KA.out.cell 2 rfl
          go_wp2_with fail
          clear x0 x1 x2 x3 x4 z0 z1 z2 BW KW LB
          revert B2 L2 f0 f1 f2
          clear KA
          generalize wr.alloc (.cells #[.int .i64 a.f, .int .i64 a.e, .int .i64 a.t] 75) = V
          intro B2 L2 f0 f1 f2
          refine (refHas_any ra rc row a.f _ (hR.out.below B2.out (Nat.le_refl _)) hRl.out).mono ?_
          rintro e W ⟨rfl, rfl⟩
          cases d1 : hasB row a.f with
          | false =>
            have HN : Hid ((m.arrows.take (j + 1)).all (arrOk free row) = true) := all_takeA hlt HA HL.out (by unfold arrOk; rw [d1]; rfl)
            clear d1
            go_wp2_with fail
            go_roundw
            case rel => exact ⟨j + 1, by omega, by go_num, HN, L2⟩
            case measure => simp [intOf]; omega
          | true =>
            have D1 := Hid.of d1
            clear d1
            go_wp2_with fail
            refine (refHas_any fa fc free a.e _ (hF.out.below B2.out (Nat.le_refl _)) hFl.out).mono ?_
            rintro e W2 ⟨rfl, rfl⟩
            cases d2 : hasB free a.e with
            | true =>
              have HN : Hid ((m.arrows.take (j + 1)).all (arrOk free row) = true) := all_takeA hlt HA HL.out (by unfold arrOk; rw [d2]; simp)
              clear d2
              go_wp2_with fail
              go_roundw
              case rel => exact ⟨j + 1, by omega, by go_num, HN, L2⟩
              case measure => simp [intOf]; omega
            | false =>
              have D2 := Hid.of d2
              clear d2
              go_wp2_with fail
              refine (refHas_any ra rc row a.t _ (hR.out.below B2.out (Nat.le_refl _)) hRl.out).mono ?_
              rintro e W3 ⟨rfl, rfl⟩
              cases d3 : hasB row a.t with
              | true =>
                have HN : Hid ((m.arrows.take (j + 1)).all (arrOk free row) = true) := all_takeA hlt HA HL.out (by unfold arrOk; rw [d3]; simp)
                clear d3
                go_wp2_with fail
                go_roundw
                case rel => exact ⟨j + 1, by omega, by go_num, HN, L2⟩
                case measure => simp [intOf]; omega
              | false =>
                have HO : Hid (false = safeB m free bad row) := safe_no2 hlt HA D1.out D2.out d3
                clear d3
                go_wp2_with fail
                go_ret
                exact ⟨ret_bool HO.out, B2.out⟩
        · have hj2 : m.arrows.length ≤ j := by omega
          have HO : Hid (true = safeB m free bad row) := by
            have := HL.out
            rw [List.take_of_length_le hj2] at this
            show _ = _
            unfold safeB
            rw [HA2.out, this]; rfl
          clear hlt
          go_wp2_with fail
          go_ret
          exact ⟨ret_bool HO.out, BW.out⟩

theorem rsafe_any (m : Mach) (l : ML) (fa : Option Addr) (fc : Nat) (free : List Int) (ba : Option Addr) (bc : Nat) (bad : List Int) (ra : Option Addr) (rc : Nat) (row : List Int) (w : World) (h : MAt w m l) (hF : At w fa free) (hFl : free.length ≤ maxLen) (hB : At w ba bad) (hBl : bad.length ≤ maxLen) (hR : At w ra row) (hRl : row.length ≤ maxLen) :
    Calls Tryd.prog 39 #[mval m l, .slice fa free.length fc, .slice ba bad.length bc, .slice ra row.length rc] w fun e w' => e = .returned (.bool (safeB m free bad row)) ∧ Below w.heap.size w w' := by
  obtain ⟨a1, c1, a2, c2, a3, c3⟩ := l
  exact rsafe_go m a1 c1 a2 c2 a3 c3 fa fc free ba bc bad ra rc row w (Hid.of h) (Hid.of hF) (Hid.of hFl) (Hid.of hB) (Hid.of hBl) (Hid.of hR) (Hid.of hRl)

end Go.Proofs.YtkodmnooibpflaaDoor
