/-
  The walk of jalousieref5.Wide: states, and where unseen events lead to from them.
  The walk of jalousieref2.Step.
  The walk of jalousieref1.Only: the numbers of a list that are (or are not) in another one.
  jalousieref5.Wide, Seeing and Seen, whatever comes in that may be.
  The walks of jalousieref9.May, From, Estimate and Tells.
-/
import Derived.Test.YtgfpjfiikajadaaDoorG06
import Derived.Test.YtgfpjfiikajadaaDoorG03
import Derived.Test.YtgfpjfiikajadaaDoorG28
import Derived.Test.YtgfpjfiikajadaaDoorG13
import Derived.Test.YtgfpjfiikajadaaDoorG21
import Derived.Test.YtgfpjfiikajadaaDoorG04
import Derived.Deep.QuietTactic
import Derived.Deep.RegionWith
import Derived.Deep.RegionHeld3
import Derived.BigQuiet
import Derived.Test.YtgfpjfiikajadaaDoorG07
import Derived.Test.YtgfpjfiikajadaaDoorCRefMay
namespace Go.Proofs.YtgfpjfiikajadaaDoor
open Go.RowKit
set_option linter.unusedVariables false

set_option maxHeartbeats 4000000 in
set_option maxRecDepth 100000 in
theorem refWide_some (st ev : Int) (starts : List Int) (ars : List Arr) (ends : List Int) (a1 : Option Addr) (c1 b off c2 : Nat) (a3 : Option Addr) (c3 : Nat) (sa na : Option Addr) (sc nc : Nat) (ss seen : List Int) (w : World) (hlen : ars.length ≤ 4096) (hb : b < w.heap.size) (hca : CellsA w b off ars) (hin : Hid (∀ a ∈ ars, 0 ≤ a.t ∧ a.t < (256 : Nat))) (hs : At w sa ss) (hsl : ss.length ≤ 4096) (hn : Hid (sa = none → sc = 0)) (hq : Hid (At w na seen)) (hql : Hid (seen.length ≤ maxLen)) :
    Calls Tryd.prog 64 #[mval ⟨st, ev, starts, ars, ends⟩ ⟨a1, c1, some ⟨b, off, none⟩, c2, a3, c3⟩, .slice sa ss.length sc, .slice na seen.length nc] w fun e w' => GivesO w (wideL ars seen ss) e w' := by
  obtain ⟨i0, hi, hz0, hz1, hz2⟩ := info_parts Tryd.infoInt
  have o0 : Own ((w.alloc (.cells (mcells ⟨st, ev, starts, ars, ends⟩ ⟨a1, c1, some ⟨b, off, none⟩, c2, a3, c3⟩) 25)).alloc (.cells #[] 3)) (w.heap.size + 1) (.slice (some ⟨w.heap.size + 1, 0, none⟩) 0 0) [] := by
    have := own_empty (w.alloc (.cells (mcells ⟨st, ev, starts, ars, ends⟩ ⟨a1, c1, some ⟨b, off, none⟩, c2, a3, c3⟩) 25))
    rwa [World.size_alloc] at this
  have b0 : Below w.heap.size w ((w.alloc (.cells (mcells ⟨st, ev, starts, ars, ends⟩ ⟨a1, c1, some ⟨b, off, none⟩, c2, a3, c3⟩) 25)).alloc (.cells #[] 3)) := ((Below.refl _ _).alloc (Nat.le_refl _) _).alloc (by simp) _
  have bb0 : Below (w.heap.size + 1) (w.alloc (.cells (mcells ⟨st, ev, starts, ars, ends⟩ ⟨a1, c1, some ⟨b, off, none⟩, c2, a3, c3⟩) 25)) ((w.alloc (.cells (mcells ⟨st, ev, starts, ars, ends⟩ ⟨a1, c1, some ⟨b, off, none⟩, c2, a3, c3⟩) 25)).alloc (.cells #[] 3)) := (Below.refl _ _).alloc (by simp) _
  have s0 := hs.below b0 (Nat.le_refl _)
  go_enter Tryd.func64, Tryd.ntmps64
  go_wp2_with (at_builtin; refine wpList_append_ints _ rfl _ _ 22 rfl (w.heap.size + 1) i0 Tryd.underlying22 hi hz0 hz1 hz2 _ [] rfl o0 sa sc ss rfl s0 hn.out (by simp only [List.length_nil]; omega) (by simp) ?_)
  intro v0 w0 o1 b1 z1
  have B1 : Hid (Below (w.heap.size + 1) (w.alloc (.cells (mcells ⟨st, ev, starts, ars, ends⟩ ⟨a1, c1, some ⟨b, off, none⟩, c2, a3, c3⟩) 25)) w0) := bb0.trans b1
  have O1 : Hid (Own w0 (w.heap.size + 1) v0 ss) := o1
  clear o0 b0 bb0 s0 o1 b1
  go_wp2
  go_loopw [7, 8] (fun v i wr => ∃ (k : Nat) (L : List Int), k ≤ L.length ∧ i = .int .i64 k ∧ Hid (Own wr (w.heap.size + 1) v L) ∧ Hid (Below (w.heap.size + 1) (w.alloc (.cells (mcells ⟨st, ev, starts, ars, ends⟩ ⟨a1, c1, some ⟨b, off, none⟩, c2, a3, c3⟩) 25)) wr) ∧ Hid (wGo ars seen (ss.length + 256) 0 ss = wGo ars seen (ss.length + 256 - k) k L) ∧ Hid (WB ss L)) (fun _ i _ => ss.length + 256 - (intOf i).toNat)
  case atStart => exact ⟨0, ss, by omega, rfl, O1, B1, rfl, WB.refl _⟩
  case round =>
    clear O1 B1
    obtain ⟨k, L, hk, rfl, hown, hbel, hc, hwb⟩ := hrel
    have hold := Hid.of (below_box hbel.out)
    have hsz := hbel.out.size
    rw [World.size_alloc] at hsz
    have hbx : w.heap.size < wr.heap.size := by omega
    obtain ⟨-, -, -, x3, -⟩ := box_cells hbel.out
    dsimp only at x3
    have hll := hwb.out.len
    obtain ⟨la, lc, rfl, hat, hln⟩ := hown.out.at
    by_cases hks : k < L.length
    · go_wp2
      obtain ⟨x, HX⟩ : ∃ x, Hid (x = L[k]?.getD 0) := ⟨_, rfl⟩
      go_loopw [7, 9] (fun v i wr' => ∃ (j : Nat), j ≤ ars.length ∧ i = .int .i64 j ∧ Hid (Own wr' (w.heap.size + 1) v (wRow (ars.take j) seen x L)) ∧ Hid (Below (w.heap.size + 1) (w.alloc (.cells (mcells ⟨st, ev, starts, ars, ends⟩ ⟨a1, c1, some ⟨b, off, none⟩, c2, a3, c3⟩) 25)) wr') ∧ Hid (WB ss (wRow (ars.take j) seen x L))) (fun _ i _ => ars.length - (intOf i).toNat)
      case atStart => exact ⟨0, Nat.zero_le _, rfl, hown, hbel, hwb⟩
      case round =>
        clear hown hbel hold hat x3 hsz hbx hln hwb
        obtain ⟨j, hj, rfl, hown, hbel, hwb⟩ := hrel
        have hold := Hid.of (below_box hbel.out)
        have hsz := hbel.out.size
        rw [World.size_alloc] at hsz
        have hbx : w.heap.size < wr.heap.size := by omega
        obtain ⟨-, -, -, x3, -⟩ := box_cells hbel.out
        dsimp only at x3
        by_cases hlt : j < ars.length
        · obtain ⟨a, HA, y0, y1, y2⟩ := hca.at hlt
          have y0' := (hold.out.cell (p := ⟨b, off + j * 3, none⟩) hb).trans y0
          have y1' := (hold.out.cell (p := ⟨b, off + j * 3 + 1, none⟩) hb).trans y1
          have y2' := (hold.out.cell (p := ⟨b, off + j * 3 + 2, none⟩) hb).trans y2
          clear y0 y1 y2
          have HN := Hid.of (wRow_take (seen := seen) (x := x) (l := L) hlt HA)
          have HK := Hid.of (wRow_nth (ars := ars.take j) (seen := seen) (x := x) hks)
          obtain ⟨T, hT⟩ : ∃ T, T = wRow (ars.take j) seen x L := ⟨_, rfl⟩
          rw [← hT] at hown hwb HN HK
          clear hT
          have hlT := hwb.out.len
          have hkT := HK.out.1
          have hmem : a ∈ ars := by have := HA.out; rw [List.getElem?_eq_getElem hlt, Option.getD_some] at this; rw [this]; exact List.getElem_mem _
          have hta := Hid.of (hin.out a hmem)
          have HW : Hid (WB ss (wAdd seen x T a)) := hwb.out.add hta.out
          clear hmem
          obtain ⟨la', lc', rfl, hat, hln⟩ := hown.out.at
          rcases hat with h0 | ⟨lb, lo, rfl, hlb, hcl⟩
          · exact absurd (by rw [h0]; rfl) (show ¬ T.length = 0 by omega)
          obtain ⟨x', HX', hcx⟩ := hcl.at hkT
          have hxx : Hid (x' = x) := by show _ = _; rw [HX'.out, HK.out.2, ← HX.out]
          have OV : Hid (Own (wr.alloc (Obj.cells #[.int .i64 a.f, .int .i64 a.e, .int .i64 a.t] 61)) (w.heap.size + 1) (.slice (some ⟨lb, lo, none⟩) T.length lc') T) := World.ownsRow.alloc hown.out _
          have BV : Hid (Below (w.heap.size + 1) (w.alloc (.cells (mcells ⟨st, ev, starts, ars, ends⟩ ⟨a1, c1, some ⟨b, off, none⟩, c2, a3, c3⟩) 25)) (wr.alloc (Obj.cells #[.int .i64 a.f, .int .i64 a.e, .int .i64 a.t] 61))) := hbel.out.alloc (by omega) _
          have B9 : Below w.heap.size w (wr.alloc (Obj.cells #[.int .i64 a.f, .int .i64 a.e, .int .i64 a.t] 61)) := hold.out.alloc (by omega) _
          have KV : Hid (Blk (wr.alloc (Obj.cells #[.int .i64 a.f, .int .i64 a.e, .int .i64 a.t] 61)) wr.heap.size 61 #[.int .i64 a.f, .int .i64 a.e, .int .i64 a.t]) := Blk.new wr _ _
          have cV : (wr.alloc (Obj.cells #[.int .i64 a.f, .int .i64 a.e, .int .i64 a.t] 61)).cell? ⟨lb, lo + k, none⟩ = some (.int .i64 x') := (((Below.refl wr.heap.size wr).alloc (Nat.le_refl _) _).cell (p := ⟨lb, lo + k, none⟩) hlb).trans hcx
          have qV : Hid (At (wr.alloc (Obj.cells #[.int .i64 a.f, .int .i64 a.e, .int .i64 a.t] 61)) na seen) := hq.out.below B9 (Nat.le_refl _)
          have f0 := KV.out.cell 0 rfl
          have f1 := KV.out.cell 1 rfl
          have f2 := KV.out.cell 2 rfl
          go_wp2_with fail
          clear B9 hcx hlb hcl y0' y1' y2' x3 hown hbel hold hsz
          have hVs : Hid (wr.heap.size < (wr.alloc (Obj.cells #[.int .i64 a.f, .int .i64 a.e, .int .i64 a.t] 61)).heap.size) := by show _ < _; rw [World.size_alloc]; omega
          revert OV BV KV cV qV f0 f1 f2 hVs
          generalize wr.alloc (Obj.cells #[.int .i64 a.f, .int .i64 a.e, .int .i64 a.t] 61) = V
          generalize wr.heap.size = N at *
          intro OV BV KV cV qV f0 f1 f2 hVs
          obtain ⟨la2, lc2, e2, aT, lT⟩ := OV.out.at
          cases e2
          have KEY1 : Hid (∀ n, Calls Tryd.prog 89 #[.slice na seen.length nc, .int .i64 a.e] (V.drewN n) fun e w' => e = .returned (.bool (hasB seen a.e)) ∧ w' = V.drewN n) := fun n => refHas_any na nc seen a.e _ (At.drewN qV.out n) hql.out
          have KEY2 : Hid (∀ n, Calls Tryd.prog 89 #[.slice (some ⟨lb, lo, none⟩) T.length lc', .int .i64 a.t] (V.drewN n) fun e w' => e = .returned (.bool (hasB T a.t)) ∧ w' = V.drewN n) := fun n => refHas_any _ lc' T a.t _ (At.drewN aT n) lT
          clear aT lT qV KV
          by_cases d1 : a.f = x'
          · have g1 : (a.f == x') = true := by simp [d1]
            have D1 : Hid (a.f = x) := by show _ = _; rw [d1, hxx.out]
            clear d1
            by_cases d2 : hasB seen a.e = true
            · rw [d2] at KEY1
              have HR : Hid (wAdd seen x T a = T) := by show _ = _; unfold wAdd; rw [if_neg (by rw [d2]; simp)]
              clear d2
              go_quiet (first | (go_at_call_of 89 (Value.slice na seen.length nc); exact Calls.quiet_of_same (KEY1.out _)) | (go_at_call_of 89 (Value.slice (some ⟨lb, lo, none⟩) T.length lc'); exact Calls.quiet_of_same (KEY2.out _)))
              obtain ⟨V2, HV2⟩ : ∃ V2, Hid (V2 = V.drewN nq) := ⟨_, rfl⟩
              have OV2 : Hid (Own V2 (w.heap.size + 1) (.slice (some ⟨lb, lo, none⟩) T.length lc') T) := by show Own _ _ _ _; rw [HV2.out]; exact OV.out
              have BV2 : Hid (Below (w.heap.size + 1) (w.alloc (.cells (mcells ⟨st, ev, starts, ars, ends⟩ ⟨a1, c1, some ⟨b, off, none⟩, c2, a3, c3⟩) 25)) V2) := by show Below _ _ _; rw [HV2.out]; exact below_drewN BV.out nq
              rw [← HV2.out]
              clear OV BV KEY1 KEY2 cV f0 f1 f2
              go_wp2
              go_roundw
              case rel => exact ⟨j + 1, by omega, by go_num, by rw [HN.out, HR.out]; exact OV2, BV2, by rw [HN.out]; exact HW⟩
              case measure => simp [intOf]; omega
            · have d2 : hasB seen a.e = false := by simpa using d2
              rw [d2] at KEY1
              by_cases d3 : hasB T a.t = true
              · rw [d3] at KEY2
                have HR : Hid (wAdd seen x T a = T) := by show _ = _; unfold wAdd; rw [if_neg (by rw [d3]; simp)]
                clear d2 d3
                go_quiet (first | (go_at_call_of 89 (Value.slice na seen.length nc); exact Calls.quiet_of_same (KEY1.out _)) | (go_at_call_of 89 (Value.slice (some ⟨lb, lo, none⟩) T.length lc'); exact Calls.quiet_of_same (KEY2.out _)))
                obtain ⟨V2, HV2⟩ : ∃ V2, Hid (V2 = V.drewN nq) := ⟨_, rfl⟩
                have OV2 : Hid (Own V2 (w.heap.size + 1) (.slice (some ⟨lb, lo, none⟩) T.length lc') T) := by show Own _ _ _ _; rw [HV2.out]; exact OV.out
                have BV2 : Hid (Below (w.heap.size + 1) (w.alloc (.cells (mcells ⟨st, ev, starts, ars, ends⟩ ⟨a1, c1, some ⟨b, off, none⟩, c2, a3, c3⟩) 25)) V2) := by show Below _ _ _; rw [HV2.out]; exact below_drewN BV.out nq
                rw [← HV2.out]
                clear OV BV KEY1 KEY2 cV f0 f1 f2
                go_wp2
                go_roundw
                case rel => exact ⟨j + 1, by omega, by go_num, by rw [HN.out, HR.out]; exact OV2, BV2, by rw [HN.out]; exact HW⟩
                case measure => simp [intOf]; omega
              · have d3 : hasB T a.t = false := by simpa using d3
                rw [d3] at KEY2
                have HR : Hid (wAdd seen x T a = T ++ [a.t]) := by show _ = _; unfold wAdd; rw [if_pos (by rw [D1.out, d2, d3]; simp)]
                clear d2 d3
                go_quiet (first | (go_at_call_of 89 (Value.slice na seen.length nc); exact Calls.quiet_of_same (KEY1.out _)) | (go_at_call_of 89 (Value.slice (some ⟨lb, lo, none⟩) T.length lc'); exact Calls.quiet_of_same (KEY2.out _)))
                obtain ⟨V2, HV2⟩ : ∃ V2, Hid (V2 = V.drewN nq) := ⟨_, rfl⟩
                have OV2 : Hid (Own V2 (w.heap.size + 1) (.slice (some ⟨lb, lo, none⟩) T.length lc') T) := by show Own _ _ _ _; rw [HV2.out]; exact OV.out
                have BV2 : Hid (Below (w.heap.size + 1) (w.alloc (.cells (mcells ⟨st, ev, starts, ars, ends⟩ ⟨a1, c1, some ⟨b, off, none⟩, c2, a3, c3⟩) 25)) V2) := by show Below _ _ _; rw [HV2.out]; exact below_drewN BV.out nq
                have f2' : V2.cell? ⟨N, 2, none⟩ = some (.int .i64 a.t) := by rw [HV2.out]; exact f2
                have hVs2 := BV2.out.size
                rw [World.size_alloc] at hVs2
                rw [← HV2.out]
                clear OV BV KEY1 KEY2 cV f0 f1 f2
                go_wp2_with (at_builtin; refine wpList_append_own _ rfl _ _ 22 rfl (w.heap.size + 1) 3 i0 (.int .i64 0) 1 8 Tryd.underlying22 hi hz0 hz1 hz2 rfl (by decide) _ _ _ rfl (World.ownsRow.alloc OV2.out _) ⟨V2.heap.size, 0, none⟩ 1 1 [.int .i64 a.t] rfl rfl (cell_one_new _ _ _) (by intro u hu; simp at hu; subst hu; rfl) (by unfold maxLen; omega) (by omega) (by simp; omega) ?_)
                intro v' w2 hown' hgrow _
                obtain ⟨r1, r2, -⟩ := own_snoc OV2.out BV2.out (by omega) hown' hgrow
                have R1 := Hid.of r1
                have R2 := Hid.of r2
                clear hown' hgrow r1 r2
                go_wp2
                go_roundw
                case rel => exact ⟨j + 1, by omega, by go_num, by rw [HN.out, HR.out]; exact R1, R2, by rw [HN.out]; exact HW⟩
                case measure => simp [intOf]; omega
          · have g1 : (a.f == x') = false := by simp [d1]
            have HR : Hid (wAdd seen x T a = T) := by show _ = _; unfold wAdd; rw [if_neg (by rw [← hxx.out]; simp [d1])]
            clear d1
            go_quiet (first | (go_at_call_of 89 (Value.slice na seen.length nc); exact Calls.quiet_of_same (KEY1.out _)) | (go_at_call_of 89 (Value.slice (some ⟨lb, lo, none⟩) T.length lc'); exact Calls.quiet_of_same (KEY2.out _)))
            obtain ⟨V2, HV2⟩ : ∃ V2, Hid (V2 = V.drewN nq) := ⟨_, rfl⟩
            have OV2 : Hid (Own V2 (w.heap.size + 1) (.slice (some ⟨lb, lo, none⟩) T.length lc') T) := by show Own _ _ _ _; rw [HV2.out]; exact OV.out
            have BV2 : Hid (Below (w.heap.size + 1) (w.alloc (.cells (mcells ⟨st, ev, starts, ars, ends⟩ ⟨a1, c1, some ⟨b, off, none⟩, c2, a3, c3⟩) 25)) V2) := by show Below _ _ _; rw [HV2.out]; exact below_drewN BV.out nq
            rw [← HV2.out]
            clear OV BV KEY1 KEY2 cV f0 f1 f2
            go_wp2
            go_roundw
            case rel => exact ⟨j + 1, by omega, by go_num, by rw [HN.out, HR.out]; exact OV2, BV2, by rw [HN.out]; exact HW⟩
            case measure => simp [intOf]; omega
        · have htk : ars.take j = ars := List.take_of_length_le (by omega)
          rw [htk] at hown hwb
          clear htk
          obtain ⟨T, hT⟩ : ∃ T, T = wRow ars seen x L := ⟨_, rfl⟩
          have HT := Hid.of hT
          have HK := Hid.of (wRow_nth (ars := ars) (seen := seen) (x := x) hks)
          rw [← hT] at hown hwb HK
          clear hT
          have HC : Hid (wGo ars seen (ss.length + 256) 0 ss = wGo ars seen (ss.length + 256 - (k + 1)) (k + 1) T) := by
            show _ = _
            rw [hc.out, wGo_next hks (by omega), ← HX.out, ← HT.out, Nat.sub_sub]
          have hkT := HK.out.1
          go_wp2
          exact ⟨⟨k + 1, T, by omega, by go_num, hown, hbel, HC, hwb⟩, by simp [intOf]; omega⟩
    · have HC : Hid (wGo ars seen (ss.length + 256) 0 ss = L) := by
        show _ = _
        rw [hc.out, wGo_end hks]
      have HAT := Hid.of hat
      clear hat
      go_wp2_with (go_at_call 90; refine (sorted_own la lc L _ HAT.out (by omega)).mono ?_; rintro e w1 ⟨v4, rfl, h4, b4⟩; have H4 := Hid.of h4; have B4 := Hid.of b4; clear h4 b4)
      go_ret
      exact ⟨v4, rfl, by unfold wideL; rw [HC.out]; exact H4.out.low (by omega), hold.out.trans (B4.out.mono (by omega))⟩

end Go.Proofs.YtgfpjfiikajadaaDoor
namespace Go.Proofs.YtgfpjfiikajadaaDoor
open Go.RowKit
set_option linter.unusedVariables false

set_option maxHeartbeats 2000000 in
set_option maxRecDepth 100000 in
theorem refStep_some (st ev : Int) (starts : List Int) (ars : List Arr) (ends : List Int) (a1 : Option Addr) (c1 b off c2 : Nat) (a3 : Option Addr) (c3 : Nat) (sa : Option Addr) (sc : Nat) (ss : List Int) (x : Int) (w : World) (hlen : ars.length ≤ 17592186044416) (hb : b < w.heap.size) (hca : CellsA w b off ars) (hs : At w sa ss) (hl : ss.length ≤ maxLen) :
    Calls Tryd.prog 51 #[mval ⟨st, ev, starts, ars, ends⟩ ⟨a1, c1, some ⟨b, off, none⟩, c2, a3, c3⟩, .slice sa ss.length sc, .int .i64 x] w fun e w' => GivesO w (stepL ars ss x) e w' := by
  obtain ⟨i0, hi, hz0, hz1, hz2⟩ := info_parts Tryd.infoInt
  go_enter Tryd.func51, Tryd.ntmps51
  go_wp2
  go_loopw [7, 8] (fun v i wr => ∃ k : Nat, k ≤ ars.length ∧ i = .int .i64 k ∧ Own wr (w.heap.size + 1) v (stepTo (ars.take k) ss x) ∧ Below (w.heap.size + 1) (w.alloc (.cells (mcells ⟨st, ev, starts, ars, ends⟩ ⟨a1, c1, some ⟨b, off, none⟩, c2, a3, c3⟩) 25)) wr) (fun _ i _ => ars.length - (intOf i).toNat)
  case atStart => exact ⟨0, Nat.zero_le _, rfl, own_nil _ _, Below.refl _ _⟩
  case round =>
    obtain ⟨k, hk, rfl, hown, hbel⟩ := hrel
    have hold := below_box hbel
    have hsz := hbel.size
    rw [World.size_alloc] at hsz
    have hbx : w.heap.size < wr.heap.size := by omega
    have hbr : b < wr.heap.size := by omega
    have hbox := (box_cells hbel).2.2.2.1
    dsimp only at hbox
    by_cases hlt : k < ars.length
    · obtain ⟨a, HA, y0, y1, y2⟩ := hca.at hlt
      have y0' := (hold.cell (p := ⟨b, off + k * 3, none⟩) hb).trans y0
      have y1' := (hold.cell (p := ⟨b, off + k * 3 + 1, none⟩) hb).trans y1
      have y2' := (hold.cell (p := ⟨b, off + k * 3 + 2, none⟩) hb).trans y2
      clear y0 y1 y2
      have hsr := hs.below hold (Nat.le_refl _)
      have hll := stepTo_len (ars.take k) ss x
      rw [List.length_take] at hll
      have HN := stepTo_take (ss := ss) (e := x) hlt HA
      by_cases c1' : a.e = x
      · have g1 : (a.e == x) = true := by simp [c1']
        have HC : Hid (a.e = x) := c1'
        clear c1'
        go_wp2_with fail
        refine (refHas_any sa sc ss a.f _ hsr hl).mono ?_
        rintro e w1 ⟨rfl, rfl⟩
        by_cases c2' : hasB ss a.f = true
        · rw [if_pos (by rw [g1, c2']; rfl)] at HN
          have HN' : Hid (stepTo (ars.take (k + 1)) ss x = stepTo (ars.take k) ss x ++ [a.t]) := HN
          clear HN
          go_wp2_with (at_builtin; refine wpList_append_own _ rfl _ _ 22 rfl (w.heap.size + 1) 3 i0 (.int .i64 0) 1 8 Tryd.underlying22 hi hz0 hz1 hz2 rfl (by decide) _ _ _ rfl (World.ownsRow.alloc hown _) ⟨w1.heap.size, 0, none⟩ 1 1 [.int .i64 a.t] rfl rfl (cell_one_new _ _ _) (by intro u hu; simp at hu; subst hu; rfl) (by unfold maxLen; omega) (by omega) (by simp; omega) ?_)
          intro v' w2 hown' hgrow _
          obtain ⟨r1, r2, -⟩ := own_snoc hown hbel (by omega) hown' hgrow
          rw [← HN'.out] at r1
          clear hown' hgrow hown
          go_wp2
          go_roundw
          case rel => exact ⟨k + 1, by omega, by go_num, r1, r2⟩
          case measure => simp [intOf]; omega
        · have c3' : hasB ss a.f = false := by simpa using c2'
          rw [if_neg (by rw [c3']; simp)] at HN
          have r1 := hown
          rw [← HN] at r1
          clear HN c2'
          go_wp2
          go_roundw
          case rel => exact ⟨k + 1, by omega, by go_num, r1, hbel⟩
          case measure => simp [intOf]; omega
      · have g1 : (a.e == x) = false := by simp [c1']
        rw [if_neg (by rw [g1]; simp)] at HN
        have r1 := hown
        rw [← HN] at r1
        clear HN
        go_wp2
        go_roundw
        case rel => exact ⟨k + 1, by omega, by go_num, r1, hbel⟩
        case measure => simp [intOf]; omega
    · have htk : Hid (ars.take k = ars) := List.take_of_length_le (by omega)
      rw [htk.out] at hown
      have hl2 := stepTo_len ars ss x
      obtain ⟨a', c', rfl, h3, l3⟩ := hown.at
      go_wp2_with fail
      refine (sorted_own a' c' (stepTo ars ss x) _ h3 (by omega)).mono ?_
      rintro e w1 ⟨v4, rfl, o4, b4⟩
      have bb : Below w.heap.size w w1 := hold.trans (b4.mono (by omega))
      go_wp2
      go_ret
      exact ⟨v4, rfl, o4.low (by omega), bb⟩

set_option maxHeartbeats 400000 in
theorem refStep_nil (st ev : Int) (starts : List Int) (ends : List Int) (l : ML) (sa : Option Addr) (sc : Nat) (ss : List Int) (x : Int) (w : World) :
    Calls Tryd.prog 51 #[mval ⟨st, ev, starts, [], ends⟩ l, .slice sa ss.length sc, .int .i64 x] w fun e w' => GivesO w [] e w' := by
  go_enter Tryd.func51, Tryd.ntmps51
  go_wp2_with fail
  refine wp_loop_rounds 1 ?_
  rw [rounds_succ]
  go_wp2_with fail
  refine (sorted_nil none 0 _).mono ?_
  rintro e w1 ⟨rfl, rfl⟩
  go_wp2
  go_ret
  exact ⟨_, rfl, own_nil _ _, (Below.refl _ _).alloc (Nat.le_refl _) _⟩

theorem refStep_own (m : Mach) (l : ML) (sa : Option Addr) (sc : Nat) (ss : List Int) (x : Int) (w : World) (ha : AtA w l.a2 m.arrows) (hlen : m.arrows.length ≤ 17592186044416) (hs : At w sa ss) (hl : ss.length ≤ maxLen) :
    Calls Tryd.prog 51 #[mval m l, .slice sa ss.length sc, .int .i64 x] w fun e w' => GivesO w (stepL m.arrows ss x) e w' := by
  obtain ⟨st, ev, starts, ars, ends⟩ := m
  obtain ⟨a1, c1, a2, c2, a3, c3⟩ := l
  rcases ha with h0 | ⟨b, off, h0, hb, hc⟩
  · have h0 : ars = [] := h0
    subst h0
    exact refStep_nil st ev starts ends _ sa sc ss x w
  · have h0 : a2 = some ⟨b, off, none⟩ := h0
    subst h0
    exact refStep_some st ev starts ars ends a1 c1 b off c2 a3 c3 sa sc ss x w hlen hb hc hs hl

theorem refStep_any (m : Mach) (l : ML) (sa : Option Addr) (sc : Nat) (ss : List Int) (x : Int) (w : World) (ha : AtA w l.a2 m.arrows) (hlen : m.arrows.length ≤ 17592186044416) (hs : At w sa ss) (hl : ss.length ≤ maxLen) :
    Calls Tryd.prog 51 #[mval m l, .slice sa ss.length sc, .int .i64 x] w fun e w' => Gives w (stepL m.arrows ss x) e w' :=
  (refStep_own m l sa sc ss x w ha hlen hs hl).mono fun _ _ h => h.gives

end Go.Proofs.YtgfpjfiikajadaaDoor
namespace Go.Proofs.YtgfpjfiikajadaaDoor
open Go.RowKit
set_option linter.unusedVariables false

/-- Of the first k numbers those that are (b = true) or are not in ys. -/
def onlyTo (xs ys : List Int) (b : Bool) (k : Nat) : List Int := (xs.take k).filter (fun n => hasB ys n == b)

theorem onlyTo_len (xs ys : List Int) (b : Bool) (k : Nat) : (onlyTo xs ys b k).length ≤ k := Nat.le_trans (List.length_filter_le _ _) (List.length_take_le _ _)
theorem onlyTo_all {xs : List Int} (ys : List Int) (b : Bool) {k : Nat} (h : ¬ k < xs.length) : onlyTo xs ys b k = xs.filter (fun n => hasB ys n == b) := by
  rw [onlyTo, List.take_of_length_le (by omega)]
theorem onlyTo_hit {xs ys : List Int} {b : Bool} {k : Nat} {x : Int} (h : k < xs.length) (hx : Hid (x = xs[k]?.getD 0)) (hb : hasB ys x = b) : onlyTo xs ys b (k + 1) = onlyTo xs ys b k ++ [x] := by
  have hx := hx.out
  rw [List.getElem?_eq_getElem h] at hx
  simp only [Option.getD_some] at hx
  rw [onlyTo, onlyTo, List.take_add_one, List.getElem?_eq_getElem h, List.filter_append]
  simp [← hx, hb]
theorem onlyTo_miss {xs ys : List Int} {b : Bool} {k : Nat} {x : Int} (h : k < xs.length) (hx : Hid (x = xs[k]?.getD 0)) (hb : ¬ hasB ys x = b) : onlyTo xs ys b (k + 1) = onlyTo xs ys b k := by
  have hx := hx.out
  rw [List.getElem?_eq_getElem h] at hx
  simp only [Option.getD_some] at hx
  rw [onlyTo, onlyTo, List.take_add_one, List.getElem?_eq_getElem h, List.filter_append]
  simp [← hx, hb]

set_option maxHeartbeats 1600000 in
set_option maxRecDepth 100000 in
theorem only_some (bx ox cx cy : Nat) (ay : Option Addr) (xs ys : List Int) (bb : Bool) (w : World) (hl : xs.length ≤ 17592186044416) (hbx : bx < w.heap.size) (hc : Cells w bx ox xs) (ht : At w ay ys) (hm : ys.length ≤ maxLen) :
    Calls Tryd.prog 52 #[.slice (some ⟨bx, ox, none⟩) xs.length cx, .slice ay ys.length cy, .bool bb] w fun e w' => ∃ v, e = .returned v ∧ Own w' w.heap.size v (xs.filter (fun n => hasB ys n == bb)) ∧ Below w.heap.size w w' := by
  obtain ⟨i0, hi, hz0, hz1, hz2⟩ := info_parts Tryd.infoInt
  go_enter Tryd.func52, Tryd.ntmps52
  go_wp2
  go_loopw [7, 8] (fun v i wr => ∃ k : Nat, k ≤ xs.length ∧ i = .int .i64 k ∧ Own wr w.heap.size v (onlyTo xs ys bb k) ∧ Below w.heap.size w wr) (fun _ i _ => xs.length - (intOf i).toNat)
  case atStart => exact ⟨0, Nat.zero_le _, rfl, own_nil _ _, Below.refl _ _⟩
  case round =>
    obtain ⟨k, hk, rfl, hown, hbel⟩ := hrel
    by_cases hlt : k < xs.length
    · obtain ⟨x, HX, hcx0⟩ := hc.at hlt
      have hcx : wr.cell? ⟨bx, ox + k, none⟩ = some (.int .i64 x) := (hbel.cell (p := ⟨bx, ox + k, none⟩) hbx).trans hcx0
      clear hcx0
      have htr : At wr ay ys := ht.below hbel (Nat.le_refl _)
      have hsz := hbel.size
      have hll := onlyTo_len xs ys bb k
      go_wp2_with fail
      refine (refHas_any ay cy ys x _ htr hm).mono ?_
      rintro e w' ⟨rfl, rfl⟩
      by_cases hh : hasB ys x = bb
      · have HH : Hid (hasB ys x = bb) := hh
        have d : (hasB ys x == bb) = true := by simp [hh]
        clear hh
        go_wp2_with (at_builtin; refine wpList_append_own _ rfl _ _ 22 rfl w.heap.size 3 i0 (.int .i64 0) 1 8 Tryd.underlying22 hi hz0 hz1 hz2 rfl (by decide) _ _ _ rfl (World.ownsRow.alloc hown _) ⟨w'.heap.size, 0, none⟩ 1 1 [.int .i64 x] rfl rfl (cell_one_new _ _ _) (by intro u hu; simp at hu; subst hu; rfl) (by unfold maxLen; omega) (by omega) (by simp; omega) ?_)
        intro v' w1 hown' hgrow _
        obtain ⟨r1, r2, -⟩ := own_snoc hown hbel hsz hown' hgrow
        rw [← onlyTo_hit hlt HX HH.out] at r1
        clear hown' hgrow hown hcx htr
        go_wp2
        go_roundw
        case rel => exact ⟨k + 1, by omega, by go_num, r1, r2⟩
        case measure => simp [intOf]; omega
      · have d : (hasB ys x == bb) = false := by simp [hh]
        have r1 := hown
        rw [← onlyTo_miss hlt HX hh] at r1
        go_wp2
        go_roundw
        case rel => exact ⟨k + 1, by omega, by go_num, r1, hbel⟩
        case measure => simp [intOf]; omega
    · rw [onlyTo_all ys bb hlt] at hown
      go_wp2
      go_ret
      exact ⟨_, rfl, hown, hbel⟩

set_option maxHeartbeats 400000 in
theorem only_nil (a ay : Option Addr) (cx cy : Nat) (ys : List Int) (bb : Bool) (w : World) :
    Calls Tryd.prog 52 #[.slice a 0 cx, .slice ay ys.length cy, .bool bb] w fun e w' => e = .returned (.slice none 0 0) ∧ w' = w := by
  go_enter Tryd.func52, Tryd.ntmps52
  go_wp2
  refine wp_loop_rounds 1 ?_
  rw [rounds_succ]
  go_wp2
  go_ret
  exact ⟨rfl, rfl⟩

theorem only_any (a ay : Option Addr) (cx cy : Nat) (xs ys : List Int) (bb : Bool) (w : World) (hs : At w a xs) (hl : xs.length ≤ 17592186044416) (ht : At w ay ys) (hm : ys.length ≤ maxLen) :
    Calls Tryd.prog 52 #[.slice a xs.length cx, .slice ay ys.length cy, .bool bb] w fun e w' => Gives w (xs.filter (fun n => hasB ys n == bb)) e w' := by
  rcases hs with rfl | ⟨b, off, rfl, hb, hc⟩
  · refine (only_nil a ay cx cy ys bb w).mono ?_
    rintro e w' ⟨rfl, rfl⟩
    exact gives_of_own (B := w'.heap.size) (own_nil _ _) (Below.refl _ _)
  · refine (only_some b off cx cy ay xs ys bb w hl hb hc ht hm).mono ?_
    rintro e w' ⟨v, rfl, h1, h2⟩
    exact gives_of_own h1 h2

end Go.Proofs.YtgfpjfiikajadaaDoor
namespace Go.Proofs.YtgfpjfiikajadaaDoor
open Go.RowKit
set_option linter.unusedVariables false

set_option maxHeartbeats 2000000 in
set_option maxRecDepth 100000 in
theorem refWide_nil (st ev : Int) (starts : List Int) (ends : List Int) (l : ML) (sa na : Option Addr) (sc nc : Nat) (ss seen : List Int) (w : World) (hs : At w sa ss) (hsl : ss.length ≤ 4096) (hn : Hid (sa = none → sc = 0)) :
    Calls Tryd.prog 64 #[mval ⟨st, ev, starts, [], ends⟩ l, .slice sa ss.length sc, .slice na seen.length nc] w fun e w' => GivesO w (wideL [] seen ss) e w' := by
  obtain ⟨i0, hi, hz0, hz1, hz2⟩ := info_parts Tryd.infoInt
  have o0 : Own ((w.alloc (.cells (mcells ⟨st, ev, starts, [], ends⟩ l) 25)).alloc (.cells #[] 3)) (w.heap.size + 1) (.slice (some ⟨w.heap.size + 1, 0, none⟩) 0 0) [] := by
    have := own_empty (w.alloc (.cells (mcells ⟨st, ev, starts, [], ends⟩ l) 25))
    rwa [World.size_alloc] at this
  have b0 : Below w.heap.size w ((w.alloc (.cells (mcells ⟨st, ev, starts, [], ends⟩ l) 25)).alloc (.cells #[] 3)) := ((Below.refl _ _).alloc (Nat.le_refl _) _).alloc (by simp) _
  have bb0 : Below (w.heap.size + 1) (w.alloc (.cells (mcells ⟨st, ev, starts, [], ends⟩ l) 25)) ((w.alloc (.cells (mcells ⟨st, ev, starts, [], ends⟩ l) 25)).alloc (.cells #[] 3)) := (Below.refl _ _).alloc (by simp) _
  have s0 := hs.below b0 (Nat.le_refl _)
  go_enter Tryd.func64, Tryd.ntmps64
  go_wp2_with (at_builtin; refine wpList_append_ints _ rfl _ _ 22 rfl (w.heap.size + 1) i0 Tryd.underlying22 hi hz0 hz1 hz2 _ [] rfl o0 sa sc ss rfl s0 hn.out (by simp only [List.length_nil]; omega) (by simp) ?_)
  intro v0 w0 o1 b1 z1
  have B1 : Hid (Below (w.heap.size + 1) (w.alloc (.cells (mcells ⟨st, ev, starts, [], ends⟩ l) 25)) w0) := bb0.trans b1
  have O1 : Hid (Own w0 (w.heap.size + 1) v0 ss) := o1
  clear o0 b0 bb0 s0 o1 b1
  obtain ⟨la, lc, rfl, hat, hln⟩ := O1.out.at
  have HAT := Hid.of hat
  clear hat
  obtain ⟨-, -, -, x3, -⟩ := box_cells B1.out
  dsimp only at x3
  have hold := Hid.of (below_box B1.out)
  have hsz := B1.out.size
  rw [World.size_alloc] at hsz
  go_wp2
  go_loop [7, 8] (fun v i => v = .slice la ss.length lc ∧ ∃ k : Nat, k ≤ ss.length ∧ i = .int .i64 k) (fun _ i => ss.length - (intOf i).toNat)
  case atStart => exact ⟨rfl, 0, Nat.zero_le _, rfl⟩
  case round =>
    obtain ⟨rfl, k, hk, rfl⟩ := hrel
    by_cases hks : k < ss.length
    · go_wp2
      refine wp_loop_rounds 1 ?_
      rw [rounds_succ]
      go_wp2
      go_round
      case rel => exact ⟨rfl, k + 1, by omega, by go_num⟩
      case measure => simp [intOf]; omega
    · go_wp2_with (go_at_call 90; refine (sorted_own la lc ss _ HAT.out (by omega)).mono ?_; rintro e w1 ⟨v4, rfl, h4, b4⟩; have H4 := Hid.of h4; have B4 := Hid.of b4; clear h4 b4)
      go_ret
      rw [wide_none]
      exact ⟨v4, rfl, H4.out.low (by omega), hold.out.trans (B4.out.mono (by omega))⟩

theorem refWide_any (m : Mach) (l : ML) (sa na : Option Addr) (sc nc : Nat) (ss seen : List Int) (w : World) (ha : AtA w l.a2 m.arrows) (hlen : m.arrows.length ≤ 4096) (hin : ∀ a ∈ m.arrows, 0 ≤ a.t ∧ a.t < (256 : Nat)) (hs : At w sa ss) (hsl : ss.length ≤ 4096) (hn : sa = none → sc = 0) (hq : At w na seen) (hql : seen.length ≤ maxLen) :
    Calls Tryd.prog 64 #[mval m l, .slice sa ss.length sc, .slice na seen.length nc] w fun e w' => GivesO w (wideL m.arrows seen ss) e w' := by
  obtain ⟨st, ev, starts, ars, ends⟩ := m
  obtain ⟨a1, c1, a2, c2, a3, c3⟩ := l
  rcases ha with h0 | ⟨b, off, h0, hb, hc⟩
  · have h0 : ars = [] := h0
    subst h0
    exact refWide_nil st ev starts ends _ sa na sc nc ss seen w hs hsl (Hid.of hn)
  · have h0 : a2 = some ⟨b, off, none⟩ := h0
    subst h0
    exact refWide_some st ev starts ars ends a1 c1 b off c2 a3 c3 sa na sc nc ss seen w hlen hb hc (Hid.of hin) hs hsl (Hid.of hn) (Hid.of hq) (Hid.of hql)

/-- Where a machine may be when an event was seen. -/
def seeingL (ars : List Arr) (seen ss : List Int) (e : Int) : List Int := wideL ars seen (stepL ars ss e)

set_option maxHeartbeats 1000000 in
theorem refSeeing_any (m : Mach) (l : ML) (sa na : Option Addr) (sc nc : Nat) (ss seen : List Int) (x : Int) (w : World) (ha : AtA w l.a2 m.arrows) (hlen : m.arrows.length ≤ 4096) (hin : ∀ a ∈ m.arrows, 0 ≤ a.t ∧ a.t < (256 : Nat)) (hs : At w sa ss) (hsl : ss.length ≤ maxLen) (hq : At w na seen) (hql : seen.length ≤ maxLen) :
    Calls Tryd.prog 65 #[mval m l, .slice sa ss.length sc, .slice na seen.length nc, .int .i64 x] w fun e w' => GivesO w (seeingL m.arrows seen ss x) e w' := by
  have B0 : Hid (Below w.heap.size w (w.alloc (.cells (mcells m l) 25))) := (Below.refl _ _).alloc (Nat.le_refl _) _
  have K0 : Hid (Blk (w.alloc (.cells (mcells m l) 25)) w.heap.size 25 (mcells m l)) := Blk.new w _ _
  have x0 := K0.out.cell 0 rfl
  have x1 := K0.out.cell 1 rfl
  have x2 := K0.out.cell 2 rfl
  have x3 := K0.out.cell 3 rfl
  have x4 := K0.out.cell 4 rfl
  go_enter Tryd.func65, Tryd.ntmps65
  go_wp2_with fail
  refine (refStep_own m l sa sc ss x _ (ha.below B0.out (Nat.le_refl _)) (by omega) (hs.below B0.out (Nat.le_refl _)) hsl).mono ?_
  rintro e w1 ⟨v1, rfl, o1, b1⟩
  have K1 := Hid.of (K0.out.below b1 K0.out.lt)
  have B1 : Hid (Below w.heap.size w w1) := B0.out.trans (b1.mono (by simp))
  obtain ⟨a2, c2, rfl, t1, t2, t3, t4⟩ := o1.at2
  have y0 := K1.out.cell 0 rfl
  have y1 := K1.out.cell 1 rfl
  have y2 := K1.out.cell 2 rfl
  have y3 := K1.out.cell 3 rfl
  have y4 := K1.out.cell 4 rfl
  have hl2 := stepL_len m.arrows ss x
  go_wp2_with fail
  refine (refWide_any m l a2 na c2 nc (stepL m.arrows ss x) seen _ (ha.below B1.out (Nat.le_refl _)) hlen hin t1 (by omega) t4 (hq.below B1.out (Nat.le_refl _)) hql).mono ?_
  rintro e w2 ⟨v2, rfl, o2, b2⟩
  have hz := B1.out.size
  go_wp2
  go_ret
  exact ⟨v2, rfl, o2.low (by omega), B1.out.trans (b2.mono (by omega))⟩

set_option maxHeartbeats 400000 in
theorem refSeen_any (wa na : Option Addr) (wc nc : Nat) (word seen : List Int) (w : World) (hw : At w wa word) (hl : word.length ≤ 17592186044416) (hq : At w na seen) (hql : seen.length ≤ maxLen) :
    Calls Tryd.prog 21 #[.slice wa word.length wc, .slice na seen.length nc] w fun e w' => Gives w (seenL seen word) e w' := by
  have K : Calls Tryd.prog 52 #[.slice wa word.length wc, .slice na seen.length nc, .bool true] w fun e w' => Gives w (seenL seen word) e w' := only_any wa na wc nc word seen true w hw hl hq hql
  go_enter Tryd.func21, Tryd.ntmps21
  go_wp2_with fail
  refine K.mono ?_
  rintro e w1 ⟨a4, c4, rfl, h4, l4, b4⟩
  go_wp2
  go_ret
  exact ⟨a4, c4, rfl, h4, l4, b4⟩

end Go.Proofs.YtgfpjfiikajadaaDoor
namespace Go.Proofs.YtgfpjfiikajadaaDoor
open Go.RowKit
set_option linter.unusedVariables false

theorem mayP_no1 {p : Plant} (h : mayB p.m = false) : mayP p = false := by unfold mayP; rw [h]; rfl
theorem mayP_no2 {p : Plant} (h : ¬ p.m.st ≤ 6) : mayP p = false := by unfold mayP; rw [decide_eq_false h]; simp
theorem mayP_no3 {p : Plant} (h : rowB p.m.ev p.seen = false) : mayP p = false := by unfold mayP; rw [h]; simp
theorem mayP_last {p : Plant} (h1 : mayB p.m = true) (h2 : p.m.st ≤ 6) (h3 : rowB p.m.ev p.seen = true) : mayP p = rowB p.m.st p.secret := by unfold mayP; rw [h1, h3, decide_eq_true h2]; simp

set_option maxRecDepth 100000 in
set_option maxHeartbeats 4000000 in
theorem rMayP_any (p : Plant) (P : PTL) (w : World) (h : Hid (PAt w p P)) :
    Calls Tryd.prog 36 #[ptval p P] w fun e w' => e = .returned (.bool (mayP p)) ∧ Below w.heap.size w w' := by
  have b0 : Below w.heap.size w ((w.alloc (.cells (ptcells p P) 50)).alloc (.cells (mcells p.m P.l) 25)) := ((Below.refl _ _).alloc (Nat.le_refl _) _).alloc (by simp) _
  have B := Hid.of b0
  have KP : Hid (Blk ((w.alloc (.cells (ptcells p P) 50)).alloc (.cells (mcells p.m P.l) 25)) w.heap.size 50 (ptcells p P)) := (Blk.new w _ _).alloc _
  have KM : Hid (Blk ((w.alloc (.cells (ptcells p P) 50)).alloc (.cells (mcells p.m P.l) 25)) (w.heap.size + 1) 25 (mcells p.m P.l)) := by
    have := Blk.new (w.alloc (.cells (ptcells p P) 50)) 25 (mcells p.m P.l)
    rwa [World.size_alloc] at this
  clear b0
  go_enter Tryd.func36, Tryd.ntmps36
  go_wp2_with fail
  revert B KP KM
  show Hid (Below w.heap.size w ((w.alloc (.cells #[.int .i64 p.m.st, .int .i64 p.m.ev, .slice P.l.a1 p.m.starts.length P.l.c1, .slice P.l.a2 p.m.arrows.length P.l.c2, .slice P.l.a3 p.m.ends.length P.l.c3, .slice P.sa p.seen.length P.sc, .slice P.ta p.secret.length P.tc] 50)).alloc (.cells #[.int .i64 p.m.st, .int .i64 p.m.ev, .slice P.l.a1 p.m.starts.length P.l.c1, .slice P.l.a2 p.m.arrows.length P.l.c2, .slice P.l.a3 p.m.ends.length P.l.c3] 25))) → _
  generalize (w.alloc (.cells #[.int .i64 p.m.st, .int .i64 p.m.ev, .slice P.l.a1 p.m.starts.length P.l.c1, .slice P.l.a2 p.m.arrows.length P.l.c2, .slice P.l.a3 p.m.ends.length P.l.c3, .slice P.sa p.seen.length P.sc, .slice P.ta p.secret.length P.tc] 50)).alloc (.cells #[.int .i64 p.m.st, .int .i64 p.m.ev, .slice P.l.a1 p.m.starts.length P.l.c1, .slice P.l.a2 p.m.arrows.length P.l.c2, .slice P.l.a3 p.m.ends.length P.l.c3] 25) = V0
  intro B KP KM
  refine (refMay_any p.m P.l V0 (h.out.m.below B.out (Nat.le_refl _))).mono ?_
  rintro e W1 ⟨rfl, hb⟩
  replace B := Hid.of (B.out.trans (hb.mono B.out.size))
  replace KP := Hid.of (KP.out.below hb KP.out.lt)
  replace KM := Hid.of (KM.out.below hb KM.out.lt)
  clear hb
  cases h1 : mayB p.m with
  | false =>
    have HF := Hid.of (mayP_no1 h1)
    clear h1
    go_wp2_with fail
    go_ret
    exact ⟨ret_bool HF.out.symm, B.out⟩
  | true =>
    have H1 := Hid.of h1
    clear h1
    by_cases h2 : p.m.st ≤ 6
    · have d2 : decide (p.m.st ≤ 6) = true := by simpa using h2
      obtain ⟨y0, y1, y2, y3, y4⟩ := mcell_at KM.out
      obtain ⟨x0, x1, x2, x3, x4, x5, x6⟩ := ptcell_at KP.out
      go_wp2_with fail
      refine (refIs_any P.sa P.sc p.seen p.m.ev W1 (h.out.s.at_.below B.out (Nat.le_refl _)) h.out.s.len).mono ?_
      rintro e W2 ⟨rfl, q, hq⟩
      have hb : Below W1.heap.size W1 W2 := by rw [hq]; exact below_drewN (Below.refl _ _) q
      replace B := Hid.of (B.out.trans (hb.mono B.out.size))
      replace KP := Hid.of (KP.out.below hb KP.out.lt)
      replace KM := Hid.of (KM.out.below hb KM.out.lt)
      clear hb hq y0 y1 y2 y3 y4 x0 x1 x2 x3 x4 x5 x6
      cases h3 : rowB p.m.ev p.seen with
      | false =>
        have HF := Hid.of (mayP_no3 h3)
        clear h3
        go_wp2_with fail
        go_ret
        exact ⟨ret_bool HF.out.symm, B.out⟩
      | true =>
        have HF := Hid.of (mayP_last H1.out h2 h3)
        clear h3
        obtain ⟨y0, y1, y2, y3, y4⟩ := mcell_at KM.out
        obtain ⟨x0, x1, x2, x3, x4, x5, x6⟩ := ptcell_at KP.out
        go_wp2_with fail
        refine (refIs_any P.ta P.tc p.secret p.m.st W2 (h.out.t.at_.below B.out (Nat.le_refl _)) h.out.t.len).mono ?_
        rintro e W3 ⟨rfl, q, hq⟩
        have hb : Below W2.heap.size W2 W3 := by rw [hq]; exact below_drewN (Below.refl _ _) q
        replace B := Hid.of (B.out.trans (hb.mono B.out.size))
        clear hb hq y0 y1 y2 y3 y4 x0 x1 x2 x3 x4 x5 x6
        obtain ⟨bb, HB⟩ : ∃ bb, Hid (bb = rowB p.m.st p.secret) := ⟨_, rfl⟩
        rw [← HB.out] at HF ⊢
        go_wp2_with fail
        go_ret
        exact ⟨ret_bool HF.out.symm, B.out⟩
    · have d2 : decide (p.m.st ≤ 6) = false := by simpa using h2
      have HF := Hid.of (mayP_no2 h2)
      obtain ⟨y0, y1, y2, y3, y4⟩ := mcell_at KM.out
      go_wp2_with fail
      go_ret
      exact ⟨ret_bool HF.out.symm, B.out⟩

theorem leakB_nil (secret : List Int) : leakB secret [] = false := by simp [leakB]
set_option maxRecDepth 100000 in
set_option maxHeartbeats 2000000 in
theorem rTells_any (a b : Option Addr) (ca cb : Nat) (row secret : List Int) (w : World) (h : At w a row) (hl : row.length ≤ 17592186044416) (h' : At w b secret) (hl' : secret.length ≤ maxLen) :
    Calls Tryd.prog 112 #[.slice a row.length ca, .slice b secret.length cb] w fun e w' => e = .returned (.bool (leakB secret row)) ∧ Below w.heap.size w w' := by
  have KEY := Hid.of (only_any a b ca cb row secret false w h hl h' hl')
  obtain ⟨op, HO⟩ : ∃ op, Hid (op = row.filter fun n => hasB secret n == false) := ⟨_, rfl⟩
  rw [← HO.out] at KEY
  have HLK : Hid (leakB secret row = (decide (0 < row.length) && decide (op.length = 0))) := by show _ = _; unfold leakB; rw [HO.out]
  clear h h' HO
  go_enter Tryd.func112, Tryd.ntmps112
  go_wp2_with fail
  refine KEY.out.mono ?_
  rintro e W1 ⟨va, vc, rfl, -, -, hb⟩
  have B := Hid.of hb
  clear hb
  by_cases h0 : 0 < row.length
  · have d0 : decide ((0 : Int) < (row.length : Int)) = true := decide_eq_true (by omega)
    by_cases h1 : op.length = 0
    · have d1 : ((op.length : Int) == 0) = true := by rw [h1]; rfl
      have HF : Hid (leakB secret row = true) := by show _ = _; rw [HLK.out, decide_eq_true h0, decide_eq_true h1]; rfl
      go_wp2_with fail
      all_goals
        go_ret
        exact ⟨ret_bool HF.out.symm, B.out⟩
    · have d1 : ((op.length : Int) == 0) = false := by rw [beq_eq_false_iff_ne]; omega
      have HF : Hid (leakB secret row = false) := by show _ = _; rw [HLK.out, decide_eq_false h1, Bool.and_false]
      go_wp2_with fail
      all_goals
        go_ret
        exact ⟨ret_bool HF.out.symm, B.out⟩
  · have d0 : decide ((0 : Int) < (row.length : Int)) = false := decide_eq_false (by omega)
    have HF : Hid (leakB secret row = false) := by show _ = _; rw [HLK.out, decide_eq_false h0, Bool.false_and]
    go_wp2_with fail
    all_goals
      go_ret
      exact ⟨ret_bool HF.out.symm, B.out⟩

end Go.Proofs.YtgfpjfiikajadaaDoor
