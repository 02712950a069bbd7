/-
  hide.Hide, whatever comes in.
  What is hidden of a small machine fits; hide.Hide, where nothing is wrong.
  The walk of jalousieref5.Wide: states, and where unseen events lead to from them.
  jalousieref5.Wide, Seeing and Seen, whatever comes in that may be.
  Plain: the places where two machines may be at once, and the least word that one accepts and the other one doesn't. No program, no model.
  Plain: a plant, and what may be known of where it is. No program, no model.
  Plain: the estimates of a plant, by the machine of what is seen of it and its sets; the search for the least list that leaks. No program, no model.
-/
import Derived.Test.YtmlkpdeidpcidaaDoorFHHide
import Derived.Test.YtmlkpdeidpcidaaDoorJ23
import Derived.Deep.QuietTactic
import Derived.Deep.RegionWith
import Derived.Deep.RegionHeld3
import Derived.BigQuiet
import Derived.Test.YtmlkpdeidpcidaaDoorJ20
import Derived.Test.YtmlkpdeidpcidaaDoorJ05
import Derived.Test.YtmlkpdeidpcidaaDoorJ14
import Derived.Test.YtmlkpdeidpcidaaDoorJ04
import Derived.Test.YtmlkpdeidpcidaaDoorJ03
import Derived.Test.YtmlkpdeidpcidaaDoorJ15
namespace Go.Proofs.YtmlkpdeidpcidaaDoor
open Go.RowKit
set_option linter.unusedVariables false

theorem pHide_any (m : Mach) (l : ML) (sa : Option Addr) (sc : Nat) (seen : List Int) (w : World) (h : MAt w m l) (hs : At w sa seen) (hsl : seen.length ≤ maxLen) (hT : Tab w) :
    Calls Tryd.prog 25 #[mval m l, .slice sa seen.length sc] w fun e w' => HidePost w m seen e w' := by
  by_cases hbad : mayB m = false ∨ rowB m.ev seen = false
  · refine (hide_err m l sa sc seen w (Hid.of h) (Hid.of hs) (Hid.of hsl) (Hid.of hbad)).mono fun e w' h => ?_
    unfold HidePost; rw [if_pos hbad]; exact h
  · have hm : mayB m = true := by cases e : mayB m with
      | true => rfl
      | false => exact absurd (.inl e) hbad
    have hr : rowB m.ev seen = true := by cases e : rowB m.ev seen with
      | true => rfl
      | false => exact absurd (.inr e) hbad
    obtain ⟨mst, ev, starts, ars, ends⟩ := m
    obtain ⟨a1, c1, a2, c2, a3, c3⟩ := l
    obtain ⟨st, rfl⟩ : ∃ st : Nat, mst = (st : Int) := by
      have := mayB_size hm
      unfold sizeOk at this
      exact ⟨mst.toNat, by dsimp only at this; omega⟩
    refine (hide_ok st ev starts ars ends a1 c1 a2 c2 a3 c3 sa sc seen w (Hid.of h) (Hid.of hs) (Hid.of hsl) (Hid.of hm) (Hid.of hr) (Hid.of hT)).mono fun e w' h => ?_
    unfold HidePost; rw [if_neg hbad]; exact h

end Go.Proofs.YtmlkpdeidpcidaaDoor
namespace Go.Proofs.YtmlkpdeidpcidaaDoor
open Go.RowKit
set_option linter.unusedVariables false

theorem wide_small {m : Mach} (hm : mayB m = true) (z : m.st ≤ 6) {seen ss : List Int} (hs : ∀ x ∈ ss, 0 ≤ x ∧ x < m.st) : (wideL m.arrows seen ss).length ≤ 6 := by
  refine nodup_len 6 _ (inc_nodup (inc_wide _ _ _)) (fun x hx => ?_)
  have := wide_bd hm hs x hx
  omega
theorem hFrom_small {m : Mach} (hm : mayB m = true) (z : m.st ≤ 6) (seen : List Int) (f : Nat) : ∀ k, (hFrom m seen f k).length ≤ k * 6
  | 0 => by simp [hFrom]
  | k + 1 => by
    have h1 := hFrom_small hm z seen f k
    have h2 : (hRow m seen f k).length ≤ 6 := by unfold hRow; rw [List.length_map]; exact wide_small hm z (step_bd hm)
    rw [hFrom_succ, List.length_append]; omega
theorem hAll_small {m : Mach} (hm : mayB m = true) (z : m.st ≤ 6) (seen : List Int) (h8 : seen.length ≤ 8) : ∀ f, (hAll m seen f).length ≤ f * 48
  | 0 => by simp [hAll]
  | f + 1 => by
    have h1 := hAll_small hm z seen h8 f
    have h2 := hFrom_small hm z seen f seen.length
    rw [hAll_succ, List.length_append]; omega
theorem hide_small {m : Mach} (hm : mayB m = true) (z : m.st ≤ 6) {seen : List Int} (hr : rowB m.ev seen = true) : (hAll m seen m.st.toNat).length ≤ 4096 := by
  have hz := mayB_size hm
  unfold sizeOk at hz
  have h8 := row_short (by omega) (by omega) hr
  have := hAll_small hm z seen (by omega) m.st.toNat
  omega
/-- Hide, where nothing is wrong. -/
theorem hide_okp (m : Mach) (l : ML) (sa : Option Addr) (sc : Nat) (seen : List Int) (w : World) (h : MAt w m l) (hs : At w sa seen) (hsl : seen.length ≤ maxLen) (hT : Tab w) (hm : mayB m = true) (hr : rowB m.ev seen = true) (ha : (hAll m seen m.st.toNat).length ≤ 4096) :
    Calls Tryd.prog 25 #[mval m l, .slice sa seen.length sc] w fun e w' => ∃ L, e = .returned (.tuple #[mval (hideM m seen) L, .int .i64 0]) ∧ MAt w' (hideM m seen) L ∧ Below w.heap.size w w' := by
  refine (pHide_any m l sa sc seen w h hs hsl hT).mono ?_
  intro e w' hp
  unfold HidePost at hp
  rw [if_neg (by rw [hm, hr]; simp), if_pos ha] at hp
  exact hp

end Go.Proofs.YtmlkpdeidpcidaaDoor
namespace Go.Proofs.YtmlkpdeidpcidaaDoor
open Go.RowKit
set_option linter.unusedVariables false

set_option maxHeartbeats 4000000 in
set_option maxRecDepth 100000 in
theorem refWide_some (st ev : Int) (starts : List Int) (ars : List Arr) (ends : List Int) (a1 : Option Addr) (c1 b off c2 : Nat) (a3 : Option Addr) (c3 : Nat) (sa na : Option Addr) (sc nc : Nat) (ss seen : List Int) (w : World) (hlen : ars.length ≤ 4096) (hb : b < w.heap.size) (hca : CellsA w b off ars) (hin : Hid (∀ a ∈ ars, 0 ≤ a.t ∧ a.t < (256 : Nat))) (hs : At w sa ss) (hsl : ss.length ≤ 4096) (hn : Hid (sa = none → sc = 0)) (hq : Hid (At w na seen)) (hql : Hid (seen.length ≤ maxLen)) :
    Calls Tryd.prog 73 #[mval ⟨st, ev, starts, ars, ends⟩ ⟨a1, c1, some ⟨b, off, none⟩, c2, a3, c3⟩, .slice sa ss.length sc, .slice na seen.length nc] w fun e w' => GivesO w (wideL ars seen ss) e w' := by
  obtain ⟨i0, hi, hz0, hz1, hz2⟩ := info_parts Tryd.infoInt
  have o0 : Own ((w.alloc (.cells (mcells ⟨st, ev, starts, ars, ends⟩ ⟨a1, c1, some ⟨b, off, none⟩, c2, a3, c3⟩) 25)).alloc (.cells #[] 3)) (w.heap.size + 1) (.slice (some ⟨w.heap.size + 1, 0, none⟩) 0 0) [] := by
    have := own_empty (w.alloc (.cells (mcells ⟨st, ev, starts, ars, ends⟩ ⟨a1, c1, some ⟨b, off, none⟩, c2, a3, c3⟩) 25))
    rwa [World.size_alloc] at this
  have b0 : Below w.heap.size w ((w.alloc (.cells (mcells ⟨st, ev, starts, ars, ends⟩ ⟨a1, c1, some ⟨b, off, none⟩, c2, a3, c3⟩) 25)).alloc (.cells #[] 3)) := ((Below.refl _ _).alloc (Nat.le_refl _) _).alloc (by simp) _
  have bb0 : Below (w.heap.size + 1) (w.alloc (.cells (mcells ⟨st, ev, starts, ars, ends⟩ ⟨a1, c1, some ⟨b, off, none⟩, c2, a3, c3⟩) 25)) ((w.alloc (.cells (mcells ⟨st, ev, starts, ars, ends⟩ ⟨a1, c1, some ⟨b, off, none⟩, c2, a3, c3⟩) 25)).alloc (.cells #[] 3)) := (Below.refl _ _).alloc (by simp) _
  have s0 := hs.below b0 (Nat.le_refl _)
  go_enter Tryd.func73, Tryd.ntmps73
  go_wp2_with (at_builtin; refine wpList_append_ints _ rfl _ _ 22 rfl (w.heap.size + 1) i0 Tryd.underlying22 hi hz0 hz1 hz2 _ [] rfl o0 sa sc ss rfl s0 hn.out (by simp only [List.length_nil]; omega) (by simp) ?_)
  intro v0 w0 o1 b1 z1
  have B1 : Hid (Below (w.heap.size + 1) (w.alloc (.cells (mcells ⟨st, ev, starts, ars, ends⟩ ⟨a1, c1, some ⟨b, off, none⟩, c2, a3, c3⟩) 25)) w0) := bb0.trans b1
  have O1 : Hid (Own w0 (w.heap.size + 1) v0 ss) := o1
  clear o0 b0 bb0 s0 o1 b1
  go_wp2
  go_loopw [7, 8] (fun v i wr => ∃ (k : Nat) (L : List Int), k ≤ L.length ∧ i = .int .i64 k ∧ Hid (Own wr (w.heap.size + 1) v L) ∧ Hid (Below (w.heap.size + 1) (w.alloc (.cells (mcells ⟨st, ev, starts, ars, ends⟩ ⟨a1, c1, some ⟨b, off, none⟩, c2, a3, c3⟩) 25)) wr) ∧ Hid (wGo ars seen (ss.length + 256) 0 ss = wGo ars seen (ss.length + 256 - k) k L) ∧ Hid (WB ss L)) (fun _ i _ => ss.length + 256 - (intOf i).toNat)
  case atStart => exact ⟨0, ss, by omega, rfl, O1, B1, rfl, WB.refl _⟩
  case round =>
    clear O1 B1
    obtain ⟨k, L, hk, rfl, hown, hbel, hc, hwb⟩ := hrel
    have hold := Hid.of (below_box hbel.out)
    have hsz := hbel.out.size
    rw [World.size_alloc] at hsz
    have hbx : w.heap.size < wr.heap.size := by omega
    obtain ⟨-, -, -, x3, -⟩ := box_cells hbel.out
    dsimp only at x3
    have hll := hwb.out.len
    obtain ⟨la, lc, rfl, hat, hln⟩ := hown.out.at
    by_cases hks : k < L.length
    · go_wp2
      obtain ⟨x, HX⟩ : ∃ x, Hid (x = L[k]?.getD 0) := ⟨_, rfl⟩
      go_loopw [7, 9] (fun v i wr' => ∃ (j : Nat), j ≤ ars.length ∧ i = .int .i64 j ∧ Hid (Own wr' (w.heap.size + 1) v (wRow (ars.take j) seen x L)) ∧ Hid (Below (w.heap.size + 1) (w.alloc (.cells (mcells ⟨st, ev, starts, ars, ends⟩ ⟨a1, c1, some ⟨b, off, none⟩, c2, a3, c3⟩) 25)) wr') ∧ Hid (WB ss (wRow (ars.take j) seen x L))) (fun _ i _ => ars.length - (intOf i).toNat)
      case atStart => exact ⟨0, Nat.zero_le _, rfl, hown, hbel, hwb⟩
      case round =>
        clear hown hbel hold hat x3 hsz hbx hln hwb
        obtain ⟨j, hj, rfl, hown, hbel, hwb⟩ := hrel
        have hold := Hid.of (below_box hbel.out)
        have hsz := hbel.out.size
        rw [World.size_alloc] at hsz
        have hbx : w.heap.size < wr.heap.size := by omega
        obtain ⟨-, -, -, x3, -⟩ := box_cells hbel.out
        dsimp only at x3
        by_cases hlt : j < ars.length
        · obtain ⟨a, HA, y0, y1, y2⟩ := hca.at hlt
          have y0' := (hold.out.cell (p := ⟨b, off + j * 3, none⟩) hb).trans y0
          have y1' := (hold.out.cell (p := ⟨b, off + j * 3 + 1, none⟩) hb).trans y1
          have y2' := (hold.out.cell (p := ⟨b, off + j * 3 + 2, none⟩) hb).trans y2
          clear y0 y1 y2
          have HN := Hid.of (wRow_take (seen := seen) (x := x) (l := L) hlt HA)
          have HK := Hid.of (wRow_nth (ars := ars.take j) (seen := seen) (x := x) hks)
          obtain ⟨T, hT⟩ : ∃ T, T = wRow (ars.take j) seen x L := ⟨_, rfl⟩
          rw [← hT] at hown hwb HN HK
          clear hT
          have hlT := hwb.out.len
          have hkT := HK.out.1
          have hmem : a ∈ ars := by have := HA.out; rw [List.getElem?_eq_getElem hlt, Option.getD_some] at this; rw [this]; exact List.getElem_mem _
          have hta := Hid.of (hin.out a hmem)
          have HW : Hid (WB ss (wAdd seen x T a)) := hwb.out.add hta.out
          clear hmem
          obtain ⟨la', lc', rfl, hat, hln⟩ := hown.out.at
          rcases hat with h0 | ⟨lb, lo, rfl, hlb, hcl⟩
          · exact absurd (by rw [h0]; rfl) (show ¬ T.length = 0 by omega)
          obtain ⟨x', HX', hcx⟩ := hcl.at hkT
          have hxx : Hid (x' = x) := by show _ = _; rw [HX'.out, HK.out.2, ← HX.out]
          have OV : Hid (Own (wr.alloc (Obj.cells #[.int .i64 a.f, .int .i64 a.e, .int .i64 a.t] 81)) (w.heap.size + 1) (.slice (some ⟨lb, lo, none⟩) T.length lc') T) := World.ownsRow.alloc hown.out _
          have BV : Hid (Below (w.heap.size + 1) (w.alloc (.cells (mcells ⟨st, ev, starts, ars, ends⟩ ⟨a1, c1, some ⟨b, off, none⟩, c2, a3, c3⟩) 25)) (wr.alloc (Obj.cells #[.int .i64 a.f, .int .i64 a.e, .int .i64 a.t] 81))) := hbel.out.alloc (by omega) _
          have B9 : Below w.heap.size w (wr.alloc (Obj.cells #[.int .i64 a.f, .int .i64 a.e, .int .i64 a.t] 81)) := hold.out.alloc (by omega) _
          have KV : Hid (Blk (wr.alloc (Obj.cells #[.int .i64 a.f, .int .i64 a.e, .int .i64 a.t] 81)) wr.heap.size 81 #[.int .i64 a.f, .int .i64 a.e, .int .i64 a.t]) := Blk.new wr _ _
          have cV : (wr.alloc (Obj.cells #[.int .i64 a.f, .int .i64 a.e, .int .i64 a.t] 81)).cell? ⟨lb, lo + k, none⟩ = some (.int .i64 x') := (((Below.refl wr.heap.size wr).alloc (Nat.le_refl _) _).cell (p := ⟨lb, lo + k, none⟩) hlb).trans hcx
          have qV : Hid (At (wr.alloc (Obj.cells #[.int .i64 a.f, .int .i64 a.e, .int .i64 a.t] 81)) na seen) := hq.out.below B9 (Nat.le_refl _)
          have f0 := KV.out.cell 0 rfl
          have f1 := KV.out.cell 1 rfl
          have f2 := KV.out.cell 2 rfl
          go_wp2_with fail
          clear B9 hcx hlb hcl y0' y1' y2' x3 hown hbel hold hsz
          have hVs : Hid (wr.heap.size < (wr.alloc (Obj.cells #[.int .i64 a.f, .int .i64 a.e, .int .i64 a.t] 81)).heap.size) := by show _ < _; rw [World.size_alloc]; omega
          revert OV BV KV cV qV f0 f1 f2 hVs
          generalize wr.alloc (Obj.cells #[.int .i64 a.f, .int .i64 a.e, .int .i64 a.t] 81) = V
          generalize wr.heap.size = N at *
          intro OV BV KV cV qV f0 f1 f2 hVs
          obtain ⟨la2, lc2, e2, aT, lT⟩ := OV.out.at
          cases e2
          have KEY1 : Hid (∀ n, Calls Tryd.prog 119 #[.slice na seen.length nc, .int .i64 a.e] (V.drewN n) fun e w' => e = .returned (.bool (hasB seen a.e)) ∧ w' = V.drewN n) := fun n => refHas_any na nc seen a.e _ (At.drewN qV.out n) hql.out
          have KEY2 : Hid (∀ n, Calls Tryd.prog 119 #[.slice (some ⟨lb, lo, none⟩) T.length lc', .int .i64 a.t] (V.drewN n) fun e w' => e = .returned (.bool (hasB T a.t)) ∧ w' = V.drewN n) := fun n => refHas_any _ lc' T a.t _ (At.drewN aT n) lT
          clear aT lT qV KV
          by_cases d1 : a.f = x'
          · have g1 : (a.f == x') = true := by simp [d1]
            have D1 : Hid (a.f = x) := by show _ = _; rw [d1, hxx.out]
            clear d1
            by_cases d2 : hasB seen a.e = true
            · rw [d2] at KEY1
              have HR : Hid (wAdd seen x T a = T) := by show _ = _; unfold wAdd; rw [if_neg (by rw [d2]; simp)]
              clear d2
              go_quiet (first | (go_at_call_of 119 (Value.slice na seen.length nc); exact Calls.quiet_of_same (KEY1.out _)) | (go_at_call_of 119 (Value.slice (some ⟨lb, lo, none⟩) T.length lc'); exact Calls.quiet_of_same (KEY2.out _)))
              obtain ⟨V2, HV2⟩ : ∃ V2, Hid (V2 = V.drewN nq) := ⟨_, rfl⟩
              have OV2 : Hid (Own V2 (w.heap.size + 1) (.slice (some ⟨lb, lo, none⟩) T.length lc') T) := by show Own _ _ _ _; rw [HV2.out]; exact OV.out
              have BV2 : Hid (Below (w.heap.size + 1) (w.alloc (.cells (mcells ⟨st, ev, starts, ars, ends⟩ ⟨a1, c1, some ⟨b, off, none⟩, c2, a3, c3⟩) 25)) V2) := by show Below _ _ _; rw [HV2.out]; exact below_drewN BV.out nq
              rw [← HV2.out]
              clear OV BV KEY1 KEY2 cV f0 f1 f2
              go_wp2
              go_roundw
              case rel => exact ⟨j + 1, by omega, by go_num, by rw [HN.out, HR.out]; exact OV2, BV2, by rw [HN.out]; exact HW⟩
              case measure => simp [intOf]; omega
            · have d2 : hasB seen a.e = false := by simpa using d2
              rw [d2] at KEY1
              by_cases d3 : hasB T a.t = true
              · rw [d3] at KEY2
                have HR : Hid (wAdd seen x T a = T) := by show _ = _; unfold wAdd; rw [if_neg (by rw [d3]; simp)]
                clear d2 d3
                go_quiet (first | (go_at_call_of 119 (Value.slice na seen.length nc); exact Calls.quiet_of_same (KEY1.out _)) | (go_at_call_of 119 (Value.slice (some ⟨lb, lo, none⟩) T.length lc'); exact Calls.quiet_of_same (KEY2.out _)))
                obtain ⟨V2, HV2⟩ : ∃ V2, Hid (V2 = V.drewN nq) := ⟨_, rfl⟩
                have OV2 : Hid (Own V2 (w.heap.size + 1) (.slice (some ⟨lb, lo, none⟩) T.length lc') T) := by show Own _ _ _ _; rw [HV2.out]; exact OV.out
                have BV2 : Hid (Below (w.heap.size + 1) (w.alloc (.cells (mcells ⟨st, ev, starts, ars, ends⟩ ⟨a1, c1, some ⟨b, off, none⟩, c2, a3, c3⟩) 25)) V2) := by show Below _ _ _; rw [HV2.out]; exact below_drewN BV.out nq
                rw [← HV2.out]
                clear OV BV KEY1 KEY2 cV f0 f1 f2
                go_wp2
                go_roundw
                case rel => exact ⟨j + 1, by omega, by go_num, by rw [HN.out, HR.out]; exact OV2, BV2, by rw [HN.out]; exact HW⟩
                case measure => simp [intOf]; omega
              · have d3 : hasB T a.t = false := by simpa using d3
                rw [d3] at KEY2
                have HR : Hid (wAdd seen x T a = T ++ [a.t]) := by show _ = _; unfold wAdd; rw [if_pos (by rw [D1.out, d2, d3]; simp)]
                clear d2 d3
                go_quiet (first | (go_at_call_of 119 (Value.slice na seen.length nc); exact Calls.quiet_of_same (KEY1.out _)) | (go_at_call_of 119 (Value.slice (some ⟨lb, lo, none⟩) T.length lc'); exact Calls.quiet_of_same (KEY2.out _)))
                obtain ⟨V2, HV2⟩ : ∃ V2, Hid (V2 = V.drewN nq) := ⟨_, rfl⟩
                have OV2 : Hid (Own V2 (w.heap.size + 1) (.slice (some ⟨lb, lo, none⟩) T.length lc') T) := by show Own _ _ _ _; rw [HV2.out]; exact OV.out
                have BV2 : Hid (Below (w.heap.size + 1) (w.alloc (.cells (mcells ⟨st, ev, starts, ars, ends⟩ ⟨a1, c1, some ⟨b, off, none⟩, c2, a3, c3⟩) 25)) V2) := by show Below _ _ _; rw [HV2.out]; exact below_drewN BV.out nq
                have f2' : V2.cell? ⟨N, 2, none⟩ = some (.int .i64 a.t) := by rw [HV2.out]; exact f2
                have hVs2 := BV2.out.size
                rw [World.size_alloc] at hVs2
                rw [← HV2.out]
                clear OV BV KEY1 KEY2 cV f0 f1 f2
                go_wp2_with (at_builtin; refine wpList_append_own _ rfl _ _ 22 rfl (w.heap.size + 1) 3 i0 (.int .i64 0) 1 8 Tryd.underlying22 hi hz0 hz1 hz2 rfl (by decide) _ _ _ rfl (World.ownsRow.alloc OV2.out _) ⟨V2.heap.size, 0, none⟩ 1 1 [.int .i64 a.t] rfl rfl (cell_one_new _ _ _) (by intro u hu; simp at hu; subst hu; rfl) (by unfold maxLen; omega) (by omega) (by simp; omega) ?_)
                intro v' w2 hown' hgrow _
                obtain ⟨r1, r2, -⟩ := own_snoc OV2.out BV2.out (by omega) hown' hgrow
                have R1 := Hid.of r1
                have R2 := Hid.of r2
                clear hown' hgrow r1 r2
                go_wp2
                go_roundw
                case rel => exact ⟨j + 1, by omega, by go_num, by rw [HN.out, HR.out]; exact R1, R2, by rw [HN.out]; exact HW⟩
                case measure => simp [intOf]; omega
          · have g1 : (a.f == x') = false := by simp [d1]
            have HR : Hid (wAdd seen x T a = T) := by show _ = _; unfold wAdd; rw [if_neg (by rw [← hxx.out]; simp [d1])]
            clear d1
            go_quiet (first | (go_at_call_of 119 (Value.slice na seen.length nc); exact Calls.quiet_of_same (KEY1.out _)) | (go_at_call_of 119 (Value.slice (some ⟨lb, lo, none⟩) T.length lc'); exact Calls.quiet_of_same (KEY2.out _)))
            obtain ⟨V2, HV2⟩ : ∃ V2, Hid (V2 = V.drewN nq) := ⟨_, rfl⟩
            have OV2 : Hid (Own V2 (w.heap.size + 1) (.slice (some ⟨lb, lo, none⟩) T.length lc') T) := by show Own _ _ _ _; rw [HV2.out]; exact OV.out
            have BV2 : Hid (Below (w.heap.size + 1) (w.alloc (.cells (mcells ⟨st, ev, starts, ars, ends⟩ ⟨a1, c1, some ⟨b, off, none⟩, c2, a3, c3⟩) 25)) V2) := by show Below _ _ _; rw [HV2.out]; exact below_drewN BV.out nq
            rw [← HV2.out]
            clear OV BV KEY1 KEY2 cV f0 f1 f2
            go_wp2
            go_roundw
            case rel => exact ⟨j + 1, by omega, by go_num, by rw [HN.out, HR.out]; exact OV2, BV2, by rw [HN.out]; exact HW⟩
            case measure => simp [intOf]; omega
        · have htk : ars.take j = ars := List.take_of_length_le (by omega)
          rw [htk] at hown hwb
          clear htk
          obtain ⟨T, hT⟩ : ∃ T, T = wRow ars seen x L := ⟨_, rfl⟩
          have HT := Hid.of hT
          have HK := Hid.of (wRow_nth (ars := ars) (seen := seen) (x := x) hks)
          rw [← hT] at hown hwb HK
          clear hT
          have HC : Hid (wGo ars seen (ss.length + 256) 0 ss = wGo ars seen (ss.length + 256 - (k + 1)) (k + 1) T) := by
            show _ = _
            rw [hc.out, wGo_next hks (by omega), ← HX.out, ← HT.out, Nat.sub_sub]
          have hkT := HK.out.1
          go_wp2
          exact ⟨⟨k + 1, T, by omega, by go_num, hown, hbel, HC, hwb⟩, by simp [intOf]; omega⟩
    · have HC : Hid (wGo ars seen (ss.length + 256) 0 ss = L) := by
        show _ = _
        rw [hc.out, wGo_end hks]
      have HAT := Hid.of hat
      clear hat
      go_wp2_with (go_at_call 120; refine (sorted_own la lc L _ HAT.out (by omega)).mono ?_; rintro e w1 ⟨v4, rfl, h4, b4⟩; have H4 := Hid.of h4; have B4 := Hid.of b4; clear h4 b4)
      go_ret
      exact ⟨v4, rfl, by unfold wideL; rw [HC.out]; exact H4.out.low (by omega), hold.out.trans (B4.out.mono (by omega))⟩

end Go.Proofs.YtmlkpdeidpcidaaDoor
namespace Go.Proofs.YtmlkpdeidpcidaaDoor
open Go.RowKit
set_option linter.unusedVariables false

set_option maxHeartbeats 2000000 in
set_option maxRecDepth 100000 in
theorem refWide_nil (st ev : Int) (starts : List Int) (ends : List Int) (l : ML) (sa na : Option Addr) (sc nc : Nat) (ss seen : List Int) (w : World) (hs : At w sa ss) (hsl : ss.length ≤ 4096) (hn : Hid (sa = none → sc = 0)) :
    Calls Tryd.prog 73 #[mval ⟨st, ev, starts, [], ends⟩ l, .slice sa ss.length sc, .slice na seen.length nc] w fun e w' => GivesO w (wideL [] seen ss) e w' := by
  obtain ⟨i0, hi, hz0, hz1, hz2⟩ := info_parts Tryd.infoInt
  have o0 : Own ((w.alloc (.cells (mcells ⟨st, ev, starts, [], ends⟩ l) 25)).alloc (.cells #[] 3)) (w.heap.size + 1) (.slice (some ⟨w.heap.size + 1, 0, none⟩) 0 0) [] := by
    have := own_empty (w.alloc (.cells (mcells ⟨st, ev, starts, [], ends⟩ l) 25))
    rwa [World.size_alloc] at this
  have b0 : Below w.heap.size w ((w.alloc (.cells (mcells ⟨st, ev, starts, [], ends⟩ l) 25)).alloc (.cells #[] 3)) := ((Below.refl _ _).alloc (Nat.le_refl _) _).alloc (by simp) _
  have bb0 : Below (w.heap.size + 1) (w.alloc (.cells (mcells ⟨st, ev, starts, [], ends⟩ l) 25)) ((w.alloc (.cells (mcells ⟨st, ev, starts, [], ends⟩ l) 25)).alloc (.cells #[] 3)) := (Below.refl _ _).alloc (by simp) _
  have s0 := hs.below b0 (Nat.le_refl _)
  go_enter Tryd.func73, Tryd.ntmps73
  go_wp2_with (at_builtin; refine wpList_append_ints _ rfl _ _ 22 rfl (w.heap.size + 1) i0 Tryd.underlying22 hi hz0 hz1 hz2 _ [] rfl o0 sa sc ss rfl s0 hn.out (by simp only [List.length_nil]; omega) (by simp) ?_)
  intro v0 w0 o1 b1 z1
  have B1 : Hid (Below (w.heap.size + 1) (w.alloc (.cells (mcells ⟨st, ev, starts, [], ends⟩ l) 25)) w0) := bb0.trans b1
  have O1 : Hid (Own w0 (w.heap.size + 1) v0 ss) := o1
  clear o0 b0 bb0 s0 o1 b1
  obtain ⟨la, lc, rfl, hat, hln⟩ := O1.out.at
  have HAT := Hid.of hat
  clear hat
  obtain ⟨-, -, -, x3, -⟩ := box_cells B1.out
  dsimp only at x3
  have hold := Hid.of (below_box B1.out)
  have hsz := B1.out.size
  rw [World.size_alloc] at hsz
  go_wp2
  go_loop [7, 8] (fun v i => v = .slice la ss.length lc ∧ ∃ k : Nat, k ≤ ss.length ∧ i = .int .i64 k) (fun _ i => ss.length - (intOf i).toNat)
  case atStart => exact ⟨rfl, 0, Nat.zero_le _, rfl⟩
  case round =>
    obtain ⟨rfl, k, hk, rfl⟩ := hrel
    by_cases hks : k < ss.length
    · go_wp2
      refine wp_loop_rounds 1 ?_
      rw [rounds_succ]
      go_wp2
      go_round
      case rel => exact ⟨rfl, k + 1, by omega, by go_num⟩
      case measure => simp [intOf]; omega
    · go_wp2_with (go_at_call 120; refine (sorted_own la lc ss _ HAT.out (by omega)).mono ?_; rintro e w1 ⟨v4, rfl, h4, b4⟩; have H4 := Hid.of h4; have B4 := Hid.of b4; clear h4 b4)
      go_ret
      rw [wide_none]
      exact ⟨v4, rfl, H4.out.low (by omega), hold.out.trans (B4.out.mono (by omega))⟩

theorem refWide_any (m : Mach) (l : ML) (sa na : Option Addr) (sc nc : Nat) (ss seen : List Int) (w : World) (ha : AtA w l.a2 m.arrows) (hlen : m.arrows.length ≤ 4096) (hin : ∀ a ∈ m.arrows, 0 ≤ a.t ∧ a.t < (256 : Nat)) (hs : At w sa ss) (hsl : ss.length ≤ 4096) (hn : sa = none → sc = 0) (hq : At w na seen) (hql : seen.length ≤ maxLen) :
    Calls Tryd.prog 73 #[mval m l, .slice sa ss.length sc, .slice na seen.length nc] w fun e w' => GivesO w (wideL m.arrows seen ss) e w' := by
  obtain ⟨st, ev, starts, ars, ends⟩ := m
  obtain ⟨a1, c1, a2, c2, a3, c3⟩ := l
  rcases ha with h0 | ⟨b, off, h0, hb, hc⟩
  · have h0 : ars = [] := h0
    subst h0
    exact refWide_nil st ev starts ends _ sa na sc nc ss seen w hs hsl (Hid.of hn)
  · have h0 : a2 = some ⟨b, off, none⟩ := h0
    subst h0
    exact refWide_some st ev starts ars ends a1 c1 b off c2 a3 c3 sa na sc nc ss seen w hlen hb hc (Hid.of hin) hs hsl (Hid.of hn) (Hid.of hq) (Hid.of hql)

/-- Where a machine may be when an event was seen. -/
def seeingL (ars : List Arr) (seen ss : List Int) (e : Int) : List Int := wideL ars seen (stepL ars ss e)

set_option maxHeartbeats 1000000 in
theorem refSeeing_any (m : Mach) (l : ML) (sa na : Option Addr) (sc nc : Nat) (ss seen : List Int) (x : Int) (w : World) (ha : AtA w l.a2 m.arrows) (hlen : m.arrows.length ≤ 4096) (hin : ∀ a ∈ m.arrows, 0 ≤ a.t ∧ a.t < (256 : Nat)) (hs : At w sa ss) (hsl : ss.length ≤ maxLen) (hq : At w na seen) (hql : seen.length ≤ maxLen) :
    Calls Tryd.prog 74 #[mval m l, .slice sa ss.length sc, .slice na seen.length nc, .int .i64 x] w fun e w' => GivesO w (seeingL m.arrows seen ss x) e w' := by
  have B0 : Hid (Below w.heap.size w (w.alloc (.cells (mcells m l) 25))) := (Below.refl _ _).alloc (Nat.le_refl _) _
  have K0 : Hid (Blk (w.alloc (.cells (mcells m l) 25)) w.heap.size 25 (mcells m l)) := Blk.new w _ _
  have x0 := K0.out.cell 0 rfl
  have x1 := K0.out.cell 1 rfl
  have x2 := K0.out.cell 2 rfl
  have x3 := K0.out.cell 3 rfl
  have x4 := K0.out.cell 4 rfl
  go_enter Tryd.func74, Tryd.ntmps74
  go_wp2_with fail
  refine (refStep_own m l sa sc ss x _ (ha.below B0.out (Nat.le_refl _)) (by omega) (hs.below B0.out (Nat.le_refl _)) hsl).mono ?_
  rintro e w1 ⟨v1, rfl, o1, b1⟩
  have K1 := Hid.of (K0.out.below b1 K0.out.lt)
  have B1 : Hid (Below w.heap.size w w1) := B0.out.trans (b1.mono (by simp))
  obtain ⟨a2, c2, rfl, t1, t2, t3, t4⟩ := o1.at2
  have y0 := K1.out.cell 0 rfl
  have y1 := K1.out.cell 1 rfl
  have y2 := K1.out.cell 2 rfl
  have y3 := K1.out.cell 3 rfl
  have y4 := K1.out.cell 4 rfl
  have hl2 := stepL_len m.arrows ss x
  go_wp2_with fail
  refine (refWide_any m l a2 na c2 nc (stepL m.arrows ss x) seen _ (ha.below B1.out (Nat.le_refl _)) hlen hin t1 (by omega) t4 (hq.below B1.out (Nat.le_refl _)) hql).mono ?_
  rintro e w2 ⟨v2, rfl, o2, b2⟩
  have hz := B1.out.size
  go_wp2
  go_ret
  exact ⟨v2, rfl, o2.low (by omega), B1.out.trans (b2.mono (by omega))⟩

end Go.Proofs.YtmlkpdeidpcidaaDoor
namespace Go.Proofs.YtmlkpdeidpcidaaDoor
open Go.RowKit
set_option linter.unusedVariables false
set_option linter.unusedSectionVars false

/-! How many increasing lists there are. -/
theorem nodup_sub {α : Type} [DecidableEq α] : ∀ {l m : List α}, l.Nodup → (∀ x ∈ l, x ∈ m) → l.length ≤ m.length
  | [], m, _, _ => Nat.zero_le _
  | x :: r, m, hn, hs => by
    rw [List.nodup_cons] at hn
    have hx := hs x (by simp)
    have ih := nodup_sub (l := r) (m := m.erase x) hn.2 (fun y hy => by
      have hne : y ≠ x := fun e => hn.1 (e ▸ hy)
      exact (List.mem_erase_of_ne hne).2 (hs y (by simp [hy])))
    rw [List.length_erase_of_mem hx] at ih
    have := List.length_pos_of_mem hx
    rw [List.length_cons]; omega
def subs : Nat → List (List Int)
  | 0 => [[]]
  | n + 1 => subs n ++ (subs n).map (· ++ [(n : Int)])
theorem subs_len : ∀ n, (subs n).length = 2 ^ n
  | 0 => rfl
  | n + 1 => by rw [subs, List.length_append, List.length_map, subs_len n, Nat.pow_succ]; omega
theorem mem_subs : ∀ (n : Nat) (l : List Int), Inc l → (∀ x ∈ l, 0 ≤ x ∧ x < (n : Int)) → l ∈ subs n
  | 0, l, _, h => by
    have : l = [] := by
      cases l with
      | nil => rfl
      | cons x r => have := h x (by simp); omega
    subst this; simp [subs]
  | n + 1, l, hi, h => by
    rw [subs, List.mem_append, List.mem_map]
    by_cases hn : (n : Int) ∈ l
    · right
      have hne : l ≠ [] := fun e => by rw [e] at hn; simp at hn
      obtain ⟨v, z, e⟩ : ∃ v z, l = v ++ [z] := ⟨_, _, (List.dropLast_concat_getLast hne).symm⟩
      subst e
      unfold Inc at hi
      rw [List.pairwise_append] at hi
      have hz := h z (by simp)
      have hzn : z = (n : Int) := by
        rcases List.mem_append.1 hn with h1 | h1
        · have := hi.2.2 _ h1 z (by simp); omega
        · have : (n : Int) = z := by simpa using h1
          exact this.symm
      subst hzn
      refine ⟨v, mem_subs n v hi.1 (fun x hx => ?_), rfl⟩
      have h1 := hi.2.2 x hx _ (by simp : (n : Int) ∈ [(n : Int)])
      have h2 := h x (by simp [hx])
      omega
    · left
      refine mem_subs n l hi (fun x hx => ?_)
      have h1 := h x hx
      have : x ≠ (n : Int) := fun e => hn (e ▸ hx)
      omega
/-! The search ends. -/

/-! Two machines at once. -/
end Go.Proofs.YtmlkpdeidpcidaaDoor
namespace Go.Proofs.YtmlkpdeidpcidaaDoor
open Go.RowKit
set_option linter.unusedVariables false
set_option linter.unusedSectionVars false

/-! Words by the numbers of some events. -/
/-! The plant. -/
structure Plant where
  m : Mach
  seen : List Int
  secret : List Int
/-- May it be (I1)? -/
def mayP (p : Plant) : Bool := mayB p.m && (decide (p.m.st ≤ 6) && (rowB p.m.ev p.seen && rowB p.m.st p.secret))
theorem mayP_iff (p : Plant) : mayP p = true ↔ mayB p.m = true ∧ p.m.st ≤ 6 ∧ rowB p.m.ev p.seen = true ∧ rowB p.m.st p.secret = true := by
  unfold mayP; simp only [Bool.and_eq_true, decide_eq_true_eq]
/-- What is known when an event was seen. -/
def seeL (p : Plant) (s : List Int) (e : Int) : List Int := wideL p.m.arrows p.seen (stepL p.m.arrows s e)
/-- What is known behind a list of seen events, from some states on. -/
def fromL (p : Plant) (ss word : List Int) : List Int := word.foldl (seeL p) (wideL p.m.arrows p.seen ss)
/-- The estimate (I2). -/
def estL (p : Plant) (word : List Int) : List Int := fromL p p.m.starts word
/-- Is a row not empty, and all of it secret? -/
def leakB (secret row : List Int) : Bool := decide (0 < row.length) && decide ((row.filter fun n => hasB secret n == false).length = 0)
def seeD (p : Plant) (s : List Int) (k : Nat) : List Int := seeL p s (p.seen[k]?.getD 0)
theorem see_in {p : Plant} (hm : mayB p.m = true) (s : List Int) (e : Int) : Inc (seeL p s e) ∧ ∀ x ∈ seeL p s e, 0 ≤ x ∧ x < p.m.st := ⟨inc_wide _ _ _, wide_bd hm (step_bd hm)⟩
theorem from_in {p : Plant} (hm : mayB p.m = true) : ∀ (word s : List Int), (Inc s ∧ ∀ x ∈ s, 0 ≤ x ∧ x < p.m.st) → Inc (word.foldl (seeL p) s) ∧ ∀ x ∈ word.foldl (seeL p) s, 0 ≤ x ∧ x < p.m.st
  | [], s, h => h
  | e :: r, s, _ => from_in hm r (seeL p s e) (see_in hm s e)
theorem wide_in {p : Plant} (hm : mayB p.m = true) {ss : List Int} (hs : ∀ x ∈ ss, 0 ≤ x ∧ x < p.m.st) : Inc (wideL p.m.arrows p.seen ss) ∧ ∀ x ∈ wideL p.m.arrows p.seen ss, 0 ≤ x ∧ x < p.m.st := ⟨inc_wide _ _ _, wide_bd hm hs⟩
theorem est_in {p : Plant} (hm : mayB p.m = true) (word : List Int) : Inc (estL p word) ∧ ∀ x ∈ estL p word, 0 ≤ x ∧ x < p.m.st := from_in hm word _ (wide_in hm (may_starts hm).2)
end Go.Proofs.YtmlkpdeidpcidaaDoor
namespace Go.Proofs.YtmlkpdeidpcidaaDoor
open Go.RowKit
set_option linter.unusedVariables false

/-- A list of states that what is not seen does not leave. -/
def ClU (p : Plant) (s : List Int) : Prop := (∀ x ∈ s, 0 ≤ x ∧ x < p.m.st) ∧ ∀ a ∈ p.m.arrows, hasB p.seen a.e = false → a.f ∈ s → a.t ∈ s
theorem clU_wide {p : Plant} (hm : mayB p.m = true) {ss : List Int} (hs : ∀ x ∈ ss, 0 ≤ x ∧ x < p.m.st) : ClU p (wideL p.m.arrows p.seen ss) := ⟨wide_bd hm hs, fun a ha hu h => wide_cl (may_to hm) ha hu h⟩
theorem clU_see {p : Plant} (hm : mayB p.m = true) (s : List Int) (e : Int) : ClU p (seeL p s e) := clU_wide hm (step_bd hm)
theorem clU_fold {p : Plant} (hm : mayB p.m = true) : ∀ (word s : List Int), ClU p s → ClU p (word.foldl (seeL p) s)
  | [], s, h => h
  | e :: r, s, _ => clU_fold hm r (seeL p s e) (clU_see hm s e)
theorem clU_start {p : Plant} (hm : mayB p.m = true) : ClU p (wideL p.m.arrows p.seen p.m.starts) := clU_wide hm (may_starts hm).2
/-- In the machine of what is seen an estimate leads to the next one. -/
theorem hide_see {p : Plant} (hm : mayB p.m = true) {s : List Int} (hs : ClU p s) {k : Nat} (hk : k < p.seen.length) : stepL (hideM p.m p.seen).arrows s (k : Int) = seeD p s k := by
  refine inc_ext (inc_srt _) (inc_wide _ _ _) fun x => ?_
  rw [mem_stepL]
  unfold seeD seeL
  rw [mem_wide (may_to hm)]
  constructor
  · rintro ⟨a, ha, h1, h2, rfl⟩
    obtain ⟨f, j, hf, hj, hr⟩ := (mem_hAll _ _ _ _).1 (show a ∈ hAll p.m p.seen p.m.st.toNat from ha)
    obtain ⟨t, ht, rfl⟩ := (mem_hRow _ _ _ _ _).1 hr
    dsimp only at h1 h2 ⊢
    have : j = k := by omega
    subst this
    have h3 := (mem_wide (may_to hm) t).1 ht
    refine rch_trans (fun y hy => rch_start ?_) h3
    obtain ⟨b, hb, e1, e2, e3⟩ := (mem_stepL _ _ _ _).1 hy
    refine (mem_stepL _ _ _ _).2 ⟨b, hb, e1, ?_, e3⟩
    exact (mem_wide (may_to hm) b.f).1 e2 (· ∈ s) ⟨fun y hy => by
      have : y = (f : Int) := by simpa using hy
      rw [this]; exact h2, fun c hc hcs => hs.2 c ((mem_unseen _ _ _).1 hc).1 ((mem_unseen _ _ _).1 hc).2 hcs⟩
  · intro hx
    obtain ⟨y, hy, hyx⟩ := rch_one.1 hx
    obtain ⟨a, ha, e1, e2, rfl⟩ := (mem_stepL _ _ _ _).1 hy
    have bd := hs.1 _ e2
    refine ⟨⟨a.f, (k : Int), x⟩, ?_, rfl, e2, rfl⟩
    refine (mem_hAll _ _ _ _).2 ⟨a.f.toNat, k, by omega, hk, (mem_hRow _ _ _ _ _).2 ⟨x, ?_, by rw [Int.toNat_of_nonneg bd.1]⟩⟩
    rw [mem_wide (may_to hm)]
    refine rch_trans (fun z hz => rch_start ?_) hyx
    have : z = a.t := by simpa using hz
    subst this
    exact (mem_stepL _ _ _ _).2 ⟨a, ha, e1, wide_sub (may_to hm) _ (by simp [Int.toNat_of_nonneg bd.1]), rfl⟩
theorem see_nil {p : Plant} (hm : mayB p.m = true) (e : Int) : seeL p [] e = [] := by
  rw [List.eq_nil_iff_forall_not_mem]
  intro x hx
  unfold seeL at hx
  rw [mem_wide (may_to hm)] at hx
  obtain ⟨y, hy, -⟩ := rch_one.1 hx
  obtain ⟨a, -, -, h, -⟩ := (mem_stepL _ _ _ _).1 hy
  cases h
theorem fold_nil {p : Plant} (hm : mayB p.m = true) : ∀ word : List Int, word.foldl (seeL p) [] = []
  | [] => rfl
  | e :: r => by rw [List.foldl_cons, see_nil hm, fold_nil hm r]
/-! The search. -/
end Go.Proofs.YtmlkpdeidpcidaaDoor
