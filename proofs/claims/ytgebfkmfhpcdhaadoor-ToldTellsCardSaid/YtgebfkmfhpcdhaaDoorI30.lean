/-
  The walks of jalousieref12.First and After.
  The walk of jalousieref12.After.
  Plain: the search for the least list that leaks what a machine did. No program, no model.
  The walk of jalousieref12.Judge.
  What is said of a row of whereabouts, and of a row of lists; plain: what Leak knows.
-/
import Derived.Deep.QuietTactic
import Derived.Deep.RegionWith
import Derived.Deep.RegionHeld3
import Derived.BigQuiet
import Derived.Test.YtgebfkmfhpcdhaaDoorI29
import Derived.Test.YtgebfkmfhpcdhaaDoorI05
import Derived.Test.YtgebfkmfhpcdhaaDoorI03
import Derived.Test.YtgebfkmfhpcdhaaDoorI26
import Derived.Test.YtgebfkmfhpcdhaaDoorERefMay
import Derived.Test.YtgebfkmfhpcdhaaDoorI19
import Derived.Test.YtgebfkmfhpcdhaaDoorI14
import Derived.Test.YtgebfkmfhpcdhaaDoorI04
import Derived.Test.YtgebfkmfhpcdhaaDoorI17
import Derived.Test.YtgebfkmfhpcdhaaDoorI06
import Derived.Test.YtgebfkmfhpcdhaaDoorI28
namespace Go.Proofs.YtgebfkmfhpcdhaaDoor
open Go.RowKit
set_option linter.unusedVariables false

def startQ (starts starts2 : List Int) : List Pla := starts.map fun x => (x, starts2)
theorem startQ_take {starts starts2 : List Int} {k : Nat} {x : Int} (h : k < starts.length) (hx : Hid (x = starts[k]?.getD 0)) : startQ (starts.take (k + 1)) starts2 = startQ (starts.take k) starts2 ++ [(x, starts2)] := by
  unfold startQ
  rw [List.take_add_one, List.getElem?_eq_getElem h, Option.toList_some, List.map_append, hx.out, List.getElem?_eq_getElem h]; rfl
theorem startQ_len (starts starts2 : List Int) (k : Nat) : (startQ (starts.take k) starts2).length ≤ starts.length := by unfold startQ; rw [List.length_map, List.length_take]; omega

set_option maxRecDepth 100000 in
set_option maxHeartbeats 8000000 in
theorem rqfirst_go (st ev : Int) (starts : List Int) (ars : List Arr) (ends : List Int) (a1 : Option Addr) (c1 : Nat) (a2 : Option Addr) (c2 : Nat) (a3 : Option Addr) (c3 : Nat) (st2 ev2 : Int) (starts2 : List Int) (ars2 : List Arr) (ends2 : List Int) (d1 : Option Addr) (e1 : Nat) (d2 : Option Addr) (e2 : Nat) (d3 : Option Addr) (e3 : Nat) (sa : Option Addr) (sc : Nat) (seen : List Int) (w0 w : World) (hb0 : Hid (Below w0.heap.size w0 w)) (hs0 : Hid (MAt w0 ⟨st2, ev2, starts2, ars2, ends2⟩ ⟨d1, e1, d2, e2, d3, e3⟩)) (hma : Hid (MAt w ⟨st, ev, starts, ars, ends⟩ ⟨a1, c1, a2, c2, a3, c3⟩)) (hms : Hid (MAt w ⟨st2, ev2, starts2, ars2, ends2⟩ ⟨d1, e1, d2, e2, d3, e3⟩)) (hse : Hid (At w sa seen)) (hsl : Hid (seen.length ≤ maxLen)) (mm : Hid (mayB ⟨st, ev, starts, ars, ends⟩ = true)) (ms : Hid (mayB ⟨st2, ev2, starts2, ars2, ends2⟩ = true)) (zm : Hid (st ≤ 6)) (zs : Hid (st2 ≤ 4)) :
    Calls Tryd.prog 95 #[mval ⟨st, ev, starts, ars, ends⟩ ⟨a1, c1, a2, c2, a3, c3⟩, mval ⟨st2, ev2, starts2, ars2, ends2⟩ ⟨d1, e1, d2, e2, d3, e3⟩, .slice sa seen.length sc] w fun e w' => ∃ v', e = .returned v' ∧ OwnQ w0.heap.size w' w.heap.size v' (firstQ ⟨st, ev, starts, ars, ends⟩ ⟨st2, ev2, starts2, ars2, ends2⟩ seen) ∧ Below w.heap.size w w' := by
  have hn0 : w0.heap.size ≤ w.heap.size := hb0.out.size
  have hsi := may_starts mm.out
  dsimp only at hsi
  have hsln : starts.length ≤ 6 := by
    have hz6 := zm.out
    exact nodup_len 6 _ (inc_nodup hsi.1) (fun x hx => by have := hsi.2 x hx; omega)
  have HND : Hid ((startQ starts starts2).Nodup) := by
    have := inc_nodup hsi.1
    show List.Nodup _
    unfold startQ
    rw [List.nodup_iff_pairwise_ne, List.pairwise_map]
    exact List.Pairwise.imp (fun hab e => hab (by injection e)) (List.nodup_iff_pairwise_ne.1 this)
  have HIN : Hid (∀ x ∈ startQ starts starts2, x ∈ allQ ⟨st, ev, starts, ars, ends⟩ ⟨st2, ev2, starts2, ars2, ends2⟩) := fun x hx => by
    obtain ⟨y, hy, rfl⟩ := List.mem_map.1 hx
    exact start_in mm.out ms.out zm.out zs.out hy
  clear hsi
  obtain ⟨i0, hi, hz0, hz1, hz2⟩ := info_parts Tryd.infoAtQ
  have HW0 : Hid (WQ w ((w.alloc (.cells (mcells ⟨st, ev, starts, ars, ends⟩ ⟨a1, c1, a2, c2, a3, c3⟩) 25)).alloc (.cells (mcells ⟨st2, ev2, starts2, ars2, ends2⟩ ⟨d1, e1, d2, e2, d3, e3⟩) 25)) w.heap.size w0.heap.size ⟨st, ev, starts, ars, ends⟩ ⟨st2, ev2, starts2, ars2, ends2⟩ ⟨a1, c1, a2, c2, a3, c3⟩ ⟨d1, e1, d2, e2, d3, e3⟩ (.slice none 0 0) []) := by
    have b2 : Below w.heap.size w ((w.alloc (.cells (mcells ⟨st, ev, starts, ars, ends⟩ ⟨a1, c1, a2, c2, a3, c3⟩) 25)).alloc (.cells (mcells ⟨st2, ev2, starts2, ars2, ends2⟩ ⟨d1, e1, d2, e2, d3, e3⟩) 25)) := ((Below.refl _ _).alloc (Nat.le_refl _) _).alloc (by simp) _
    refine ⟨ownQ_nil _ _ _, b2, (Blk.new w _ _).alloc _, ?_, b2.size, hn0⟩
    have := Blk.new (w.alloc (.cells (mcells ⟨st, ev, starts, ars, ends⟩ ⟨a1, c1, a2, c2, a3, c3⟩) 25)) 25 (mcells ⟨st2, ev2, starts2, ars2, ends2⟩ ⟨d1, e1, d2, e2, d3, e3⟩)
    rwa [World.size_alloc] at this
  have ISP : Hid (∀ W, Below w.heap.size w W → InnW w0.heap.size W (.slice d1 starts2.length e1) starts2) := fun W hb => innW_at hs0.out.s (Nat.le_trans hs0.out.s1 hs0.out.s2) hs0.out.s3 (hb0.out.trans (hb.mono hn0))
  go_enter Tryd.func95, Tryd.ntmps95
  go_wp2_with fail
  revert HW0
  generalize ((w.alloc (.cells (mcells ⟨st, ev, starts, ars, ends⟩ ⟨a1, c1, a2, c2, a3, c3⟩) 25)).alloc (.cells (mcells ⟨st2, ev2, starts2, ars2, ends2⟩ ⟨d1, e1, d2, e2, d3, e3⟩) 25)) = V0
  intro HW0
  go_loopw [7, 8] (fun v3 i wr => ∃ (k : Nat), i = .int .i64 k ∧ k ≤ starts.length ∧ Hid (WQ w wr w.heap.size w0.heap.size ⟨st, ev, starts, ars, ends⟩ ⟨st2, ev2, starts2, ars2, ends2⟩ ⟨a1, c1, a2, c2, a3, c3⟩ ⟨d1, e1, d2, e2, d3, e3⟩ v3 (startQ (starts.take k) starts2))) (fun _ i _ => starts.length - (intOf i).toNat)
  case atStart => exact ⟨0, rfl, Nat.zero_le _, HW0⟩
  case round =>
    clear HW0
    obtain ⟨k, rfl, hk, HW⟩ := hrel
    have hcl := startQ_len starts starts2 k
    by_cases hlt : k < starts.length
    · have hkD : decide ((k : Int) < (starts.length : Int)) = true := by simp; omega
      obtain ⟨b, off, x, hab, hbl, HX, hcx⟩ : ∃ (b off : Nat) (x : Int), a1 = some ⟨b, off, none⟩ ∧ b < w.heap.size ∧ Hid (x = starts[k]?.getD 0) ∧ w.cell? ⟨b, off + k, none⟩ = some (.int .i64 x) := by
        rcases hma.out.s with h0 | ⟨b, off, ha, hb, hc⟩
        · have : starts.length = 0 := by rw [show starts = [] from h0]; rfl
          omega
        · obtain ⟨x, hx, hcell⟩ := hc.at hlt
          exact ⟨b, off, x, ha, hb, hx, hcell⟩
      subst hab
      have HNX := Hid.of (startQ_take (starts2 := starts2) hlt HX)
      obtain ⟨cur, HC⟩ : ∃ cur, Hid (cur = startQ (starts.take k) starts2) := ⟨_, rfl⟩
      rw [← HC.out] at HW HNX hcl
      have CX : Hid (∀ W, Below w.heap.size w W → W.cell? ⟨b, off + k, none⟩ = some (.int .i64 x)) := fun W hb => (hb.cell (p := ⟨b, off + k, none⟩) hbl).trans hcx
      clear hcx
      obtain ⟨va, vc, hv3⟩ := HW.out.ow.form
      subst hv3
      obtain ⟨x0, x1, x2, x3, x4⟩ := mcell_at HW.out.km
      dsimp only at x0 x1 x2 x3 x4
      go_wp2_with fail
      have SA : Hid (∀ W, WQ w W w.heap.size w0.heap.size ⟨st, ev, starts, ars, ends⟩ ⟨st2, ev2, starts2, ars2, ends2⟩ ⟨some ⟨b, off, none⟩, c1, a2, c2, a3, c3⟩ ⟨d1, e1, d2, e2, d3, e3⟩ (.slice va cur.length vc) cur → W.cell? ⟨w.heap.size, 2, none⟩ = some (.slice (some ⟨b, off, none⟩) starts.length c1) ∧ W.cell? ⟨b, off + k, none⟩ = some (.int .i64 x) ∧ W.cell? ⟨w.heap.size + 1, 2, none⟩ = some (.slice d1 starts2.length e1)) := fun W h => ⟨h.km.cell 2 rfl, CX.out _ h.bel, h.ks.cell 2 rfl⟩
      have Q1 := Hid.of (HW.out.below (Below.refl _ wr).drew)
      refine wp_region_held_drew (S := fun w' => w'.cell? ⟨w.heap.size, 2, none⟩ = some (.slice (some ⟨b, off, none⟩) starts.length c1) ∧ w'.cell? ⟨b, off + k, none⟩ = some (.int .i64 x) ∧ w'.cell? ⟨w.heap.size + 1, 2, none⟩ = some (.slice d1 starts2.length e1)) (by kernel_rfl) (SA.out _ Q1.out) (fun hS => ?_)
      clear x0 x1 x2 x3 x4 HW
      revert hS Q1
      generalize wr.drew = Y
      intro Q1 hS
      refine wpAnyH_take (i := 0) (v := .slice va cur.length vc) rfl (by kernel_rfl) (by kernel_rfl) (by kernel_rfl) (fun _ _ _ h => h) (Or.inl ⟨by kernel_rfl, fun w' hw' => by obtain ⟨q0, q1, q2⟩ := hw'; go_simp⟩) hS ?_
      refine wpAnyH_take (i := 1) (v := .pointer (some ⟨w.heap.size, 2, none⟩)) rfl (by kernel_rfl) (by kernel_rfl) (by kernel_rfl) (fun _ _ _ h => h) (Or.inl ⟨by kernel_rfl, fun w' hw' => by obtain ⟨q0, q1, q2⟩ := hw'; go_simp⟩) hS ?_
      refine wpAnyH_take (i := 2) (v := .slice (some ⟨b, off, none⟩) starts.length c1) rfl (by kernel_rfl) (by kernel_rfl) (by kernel_rfl) (fun _ _ _ h => h) (Or.inl ⟨by kernel_rfl, fun w' hw' => by obtain ⟨q0, q1, q2⟩ := hw'; go_simp⟩) hS ?_
      refine wpAnyH_take (i := 3) (v := .int .i64 k) rfl (by kernel_rfl) (by kernel_rfl) (by kernel_rfl) (fun _ _ _ h => h) (Or.inl ⟨by kernel_rfl, fun w' hw' => by obtain ⟨q0, q1, q2⟩ := hw'; go_simp⟩) hS ?_
      refine wpAnyH_take (i := 4) (v := .pointer (some ⟨b, off + k, none⟩)) rfl (by kernel_rfl) (by kernel_rfl) (by kernel_rfl) (fun _ _ _ h => h) (Or.inl ⟨by kernel_rfl, fun w' hw' => by obtain ⟨q0, q1, q2⟩ := hw'; go_simp⟩) hS ?_
      refine wpAnyH_take (i := 5) (v := .int .i64 x) rfl (by kernel_rfl) (by kernel_rfl) (by kernel_rfl) (fun _ _ _ h => h) (Or.inl ⟨by kernel_rfl, fun w' hw' => by obtain ⟨q0, q1, q2⟩ := hw'; go_simp⟩) hS ?_
      refine wpAnyH_take (i := 6) (v := .pointer (some ⟨w.heap.size + 1, 2, none⟩)) rfl (by kernel_rfl) (by kernel_rfl) (by kernel_rfl) (fun _ _ _ h => h) (Or.inl ⟨by kernel_rfl, fun w' hw' => by obtain ⟨q0, q1, q2⟩ := hw'; go_simp⟩) hS ?_
      refine wpAnyH_take (i := 7) (v := .slice d1 starts2.length e1) rfl (by kernel_rfl) (by kernel_rfl) (by kernel_rfl) (fun _ _ _ h => h) (Or.inl ⟨by kernel_rfl, fun w' hw' => by obtain ⟨q0, q1, q2⟩ := hw'; go_simp⟩) hS ?_
      refine wpAnyH_take (i := 8) (v := .agg #[.int .i64 x, .slice d1 starts2.length e1]) rfl (by kernel_rfl) (by kernel_rfl) (by kernel_rfl) (fun _ _ _ h => h) (Or.inl ⟨by kernel_rfl, fun w' hw' => by obtain ⟨q0, q1, q2⟩ := hw'; go_simp⟩) hS ?_
      simp only [Act.put, List.setIfInBounds_toArray]
      refine wpAnyH_ready (rs := [9]) (by kernel_rfl) (by simp) ?_
      refine AllReadyH.cons rfl (fun K' hK' => ?_) AllReadyH.nil
      clear hS
      go_simp
      have bn : Below Y.heap.size Y (Y.alloc (.cells #[.int .i64 x, .slice d1 starts2.length e1] 140)) := (Below.refl _ _).alloc (Nat.le_refl _) _
      have Q2 := Hid.of (Q1.out.below bn)
      have CF : Hid (∀ j u, ([.int .i64 x, .slice d1 starts2.length e1] : List Value)[j]? = some u → (Y.alloc (.cells #[.int .i64 x, .slice d1 starts2.length e1] 140)).cell? ((⟨Y.heap.size, 0, none⟩ : Addr).add j) = some u) := cells_duoQ Y Y rfl _ _ _
      refine hK'.out _ _ (SA.out _ Q2.out) (fun hS => ?_)
      clear hK' K' bn Q1
      revert hS Q2 CF
      generalize Y.alloc (.cells #[.int .i64 x, .slice d1 starts2.length e1] 140) = Y2
      generalize Y.heap.size = pn
      intro Q2 CF hS
      refine wpAnyH_ready (rs := [10]) (by kernel_rfl) (by simp) ?_
      refine AllReadyH.cons rfl (fun K' hK' => ?_) AllReadyH.nil
      clear hS
      obtain ⟨vs, ho, hi'⟩ := Q2.out.ow
      have OZ := Hid.of (ISP.out _ Q2.out.bel)
      refine step_append_block rfl (.tmp 16) (.tmp 25) 60 rfl w.heap.size 140 i0 _ 2 32 Tryd.underlying60 hi hz0 hz1 hz2 rfl (by decide) _ _ _ rfl ho ⟨pn, 0, none⟩ 1 1 [.int .i64 x, .slice d1 starts2.length e1] rfl rfl CF.out (one_vals (x := (x, starts2)) OZ.out) (by decide) (by unfold maxLen; omega) (by omega) Q2.out.hB ?_
      intro v9 w9 o9 g9 n9
      have Q3 := Hid.of (WQ.push (x := (x, starts2)) Q2.out ho hi' OZ.out o9 g9)
      obtain ⟨va9, vc9, hv9⟩ := Q3.out.ow.form
      rw [List.length_append, List.length_cons, List.length_nil, Nat.zero_add] at hv9
      subst hv9
      refine hK'.out _ _ ⟨Q3.out.km.cell 2 rfl, CX.out _ Q3.out.bel, Q3.out.ks.cell 2 rfl⟩ (fun hS => ?_)
      clear hK' K' o9 g9 n9 ho hi' OZ Q2 CF SA
      refine wpAnyH_take (i := 11) (v := .slice va9 (cur.length + 1) vc9) rfl (by kernel_rfl) (by kernel_rfl) (by kernel_rfl) (fun _ _ _ h => h) (Or.inl ⟨by kernel_rfl, fun w' hw' => by obtain ⟨q0, q1, q2⟩ := hw'; go_simp⟩) hS ?_
      refine wpAnyH_done (by kernel_rfl) ?_ _
      clear hS
      go_wp2_with fail
      go_roundw
      case rel => exact ⟨k + 1, by go_num, by omega, by rw [HNX.out]; exact Q3⟩
      case measure => simp [intOf]; omega
    · have hkD : decide ((k : Int) < (starts.length : Int)) = false := by simp; omega
      rw [List.take_of_length_le (by omega)] at HW
      obtain ⟨cur, HC⟩ : ∃ cur, Hid (cur = startQ starts starts2) := ⟨_, rfl⟩
      rw [← HC.out] at HW HND HIN
      obtain ⟨va, vc, hv3⟩ := HW.out.ow.form
      subst hv3
      have KEY := Hid.of (rqwide_any ⟨st, ev, starts, ars, ends⟩ ⟨st2, ev2, starts2, ars2, ends2⟩ ⟨a1, c1, a2, c2, a3, c3⟩ ⟨d1, e1, d2, e2, d3, e3⟩ sa sc seen w hma.out hms.out hse.out hsl.out mm.out ms.out zm.out zs.out w0.heap.size w.heap.size (.slice va cur.length vc) cur wr HW.out.bel (Nat.le_refl _) hn0 HW.out.hB HW.out.ow HND.out HIN.out)
      obtain ⟨x0, x1, x2, x3, x4⟩ := mcell_at HW.out.km
      obtain ⟨y0, y1, y2, y3, y4⟩ := mcell_at HW.out.ks
      dsimp only at x0 x1 x2 x3 x4 y0 y1 y2 y3 y4
      go_wp2_with fail
      refine KEY.out.mono ?_
      rintro e W9 ⟨v9, rfl, o9, b9⟩
      have O9 : Hid (OwnQ w0.heap.size W9 w.heap.size v9 (firstQ ⟨st, ev, starts, ars, ends⟩ ⟨st2, ev2, starts2, ars2, ends2⟩ seen)) := by
        have : firstQ ⟨st, ev, starts, ars, ends⟩ ⟨st2, ev2, starts2, ars2, ends2⟩ seen = wideQ ⟨st, ev, starts, ars, ends⟩ ⟨st2, ev2, starts2, ars2, ends2⟩ seen cur := by rw [HC.out]; rfl
        rw [this]; exact o9
      have B9 := Hid.of (HW.out.bel.trans b9)
      clear o9 b9 KEY x0 x1 x2 x3 x4 y0 y1 y2 y3 y4
      go_wp2_with fail
      go_ret
      exact ⟨_, rfl, O9.out, B9.out⟩

theorem rqfirst_any (m s : Mach) (lm ls : ML) (sa : Option Addr) (sc : Nat) (seen : List Int) (w0 w : World) (hb0 : Below w0.heap.size w0 w) (hs0 : MAt w0 s ls) (hma : MAt w m lm) (hms : MAt w s ls) (hse : At w sa seen) (hsl : seen.length ≤ maxLen) (mm : mayB m = true) (ms : mayB s = true) (zm : m.st ≤ 6) (zs : s.st ≤ 4) :
    Calls Tryd.prog 95 #[mval m lm, mval s ls, .slice sa seen.length sc] w fun e w' => ∃ v', e = .returned v' ∧ OwnQ w0.heap.size w' w.heap.size v' (firstQ m s seen) ∧ Below w.heap.size w w' := by
  obtain ⟨st, ev, starts, ars, ends⟩ := m
  obtain ⟨st2, ev2, starts2, ars2, ends2⟩ := s
  obtain ⟨a1, c1, a2, c2, a3, c3⟩ := lm
  obtain ⟨d1, e1, d2, e2, d3, e3⟩ := ls
  exact rqfirst_go st ev starts ars ends a1 c1 a2 c2 a3 c3 st2 ev2 starts2 ars2 ends2 d1 e1 d2 e2 d3 e3 sa sc seen w0 w (Hid.of hb0) (Hid.of hs0) (Hid.of hma) (Hid.of hms) (Hid.of hse) (Hid.of hsl) (Hid.of mm) (Hid.of ms) (Hid.of zm) (Hid.of zs)

end Go.Proofs.YtgebfkmfhpcdhaaDoor
namespace Go.Proofs.YtgebfkmfhpcdhaaDoor
open Go.RowKit
set_option linter.unusedVariables false

/-- Their rows are short. -/
theorem allQ_row {m s : Mach} {x : Pla} (h : x ∈ allQ m s) : x.2.length ≤ 4096 := by
  unfold allQ at h
  obtain ⟨y, -, h2⟩ := List.mem_flatMap.1 h
  obtain ⟨S, hS, rfl⟩ := List.mem_map.1 h2
  have key : ∀ n S, S ∈ subs n → S.length ≤ n := by
    intro n
    induction n with
    | zero => intro S hS; simp [subs] at hS; rw [hS]; simp
    | succ n ih =>
      intro S hS
      unfold subs at hS
      rcases List.mem_append.1 hS with q | q
      · have := ih S q; omega
      · obtain ⟨R, hR, rfl⟩ := List.mem_map.1 q
        have := ih R hR
        simp; omega
  have := key 4 S hS
  show S.length ≤ 4096
  omega

end Go.Proofs.YtgebfkmfhpcdhaaDoor
namespace Go.Proofs.YtgebfkmfhpcdhaaDoor
open Go.RowKit
set_option linter.unusedVariables false
set_option linter.unusedSectionVars false

/-! A search that is cut where more than so many are found. -/

/-! What is told by whereabouts. -/
def secQ (m s : Mach) (l : List Pla) : Bool := l.any fun x => hasB m.ends x.1 && decide (0 < (x.2.filter fun n => hasB s.ends n == true).length)
def opnQ (m s : Mach) (l : List Pla) : Bool := l.any fun x => hasB m.ends x.1 && !decide (0 < (x.2.filter fun n => hasB s.ends n == true).length)
theorem any_same {α : Type} {l l' : List α} (f : α → Bool) (h : ∀ x, x ∈ l ↔ x ∈ l') : l.any f = l'.any f := by
  rw [Bool.eq_iff_iff, List.any_eq_true, List.any_eq_true]
  exact ⟨fun ⟨x, hx, q⟩ => ⟨x, (h x).1 hx, q⟩, fun ⟨x, hx, q⟩ => ⟨x, (h x).2 hx, q⟩⟩
def qD (m s : Mach) (seen : List Int) (c : List Pla) (k : Nat) : List Pla := canG (allQ m s) (seeQ m s seen c (seen[k]?.getD 0))
def qF (m s : Mach) (seen : List Int) : List Pla := canG (allQ m s) (firstQ m s seen)
section
variable {m s : Mach}
theorem see_same (hm : mayB m = true) (hs : mayB s = true) (zm : m.st ≤ 6) (zs : s.st ≤ 4) {seen : List Int} {l l' : List Pla} (h : ∀ x, x ∈ l ↔ x ∈ l') (e : Int) : ∀ x, x ∈ seeQ m s seen l e ↔ x ∈ seeQ m s seen l' e := fun x => by
  rw [mem_seeQ hm hs zm zs, mem_seeQ hm hs zm zs]
  exact ⟨fun ⟨t, y, a, b, c⟩ => ⟨t, y, a, (h y).1 b, c⟩, fun ⟨t, y, a, b, c⟩ => ⟨t, y, a, (h y).2 b, c⟩⟩
theorem run_q (hm : mayB m = true) (hs : mayB s = true) (zm : m.st ≤ 6) (zs : s.st ≤ 4) {seen : List Int} : ∀ (u : List Int) (c l : List Pla), (∀ x, x ∈ c ↔ x ∈ l) → ∀ x, x ∈ runF (qD m s seen) c u ↔ x ∈ (wordS seen u).foldl (seeQ m s seen) l
  | [], c, l, h, x => h x
  | k :: u, c, l, h, x => by
    show x ∈ runF (qD m s seen) (qD m s seen c k.toNat) u ↔ x ∈ (wordS seen u).foldl (seeQ m s seen) (seeQ m s seen l (seen[k.toNat]?.getD 0))
    refine run_q hm hs zm zs u _ _ (fun y => ?_) x
    unfold qD
    rw [mem_canG (seeQ_in hm hs zm zs).2]
    exact see_same hm hs zm zs h _ y
theorem run_after (hm : mayB m = true) (hs : mayB s = true) (zm : m.st ≤ 6) (zs : s.st ≤ 4) {seen : List Int} (u : List Int) : ∀ x, x ∈ runF (qD m s seen) (qF m s seen) u ↔ x ∈ afterQ m s seen (wordS seen u) :=
  run_q hm hs zm zs u _ _ (fun x => by unfold qF; rw [mem_canG (first_in hm hs zm zs).2.1])
end

end Go.Proofs.YtgebfkmfhpcdhaaDoor
namespace Go.Proofs.YtgebfkmfhpcdhaaDoor
open Go.RowKit
set_option linter.unusedVariables false

def endN (ends xs : List Int) : List Int := xs.filter fun n => hasB ends n == true
theorem secQ_take {m s : Mach} {l : List Pla} {k : Nat} {y : Pla} (h : l[k]? = some y) : secQ m s (l.take (k + 1)) = (secQ m s (l.take k) || (hasB m.ends y.1 && decide (0 < (endN s.ends y.2).length))) := by
  unfold secQ endN
  rw [List.take_add_one, h, Option.toList_some, List.any_append]; simp
theorem opnQ_take {m s : Mach} {l : List Pla} {k : Nat} {y : Pla} (h : l[k]? = some y) : opnQ m s (l.take (k + 1)) = (opnQ m s (l.take k) || (hasB m.ends y.1 && !decide (0 < (endN s.ends y.2).length))) := by
  unfold opnQ endN
  rw [List.take_add_one, h, Option.toList_some, List.any_append]; simp

set_option maxRecDepth 100000 in
set_option maxHeartbeats 8000000 in
theorem rqjudge_go (st ev : Int) (starts : List Int) (ars : List Arr) (ends : List Int) (a1 : Option Addr) (c1 : Nat) (a2 : Option Addr) (c2 : Nat) (a3 : Option Addr) (c3 : Nat) (st2 ev2 : Int) (starts2 : List Int) (ars2 : List Arr) (ends2 : List Int) (d1 : Option Addr) (e1 : Nat) (d2 : Option Addr) (e2 : Nat) (d3 : Option Addr) (e3 : Nat) (n : Nat) (la : Option Addr) (lc : Nat) (l : List Pla) (w : World) (hma : Hid (MAt w ⟨st, ev, starts, ars, ends⟩ ⟨a1, c1, a2, c2, a3, c3⟩)) (hms : Hid (MAt w ⟨st2, ev2, starts2, ars2, ends2⟩ ⟨d1, e1, d2, e2, d3, e3⟩)) (hn : n ≤ w.heap.size) (hv : Hid (AtQ n w la l)) (hll : l.length ≤ 4096) (hsz : Hid (∀ x ∈ l, x.2.length ≤ 4096)) :
    Calls Tryd.prog 45 #[mval ⟨st, ev, starts, ars, ends⟩ ⟨a1, c1, a2, c2, a3, c3⟩, mval ⟨st2, ev2, starts2, ars2, ends2⟩ ⟨d1, e1, d2, e2, d3, e3⟩, .slice la l.length lc] w fun e w' => e = .returned (.tuple #[.bool (secQ ⟨st, ev, starts, ars, ends⟩ ⟨st2, ev2, starts2, ars2, ends2⟩ l), .bool (opnQ ⟨st, ev, starts, ars, ends⟩ ⟨st2, ev2, starts2, ars2, ends2⟩ l)]) ∧ Below w.heap.size w w' := by
  have B0 : Hid (Below w.heap.size w ((w.alloc (.cells (mcells ⟨st, ev, starts, ars, ends⟩ ⟨a1, c1, a2, c2, a3, c3⟩) 25)).alloc (.cells (mcells ⟨st2, ev2, starts2, ars2, ends2⟩ ⟨d1, e1, d2, e2, d3, e3⟩) 25))) := ((Below.refl _ _).alloc (Nat.le_refl _) _).alloc (by simp) _
  have KM0 : Hid (Blk ((w.alloc (.cells (mcells ⟨st, ev, starts, ars, ends⟩ ⟨a1, c1, a2, c2, a3, c3⟩) 25)).alloc (.cells (mcells ⟨st2, ev2, starts2, ars2, ends2⟩ ⟨d1, e1, d2, e2, d3, e3⟩) 25)) w.heap.size 25 (mcells ⟨st, ev, starts, ars, ends⟩ ⟨a1, c1, a2, c2, a3, c3⟩)) := (Blk.new w _ _).alloc _
  have KS0 : Hid (Blk ((w.alloc (.cells (mcells ⟨st, ev, starts, ars, ends⟩ ⟨a1, c1, a2, c2, a3, c3⟩) 25)).alloc (.cells (mcells ⟨st2, ev2, starts2, ars2, ends2⟩ ⟨d1, e1, d2, e2, d3, e3⟩) 25)) (w.heap.size + 1) 25 (mcells ⟨st2, ev2, starts2, ars2, ends2⟩ ⟨d1, e1, d2, e2, d3, e3⟩)) := by
    have := Blk.new (w.alloc (.cells (mcells ⟨st, ev, starts, ars, ends⟩ ⟨a1, c1, a2, c2, a3, c3⟩) 25)) 25 (mcells ⟨st2, ev2, starts2, ars2, ends2⟩ ⟨d1, e1, d2, e2, d3, e3⟩)
    rwa [World.size_alloc] at this
  have el : Hid (ends.length ≤ maxLen) := Nat.le_trans hma.out.e1 hma.out.e2
  have el2 : Hid (ends2.length ≤ maxLen) := Nat.le_trans hms.out.e1 hms.out.e2
  go_enter Tryd.func45, Tryd.ntmps45
  go_wp2_with fail
  revert B0 KM0 KS0
  generalize ((w.alloc (.cells (mcells ⟨st, ev, starts, ars, ends⟩ ⟨a1, c1, a2, c2, a3, c3⟩) 25)).alloc (.cells (mcells ⟨st2, ev2, starts2, ars2, ends2⟩ ⟨d1, e1, d2, e2, d3, e3⟩) 25)) = V0
  intro B0 KM0 KS0
  go_loopw [8, 9, 10] (fun v8 v9 i wr => ∃ (k : Nat), i = .int .i64 k ∧ k ≤ l.length ∧ v8 = .bool (secQ ⟨st, ev, starts, ars, ends⟩ ⟨st2, ev2, starts2, ars2, ends2⟩ (l.take k)) ∧ v9 = .bool (opnQ ⟨st, ev, starts, ars, ends⟩ ⟨st2, ev2, starts2, ars2, ends2⟩ (l.take k)) ∧ Hid (Below w.heap.size w wr) ∧ Hid (Blk wr w.heap.size 25 (mcells ⟨st, ev, starts, ars, ends⟩ ⟨a1, c1, a2, c2, a3, c3⟩)) ∧ Hid (Blk wr (w.heap.size + 1) 25 (mcells ⟨st2, ev2, starts2, ars2, ends2⟩ ⟨d1, e1, d2, e2, d3, e3⟩))) (fun _ _ i _ => l.length - (intOf i).toNat)
  case atStart => exact ⟨0, rfl, Nat.zero_le _, rfl, rfl, B0, KM0, KS0⟩
  case round =>
    clear B0 KM0 KS0
    obtain ⟨k, rfl, hk, hv8, hv9, B, KM, KS⟩ := hrel
    obtain ⟨p8, H8⟩ : ∃ p8, Hid (p8 = secQ ⟨st, ev, starts, ars, ends⟩ ⟨st2, ev2, starts2, ars2, ends2⟩ (l.take k)) := ⟨_, rfl⟩
    obtain ⟨p9, H9⟩ : ∃ p9, Hid (p9 = opnQ ⟨st, ev, starts, ars, ends⟩ ⟨st2, ev2, starts2, ars2, ends2⟩ (l.take k)) := ⟨_, rfl⟩
    rw [← H8.out] at hv8
    rw [← H9.out] at hv9
    subst hv8
    subst hv9
    by_cases hlt : k < l.length
    · have hkD : decide ((k : Int) < (l.length : Int)) = true := by simp; omega
      obtain ⟨⟨ym, ys⟩, HY⟩ : ∃ y, Hid (l[k]? = some y) := ⟨_, List.getElem?_eq_getElem hlt⟩
      have HS := Hid.of (secQ_take (m := ⟨st, ev, starts, ars, ends⟩) (s := ⟨st2, ev2, starts2, ars2, ends2⟩) HY.out)
      have HO := Hid.of (opnQ_take (m := ⟨st, ev, starts, ars, ends⟩) (s := ⟨st2, ev2, starts2, ars2, ends2⟩) HY.out)
      rw [← H8.out] at HS
      rw [← H9.out] at HO
      have hyl : Hid (ys.length ≤ 4096) := hsz.out _ (List.mem_of_getElem? HY.out)
      obtain ⟨g, o, sy, sk, hga, hg, c1q, c2q, i1, i2, -⟩ := (hv.out.below B.out hn).get HY.out
      dsimp only at c1q c2q i1 i2
      subst hga
      have HG := Hid.of hg
      have I1 := Hid.of i1
      clear hg i1 i2
      obtain ⟨x0, x1, x2, x3, x4⟩ := mcell_at KM.out
      dsimp only at x0 x1 x2 x3 x4
      have KEY1 : Hid (∀ r, Calls Tryd.prog 53 #[.slice a3 ends.length c3, .int .i64 ym] (wr.drewN r) fun e w' => e = .returned (.bool (hasB ends ym)) ∧ w' = wr.drewN r) := fun r => refHas_any a3 c3 ends ym _ (At.drewN (hma.out.e.below B.out (Nat.le_refl _)) r) el.out
      go_wp2_with fail
      cases he : hasB ends ym with
      | false =>
        have HS1 : Hid (secQ ⟨st, ev, starts, ars, ends⟩ ⟨st2, ev2, starts2, ars2, ends2⟩ (l.take (k + 1)) = p8) := by show _ = _; rw [HS.out, he]; simp
        have HO1 : Hid (opnQ ⟨st, ev, starts, ars, ends⟩ ⟨st2, ev2, starts2, ars2, ends2⟩ (l.take (k + 1)) = p9) := by show _ = _; rw [HO.out, he]; simp
        rw [he] at KEY1
        clear he
        go_quiet (first | (go_at_call 53; exact Calls.quiet_of_same (KEY1.out _)))
        have B1 : Hid (Below w.heap.size w (wr.drewN nq)) := below_drewN B.out nq
        have KM1 : Hid (Blk (wr.drewN nq) w.heap.size 25 (mcells ⟨st, ev, starts, ars, ends⟩ ⟨a1, c1, a2, c2, a3, c3⟩)) := KM.out
        have KS1 : Hid (Blk (wr.drewN nq) (w.heap.size + 1) 25 (mcells ⟨st2, ev2, starts2, ars2, ends2⟩ ⟨d1, e1, d2, e2, d3, e3⟩)) := KS.out
        clear KEY1 x0 x1 x2 x3 x4 c1q c2q I1 HG B KM KS
        revert B1 KM1 KS1
        generalize wr.drewN nq = V2
        intro B1 KM1 KS1
        go_wp2_with fail
        go_roundw
        case rel => exact ⟨k + 1, by go_num, by omega, by rw [HS1.out], by rw [HO1.out], B1, KM1, KS1⟩
        case measure => simp [intOf]; omega
      | true =>
        have HS0 : Hid (secQ ⟨st, ev, starts, ars, ends⟩ ⟨st2, ev2, starts2, ars2, ends2⟩ (l.take (k + 1)) = (p8 || decide (0 < (endN ends2 ys).length))) := by show _ = _; rw [HS.out, he, Bool.true_and]
        have HO0 : Hid (opnQ ⟨st, ev, starts, ars, ends⟩ ⟨st2, ev2, starts2, ars2, ends2⟩ (l.take (k + 1)) = (p9 || !decide (0 < (endN ends2 ys).length))) := by show _ = _; rw [HO.out, he, Bool.true_and]
        rw [he] at KEY1
        clear he
        go_quiet (first | (go_at_call 53; exact Calls.quiet_of_same (KEY1.out _)))
        have B1 : Hid (Below w.heap.size w (wr.drewN nq)) := below_drewN B.out nq
        have KM1 : Hid (Blk (wr.drewN nq) w.heap.size 25 (mcells ⟨st, ev, starts, ars, ends⟩ ⟨a1, c1, a2, c2, a3, c3⟩)) := KM.out
        have KS1 : Hid (Blk (wr.drewN nq) (w.heap.size + 1) 25 (mcells ⟨st2, ev2, starts2, ars2, ends2⟩ ⟨d1, e1, d2, e2, d3, e3⟩)) := KS.out
        have I1' : Hid (At (wr.drewN nq) sy ys) := At.drewN I1.out nq
        have HG1 : Hid (g < (wr.drewN nq).heap.size) := HG.out
        replace c2q : (wr.drewN nq).cell? ⟨g, o + k * 2 + 1, none⟩ = some (.slice sy ys.length sk) := c2q
        clear KEY1 x0 x1 x2 x3 x4 c1q I1 HG B KM KS
        revert B1 KM1 KS1 I1' HG1 c2q
        generalize wr.drewN nq = V2
        intro B1 KM1 KS1 I1' HG1 c2q
        go_wp2_with fail
        refine wp_region_held_drew (S := fun w' => w'.cell? ⟨g, o + k * 2 + 1, none⟩ = some (.slice sy ys.length sk) ∧ w'.cell? ⟨w.heap.size + 1, 4, none⟩ = some (.slice d3 ends2.length e3)) (by kernel_rfl) ⟨c2q, KS1.out.cell 4 rfl⟩ (fun hS => ?_)
        have bd : Below V2.heap.size V2 V2.drew := (Below.refl _ _).drew
        replace B1 := Hid.of (B1.out.trans (bd.mono B1.out.size))
        replace KM1 := Hid.of (KM1.out.below bd KM1.out.lt)
        replace KS1 := Hid.of (KS1.out.below bd KS1.out.lt)
        replace I1' := Hid.of (I1'.out.below bd (Nat.le_refl _))
        replace c2q : V2.drew.cell? ⟨g, o + k * 2 + 1, none⟩ = some (.slice sy ys.length sk) := c2q
        replace HG1 : Hid (g < V2.drew.heap.size) := HG1.out
        clear bd
        revert hS B1 KM1 KS1 I1' c2q HG1
        generalize V2.drew = Y
        intro hS B1 KM1 KS1 I1' c2q HG1
        refine wpAnyH_take (i := 0) (v := .slice (some ⟨g, o, none⟩) l.length lc) rfl (by kernel_rfl) (by kernel_rfl) (by kernel_rfl) (fun _ _ _ h => h) (Or.inl ⟨by kernel_rfl, fun w' hw' => by obtain ⟨q0, q1⟩ := hw'; go_simp⟩) hS ?_
        refine wpAnyH_take (i := 1) (v := .int .i64 k) rfl (by kernel_rfl) (by kernel_rfl) (by kernel_rfl) (fun _ _ _ h => h) (Or.inl ⟨by kernel_rfl, fun w' hw' => by obtain ⟨q0, q1⟩ := hw'; go_simp⟩) hS ?_
        refine wpAnyH_take (i := 2) (v := .pointer (some ⟨g, o + k * 2, none⟩)) rfl (by kernel_rfl) (by kernel_rfl) (by kernel_rfl) (fun _ _ _ h => h) (Or.inl ⟨by kernel_rfl, fun w' hw' => by obtain ⟨q0, q1⟩ := hw'; go_simp⟩) hS ?_
        refine wpAnyH_take (i := 3) (v := .pointer (some ⟨g, o + k * 2 + 1, none⟩)) rfl (by kernel_rfl) (by kernel_rfl) (by kernel_rfl) (fun _ _ _ h => h) (Or.inl ⟨by kernel_rfl, fun w' hw' => by obtain ⟨q0, q1⟩ := hw'; go_simp⟩) hS ?_
        refine wpAnyH_take (i := 4) (v := .slice sy ys.length sk) rfl (by kernel_rfl) (by kernel_rfl) (by kernel_rfl) (fun _ _ _ h => h) (Or.inl ⟨by kernel_rfl, fun w' hw' => by obtain ⟨q0, q1⟩ := hw'; go_simp⟩) hS ?_
        refine wpAnyH_take (i := 5) (v := .pointer (some ⟨w.heap.size + 1, 4, none⟩)) rfl (by kernel_rfl) (by kernel_rfl) (by kernel_rfl) (fun _ _ _ h => h) (Or.inl ⟨by kernel_rfl, fun w' hw' => by obtain ⟨q0, q1⟩ := hw'; go_simp⟩) hS ?_
        refine wpAnyH_take (i := 6) (v := .slice d3 ends2.length e3) rfl (by kernel_rfl) (by kernel_rfl) (by kernel_rfl) (fun _ _ _ h => h) (Or.inl ⟨by kernel_rfl, fun w' hw' => by obtain ⟨q0, q1⟩ := hw'; go_simp⟩) hS ?_
        simp only [Act.put, List.setIfInBounds_toArray]
        refine wpAnyH_ready (rs := [7]) (by kernel_rfl) (by simp) ?_
        refine AllReadyH.cons rfl (fun K' hK' => ?_) AllReadyH.nil
        clear hS
        go_simp
        refine (only_any sy d3 sk e3 ys ends2 true Y I1'.out (Nat.le_trans hyl.out (by decide)) (hms.out.e.below B1.out (Nat.le_refl _)) el2.out).mono ?_
        rintro e Y1 ⟨oa, oc, rfl, -, -, hb⟩
        replace B1 := Hid.of (B1.out.trans (hb.mono B1.out.size))
        replace KM1 := Hid.of (KM1.out.below hb KM1.out.lt)
        replace KS1 := Hid.of (KS1.out.below hb KS1.out.lt)
        replace c2q := (hb.cell (p := ⟨g, o + k * 2 + 1, none⟩) HG1.out).trans c2q
        obtain ⟨E, HE⟩ : ∃ E, Hid (E = endN ends2 ys) := ⟨_, rfl⟩
        rw [show (ys.filter fun n => hasB ends2 n == true) = E from HE.out.symm]
        rw [← HE.out] at HS0 HO0
        refine hK'.out _ _ ⟨c2q, KS1.out.cell 4 rfl⟩ (fun hS => ?_)
        clear hK' K' hb c2q HG1 I1'
        refine wpAnyH_take (i := 8) (v := .slice oa E.length oc) rfl (by kernel_rfl) (by kernel_rfl) (by kernel_rfl) (fun _ _ _ h => h) (Or.inl ⟨by kernel_rfl, fun w' hw' => by obtain ⟨q0, q1⟩ := hw'; go_simp⟩) hS ?_
        refine wpAnyH_done (by kernel_rfl) ?_ _
        clear hS
        by_cases hE : 0 < E.length
        · have hEI : decide ((0 : Int) < (E.length : Int)) = true := by rw [decide_eq_true_eq]; omega
          have HS1 : Hid (secQ ⟨st, ev, starts, ars, ends⟩ ⟨st2, ev2, starts2, ars2, ends2⟩ (l.take (k + 1)) = true) := by show _ = _; rw [HS0.out, decide_eq_true hE]; simp
          have HO1 : Hid (opnQ ⟨st, ev, starts, ars, ends⟩ ⟨st2, ev2, starts2, ars2, ends2⟩ (l.take (k + 1)) = p9) := by show _ = _; rw [HO0.out, decide_eq_true hE]; simp
          go_wp2_with fail
          go_roundw
          case rel => exact ⟨k + 1, by go_num, by omega, by rw [HS1.out], by rw [HO1.out], B1, KM1, KS1⟩
          case measure => simp [intOf]; omega
        · have hEI : decide ((0 : Int) < (E.length : Int)) = false := by rw [decide_eq_false_iff_not]; omega
          have hE0 : E.length = 0 := by omega
          have HS1 : Hid (secQ ⟨st, ev, starts, ars, ends⟩ ⟨st2, ev2, starts2, ars2, ends2⟩ (l.take (k + 1)) = p8) := by show _ = _; rw [HS0.out, decide_eq_false hE]; simp
          have HO1 : Hid (opnQ ⟨st, ev, starts, ars, ends⟩ ⟨st2, ev2, starts2, ars2, ends2⟩ (l.take (k + 1)) = true) := by show _ = _; rw [HO0.out, decide_eq_false hE]; simp
          go_wp2_with fail
          go_roundw
          case rel => exact ⟨k + 1, by go_num, by omega, by rw [HS1.out], by rw [HO1.out], B1, KM1, KS1⟩
          case measure => simp [intOf]; omega
    · have hkD : decide ((k : Int) < (l.length : Int)) = false := by simp; omega
      rw [List.take_of_length_le (by omega)] at H8 H9
      go_wp2_with fail
      exact bodyPost_ret (v := .tuple #[.bool p8, .bool p9]) (by simp [results, go_sem]) rfl ⟨by rw [H8.out, H9.out], B.out⟩

theorem rqjudge_any (m s : Mach) (lm ls : ML) (n : Nat) (la : Option Addr) (lc : Nat) (l : List Pla) (w : World) (hma : MAt w m lm) (hms : MAt w s ls) (hn : n ≤ w.heap.size) (hv : AtQ n w la l) (hll : l.length ≤ 4096) (hsz : ∀ x ∈ l, x.2.length ≤ 4096) :
    Calls Tryd.prog 45 #[mval m lm, mval s ls, .slice la l.length lc] w fun e w' => e = .returned (.tuple #[.bool (secQ m s l), .bool (opnQ m s l)]) ∧ Below w.heap.size w w' := by
  obtain ⟨st, ev, starts, ars, ends⟩ := m
  obtain ⟨st2, ev2, starts2, ars2, ends2⟩ := s
  obtain ⟨a1, c1, a2, c2, a3, c3⟩ := lm
  obtain ⟨d1, e1, d2, e2, d3, e3⟩ := ls
  exact rqjudge_go st ev starts ars ends a1 c1 a2 c2 a3 c3 st2 ev2 starts2 ars2 ends2 d1 e1 d2 e2 d3 e3 n la lc l w (Hid.of hma) (Hid.of hms) hn (Hid.of hv) hll (Hid.of hsz)

end Go.Proofs.YtgebfkmfhpcdhaaDoor
namespace Go.Proofs.YtgebfkmfhpcdhaaDoor
open Go.RowKit
set_option linter.unusedVariables false

theorem Tryd.infoRowQ : (Tryd.prog.info? 60).map (fun i => (i.zero, i.size, i.bytes)) = some (some (.slice none 0 0), 1, 24) := by kernel_rfl
theorem Tryd.infoRowI : (Tryd.prog.info? 22).map (fun i => (i.zero, i.size, i.bytes)) = some (some (.slice none 0 0), 1, 24) := by kernel_rfl

/-- All blocks are as they were but those of one type from n on. -/
structure KepT (T0 : TypeId) (n : Nat) (W W' : World) : Prop where
  sz : W.heap.size ≤ W'.heap.size
  low : ∀ j, j < n → W'.heap[j]? = W.heap[j]?
  ty : ∀ (g : Nat) (cs : Array Value) (t : TypeId), t ≠ T0 → W.heap[g]? = some (.cells cs t (0, 0)) → W'.heap[g]? = W.heap[g]?
theorem kepT_grown {T0 : TypeId} {n B s k : Nat} {W W2 : World} {v : Value} {vs : List Value} (ho : W.ownsRow B T0 s v k vs) (g : W.grownBy W2 v.ownBlock) (hn : n ≤ B) (hB : B ≤ W.heap.size) : KepT T0 n W W2 := by
  refine ⟨g.size, fun j hj => g.block j (by omega) (fun e => by have := (World.ownsRow.lt ho j e.symm).1; omega), fun q cs t ht hq => g.block q (Array.getElem?_eq_some_iff.1 hq).1 (fun e => ?_)⟩
  obtain ⟨c2, h2⟩ := own_type ho e.symm
  rw [hq] at h2; cases h2; exact ht rfl
theorem AtQ.kep {T0 : TypeId} {n : Nat} {W W' : World} {a : Option Addr} {l : List Pla} (h : AtQ n W a l) (k : KepT T0 n W W') (h1 : (3 : TypeId) ≠ T0) (h2 : (140 : TypeId) ≠ T0) : AtQ n W' a l :=
  h.kept k.sz k.low (fun g cs hg => k.ty g cs _ h1 hg) (fun g cs hg => k.ty g cs _ h2 hg)
theorem InnW.kep {T0 : TypeId} {n : Nat} {W W' : World} {x : Value} {xs : List Int} (h : InnW n W x xs) (k : KepT T0 n W W') (h1 : (3 : TypeId) ≠ T0) : InnW n W' x xs :=
  h.kept k.sz k.low (fun g cs hg => k.ty g cs _ h1 hg)
theorem kepT_below {T0 : TypeId} {n : Nat} {W W' : World} (hb : Below W.heap.size W W') (hn : n ≤ W.heap.size) : KepT T0 n W W' :=
  ⟨hb.size, fun j hj => hb.block j (by omega), fun g cs t _ hg => hb.block g (Array.getElem?_eq_some_iff.1 hg).1⟩

/-- A row of whereabouts. -/
def OwnQQ (n : Nat) (W : World) (B : Nat) (v : Value) (QL : List (List Pla)) : Prop := ∃ vs : List Value, W.ownsRow B 60 1 v QL.length vs ∧ ∀ (j : Nat) (l : List Pla), QL[j]? = some l → ∃ a c, vs[j]? = some (.slice a l.length c) ∧ AtQ n W a l
/-- A row of lists. -/
def OwnV (n : Nat) (W : World) (B : Nat) (v : Value) (LL : List (List Int)) : Prop := ∃ vs : List Value, W.ownsRow B 22 1 v LL.length vs ∧ ∀ (j : Nat) (xs : List Int), LL[j]? = some xs → ∃ x, vs[j]? = some x ∧ InnW n W x xs
section
variable {n : Nat} {W : World} {B : Nat} {v : Value}
theorem OwnQQ.form {QL : List (List Pla)} (h : OwnQQ n W B v QL) : ∃ a c, v = .slice a QL.length c := by
  obtain ⟨vs, ho, -⟩ := h
  obtain ⟨a, c, e, -⟩ := own_form2 ho
  exact ⟨a, c, e⟩
theorem OwnV.form {LL : List (List Int)} (h : OwnV n W B v LL) : ∃ a c, v = .slice a LL.length c := by
  obtain ⟨vs, ho, -⟩ := h
  obtain ⟨a, c, e, -⟩ := own_form2 ho
  exact ⟨a, c, e⟩
theorem OwnQQ.get {QL : List (List Pla)} (h : OwnQQ n W B v QL) {j : Nat} {l : List Pla} (hj : QL[j]? = some l) : ∃ g cap a c, v = .slice (some ⟨g, 0, none⟩) QL.length cap ∧ g < W.heap.size ∧ W.cell? ⟨g, j, none⟩ = some (.slice a l.length c) ∧ AtQ n W a l := by
  obtain ⟨vs, ho, hi⟩ := h
  rcases ho.2 with ⟨rfl, hn⟩ | ⟨g, cap, cur, rfl, hg, hh, hnc, hcm, hcs, ht⟩
  · have := (List.getElem?_eq_some_iff.1 hj).1; omega
  · obtain ⟨a, c, h1, h2⟩ := hi j l hj
    have hc := ho.cells (g := g) rfl j _ h1
    rw [addr0_add, Nat.zero_add] at hc
    exact ⟨g, cap, a, c, rfl, (Array.getElem?_eq_some_iff.1 hh).1, hc, h2⟩
theorem OwnV.get {LL : List (List Int)} (h : OwnV n W B v LL) {j : Nat} {xs : List Int} (hj : LL[j]? = some xs) : ∃ g cap a c, v = .slice (some ⟨g, 0, none⟩) LL.length cap ∧ g < W.heap.size ∧ W.cell? ⟨g, j, none⟩ = some (.slice a xs.length c) ∧ InnW n W (.slice a xs.length c) xs := by
  obtain ⟨vs, ho, hi⟩ := h
  rcases ho.2 with ⟨rfl, hn⟩ | ⟨g, cap, cur, rfl, hg, hh, hnc, hcm, hcs, ht⟩
  · have := (List.getElem?_eq_some_iff.1 hj).1; omega
  · obtain ⟨x, h1, h2⟩ := hi j xs hj
    have hc := ho.cells (g := g) rfl j _ h1
    rw [addr0_add, Nat.zero_add] at hc
    obtain ⟨a, c, rfl, -⟩ := h2.at
    exact ⟨g, cap, a, c, rfl, (Array.getElem?_eq_some_iff.1 hh).1, hc, h2⟩
theorem OwnQQ.kep {T0 : TypeId} {W' : World} {QL : List (List Pla)} (h : OwnQQ n W B v QL) (k : KepT T0 n W W') (h0 : (60 : TypeId) ≠ T0) (h1 : (3 : TypeId) ≠ T0) (h2 : (140 : TypeId) ≠ T0) : OwnQQ n W' B v QL := by
  obtain ⟨vs, ho, hi⟩ := h
  refine ⟨vs, own_same ho (fun q hq => ?_), fun j l hl => ?_⟩
  · obtain ⟨cs, hc⟩ := own_type ho hq
    exact k.ty q cs _ h0 hc
  · obtain ⟨a, c, e1, e2⟩ := hi j l hl
    exact ⟨a, c, e1, e2.kep k h1 h2⟩
theorem OwnV.kep {T0 : TypeId} {W' : World} {LL : List (List Int)} (h : OwnV n W B v LL) (k : KepT T0 n W W') (h0 : (22 : TypeId) ≠ T0) (h1 : (3 : TypeId) ≠ T0) : OwnV n W' B v LL := by
  obtain ⟨vs, ho, hi⟩ := h
  refine ⟨vs, own_same ho (fun q hq => ?_), fun j l hl => ?_⟩
  · obtain ⟨cs, hc⟩ := own_type ho hq
    exact k.ty q cs _ h0 hc
  · obtain ⟨x, e1, e2⟩ := hi j l hl
    exact ⟨x, e1, e2.kep k h1⟩
/-- A row of lists, where another row of lists was appended to. -/
theorem OwnV.other {B' k : Nat} {W' : World} {LL : List (List Int)} {v' : Value} {vs' : List Value} (h : OwnV n W B v LL) (ho' : W.ownsRow B' 22 1 v' k vs') (g : W.grownBy W' v'.ownBlock) (hn : n ≤ B') (hB : B' ≤ W.heap.size) (hne : v.ownBlock = none ∨ v.ownBlock ≠ v'.ownBlock) : OwnV n W' B v LL := by
  have hk := kepT_grown ho' g hn hB
  obtain ⟨vs, ho, hi⟩ := h
  refine ⟨vs, own_same ho (fun q hq => g.block q (World.ownsRow.lt ho q hq).2 (fun e => ?_)), fun j l hl => ?_⟩
  · rcases hne with e2 | e2
    · rw [hq] at e2; cases e2
    · exact e2 (hq.trans e)
  · obtain ⟨x, e1, e2⟩ := hi j l hl
    exact ⟨x, e1, e2.kep hk (by decide)⟩
theorem OwnQQ.below {W' : World} {QL : List (List Pla)} (h : OwnQQ n W B v QL) (hb : Below W.heap.size W W') (hn : n ≤ W.heap.size) : OwnQQ n W' B v QL := h.kep (T0 := 25) (kepT_below hb hn) (by decide) (by decide) (by decide)
theorem OwnV.below {W' : World} {LL : List (List Int)} (h : OwnV n W B v LL) (hb : Below W.heap.size W W') (hn : n ≤ W.heap.size) : OwnV n W' B v LL := h.kep (T0 := 25) (kepT_below hb hn) (by decide) (by decide)
theorem OwnQQ.push {W2 : World} {v' : Value} {QL : List (List Pla)} {l : List Pla} {a : Option Addr} {c : Nat} {vs : List Value} (hn : n ≤ B) (hB : B ≤ W.heap.size) (ho : W.ownsRow B 60 1 v QL.length vs) (hi : ∀ (j : Nat) (l : List Pla), QL[j]? = some l → ∃ a c, vs[j]? = some (.slice a l.length c) ∧ AtQ n W a l) (hl : AtQ n W a l) (o1 : W2.ownsRow B 60 1 v' (QL.length + 1) (vs ++ [.slice a l.length c])) (g : W.grownBy W2 v.ownBlock) : OwnQQ n W2 B v' (QL ++ [l]) := by
  have hk := kepT_grown ho g hn hB
  have hlen : vs.length = QL.length := by rw [ho.1, Nat.mul_one]
  refine ⟨vs ++ [.slice a l.length c], by rw [List.length_append]; exact o1, fun j q hq => ?_⟩
  by_cases hj : j < QL.length
  · rw [List.getElem?_append_left hj] at hq
    obtain ⟨a', c', e1, e2⟩ := hi j q hq
    exact ⟨a', c', by rw [List.getElem?_append_left (by omega)]; exact e1, e2.kep hk (by decide) (by decide)⟩
  · have hj' := (List.getElem?_eq_some_iff.1 hq).1
    simp at hj'
    have e : j = QL.length := by omega
    subst e
    rw [List.getElem?_append_right (Nat.le_refl _)] at hq
    have : l = q := by simpa using hq
    subst this
    exact ⟨a, c, by rw [List.getElem?_append_right (by omega), hlen, Nat.sub_self]; rfl, hl.kep hk (by decide) (by decide)⟩
theorem OwnV.push {W2 : World} {v' x : Value} {LL : List (List Int)} {xs : List Int} {vs : List Value} (hn : n ≤ B) (hB : B ≤ W.heap.size) (ho : W.ownsRow B 22 1 v LL.length vs) (hi : ∀ (j : Nat) (xs : List Int), LL[j]? = some xs → ∃ x, vs[j]? = some x ∧ InnW n W x xs) (hx : InnW n W x xs) (o1 : W2.ownsRow B 22 1 v' (LL.length + 1) (vs ++ [x])) (g : W.grownBy W2 v.ownBlock) : OwnV n W2 B v' (LL ++ [xs]) := by
  have hk := kepT_grown ho g hn hB
  have hlen : vs.length = LL.length := by rw [ho.1, Nat.mul_one]
  refine ⟨vs ++ [x], by rw [List.length_append]; exact o1, fun j q hq => ?_⟩
  by_cases hj : j < LL.length
  · rw [List.getElem?_append_left hj] at hq
    obtain ⟨x', e1, e2⟩ := hi j q hq
    exact ⟨x', by rw [List.getElem?_append_left (by omega)]; exact e1, e2.kep hk (by decide)⟩
  · have hj' := (List.getElem?_eq_some_iff.1 hq).1
    simp at hj'
    have e : j = LL.length := by omega
    subst e
    rw [List.getElem?_append_right (Nat.le_refl _)] at hq
    have : xs = q := by simpa using hq
    subst this
    exact ⟨x, by rw [List.getElem?_append_right (by omega), hlen, Nat.sub_self]; rfl, hx.kep hk (by decide)⟩
theorem ownQQ_one {a : Option Addr} {c : Nat} {l : List Pla} (h : AtQ n W a l) (hn : n ≤ W.heap.size) (hB : B ≤ W.heap.size) : OwnQQ n (W.alloc (.cells #[.slice a l.length c] 60)) B (.slice (some ⟨W.heap.size, 0, none⟩) 1 1) [l] := by
  refine ⟨[.slice a l.length c], World.ownsRow_lit W (base := B) (e := 60) (size := 1) #[.slice a l.length c] 1 hB (by decide) rfl, fun j q hq => ?_⟩
  match j, hq with
  | 0, hq =>
    have : l = q := by simpa using hq
    subst this
    exact ⟨a, c, rfl, h.below ((Below.refl _ _).alloc (Nat.le_refl _) _) hn⟩
  | j + 1, hq => simp at hq
theorem ownV_one {x : Value} {xs : List Int} (h : InnW n W x xs) (hn : n ≤ W.heap.size) (hB : B ≤ W.heap.size) : OwnV n (W.alloc (.cells #[x] 22)) B (.slice (some ⟨W.heap.size, 0, none⟩) 1 1) [xs] := by
  refine ⟨[x], World.ownsRow_lit W (base := B) (e := 22) (size := 1) #[x] 1 hB (by decide) rfl, fun j q hq => ?_⟩
  match j, hq with
  | 0, hq =>
    have : xs = q := by simpa using hq
    subst this
    exact ⟨x, rfl, h.below ((Below.refl _ _).alloc (Nat.le_refl _) _) hn⟩
  | j + 1, hq => simp at hq
end


/-! Plain: the rows stand for what is found. -/
structure RepQ (m s : Mach) (QL : List (List Pla)) (l : List (List Pla × List Int)) : Prop where
  len : QL.length = l.length
  rep : ∀ (j : Nat) (q : List Pla), QL[j]? = some q → (q.Nodup ∧ ∀ y ∈ q, y ∈ allQ m s) ∧ ∃ x, l[j]? = some x ∧ x.1 = canG (allQ m s) q
theorem RepQ.at {m s : Mach} {QL : List (List Pla)} {l : List (List Pla × List Int)} (h : RepQ m s QL l) {k : Nat} {x : List Pla × List Int} (hk : l[k]? = some x) : ∃ q, QL[k]? = some q ∧ (q.Nodup ∧ ∀ y ∈ q, y ∈ allQ m s) ∧ x.1 = canG (allQ m s) q := by
  have hlt := (List.getElem?_eq_some_iff.1 hk).1
  have hlt' : k < QL.length := by rw [h.len]; exact hlt
  obtain ⟨h1, y, h2, h3⟩ := h.rep k _ (List.getElem?_eq_getElem hlt')
  rw [hk] at h2
  have h2 := Option.some.inj h2
  subst h2
  exact ⟨_, List.getElem?_eq_getElem hlt', h1, h3⟩
theorem RepQ.snoc {m s : Mach} {QL : List (List Pla)} {l : List (List Pla × List Int)} (h : RepQ m s QL l) {q : List Pla} {x : List Pla × List Int} (h1 : q.Nodup ∧ ∀ y ∈ q, y ∈ allQ m s) (h2 : x.1 = canG (allQ m s) q) : RepQ m s (QL ++ [q]) (l ++ [x]) := by
  refine ⟨by simp [h.len], fun k p hk => ?_⟩
  by_cases hlt : k < QL.length
  · rw [List.getElem?_append_left hlt] at hk
    obtain ⟨g1, y, g2, g3⟩ := h.rep k p hk
    exact ⟨g1, y, by rw [List.getElem?_append_left (by rw [← h.len]; exact hlt)]; exact g2, g3⟩
  · have hk' := (List.getElem?_eq_some_iff.1 hk).1
    simp at hk'
    have e : k = QL.length := by omega
    subst e
    rw [List.getElem?_append_right (Nat.le_refl _)] at hk
    have : q = p := by simpa using hk
    subst this
    exact ⟨h1, x, by rw [h.len, List.getElem?_append_right (Nat.le_refl _)]; simp, h2⟩
theorem RepQ.one {m s : Mach} {q : List Pla} {x : List Pla × List Int} (h1 : q.Nodup ∧ ∀ y ∈ q, y ∈ allQ m s) (h2 : x.1 = canG (allQ m s) q) : RepQ m s [q] [x] := RepQ.snoc (QL := []) (l := []) ⟨rfl, fun k S h => by simp at h⟩ h1 h2
theorem same_can {m s : Mach} {q q' : List Pla} (h : q.Nodup ∧ ∀ y ∈ q, y ∈ allQ m s) (h' : q'.Nodup ∧ ∀ y ∈ q', y ∈ allQ m s) : sameQ q q' = decide (canG (allQ m s) q = canG (allQ m s) q') := by
  rw [Bool.eq_iff_iff, sameQ_iff h.1 h'.1, decide_eq_true_eq, canG_iff h.2 h'.2]
theorem can_see {m s : Mach} (hm : mayB m = true) (hs : mayB s = true) (zm : m.st ≤ 6) (zs : s.st ≤ 4) {seen : List Int} {q : List Pla} (h : ∀ y ∈ q, y ∈ allQ m s) (e : Nat) : qD m s seen (canG (allQ m s) q) e = canG (allQ m s) (seeQ m s seen q (seen[e]?.getD 0)) := by
  unfold qD
  exact (canG_iff (seeQ_in hm hs zm zs).2 (seeQ_in hm hs zm zs).2).2 (see_same hm hs zm zs (fun x => mem_canG h x) _)
end Go.Proofs.YtgebfkmfhpcdhaaDoor
