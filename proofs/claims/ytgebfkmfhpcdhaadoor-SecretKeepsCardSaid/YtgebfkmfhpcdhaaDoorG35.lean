/-
  The walks of jalousieref12.First and After.
  The walk of jalousieref12.After.
  Plain: the search for the least list that leaks what a machine did. No program, no model.
  The walk of jalousieref12.Judge.
  What secret.Leak must leave.
  The walk of secret.refuse.
-/
import Derived.Test.YtgebfkmfhpcdhaaDoorG34
import Derived.Test.YtgebfkmfhpcdhaaDoorG31
import Derived.Test.YtgebfkmfhpcdhaaDoorG33
import Derived.Deep.RegionHeld3
import Derived.Test.YtgebfkmfhpcdhaaDoorG05
import Derived.Test.YtgebfkmfhpcdhaaDoorCR9Fwd
import Derived.Test.YtgebfkmfhpcdhaaDoorG10
import Derived.Test.YtgebfkmfhpcdhaaDoorG08
import Derived.Test.YtgebfkmfhpcdhaaDoorG17
namespace Go.Proofs.YtgebfkmfhpcdhaaDoor
open Go.RowKit
set_option linter.unusedVariables false

def startQ (starts starts2 : List Int) : List Pla := starts.map fun x => (x, starts2)
theorem startQ_take {starts starts2 : List Int} {k : Nat} {x : Int} (h : k < starts.length) (hx : Hid (x = starts[k]?.getD 0)) : startQ (starts.take (k + 1)) starts2 = startQ (starts.take k) starts2 ++ [(x, starts2)] := by
  unfold startQ
  rw [List.take_add_one, List.getElem?_eq_getElem h, Option.toList_some, List.map_append, hx.out, List.getElem?_eq_getElem h]; rfl
theorem startQ_len (starts starts2 : List Int) (k : Nat) : (startQ (starts.take k) starts2).length ≤ starts.length := by unfold startQ; rw [List.length_map, List.length_take]; omega

set_option maxRecDepth 100000 in
set_option maxHeartbeats 8000000 in
theorem rqfirst_go (st ev : Int) (starts : List Int) (ars : List Arr) (ends : List Int) (a1 : Option Addr) (c1 : Nat) (a2 : Option Addr) (c2 : Nat) (a3 : Option Addr) (c3 : Nat) (st2 ev2 : Int) (starts2 : List Int) (ars2 : List Arr) (ends2 : List Int) (d1 : Option Addr) (e1 : Nat) (d2 : Option Addr) (e2 : Nat) (d3 : Option Addr) (e3 : Nat) (sa : Option Addr) (sc : Nat) (seen : List Int) (w0 w : World) (hb0 : Hid (Below w0.heap.size w0 w)) (hs0 : Hid (MAt w0 ⟨st2, ev2, starts2, ars2, ends2⟩ ⟨d1, e1, d2, e2, d3, e3⟩)) (hma : Hid (MAt w ⟨st, ev, starts, ars, ends⟩ ⟨a1, c1, a2, c2, a3, c3⟩)) (hms : Hid (MAt w ⟨st2, ev2, starts2, ars2, ends2⟩ ⟨d1, e1, d2, e2, d3, e3⟩)) (hse : Hid (At w sa seen)) (hsl : Hid (seen.length ≤ maxLen)) (mm : Hid (mayB ⟨st, ev, starts, ars, ends⟩ = true)) (ms : Hid (mayB ⟨st2, ev2, starts2, ars2, ends2⟩ = true)) (zm : Hid (st ≤ 6)) (zs : Hid (st2 ≤ 4)) :
    Calls Tryd.prog 95 #[mval ⟨st, ev, starts, ars, ends⟩ ⟨a1, c1, a2, c2, a3, c3⟩, mval ⟨st2, ev2, starts2, ars2, ends2⟩ ⟨d1, e1, d2, e2, d3, e3⟩, .slice sa seen.length sc] w fun e w' => ∃ v', e = .returned v' ∧ OwnQ w0.heap.size w' w.heap.size v' (firstQ ⟨st, ev, starts, ars, ends⟩ ⟨st2, ev2, starts2, ars2, ends2⟩ seen) ∧ Below w.heap.size w w' := by
  have hn0 : w0.heap.size ≤ w.heap.size := hb0.out.size
  have hsi := may_starts mm.out
  dsimp only at hsi
  have hsln : starts.length ≤ 6 := by
    have hz6 := zm.out
    exact nodup_len 6 _ (inc_nodup hsi.1) (fun x hx => by have := hsi.2 x hx; omega)
  have HND : Hid ((startQ starts starts2).Nodup) := by
    have := inc_nodup hsi.1
    show List.Nodup _
    unfold startQ
    rw [List.nodup_iff_pairwise_ne, List.pairwise_map]
    exact List.Pairwise.imp (fun hab e => hab (by injection e)) (List.nodup_iff_pairwise_ne.1 this)
  have HIN : Hid (∀ x ∈ startQ starts starts2, x ∈ allQ ⟨st, ev, starts, ars, ends⟩ ⟨st2, ev2, starts2, ars2, ends2⟩) := fun x hx => by
    obtain ⟨y, hy, rfl⟩ := List.mem_map.1 hx
    exact start_in mm.out ms.out zm.out zs.out hy
  clear hsi
  obtain ⟨i0, hi, hz0, hz1, hz2⟩ := info_parts Tryd.infoAtQ
  have HW0 : Hid (WQ w ((w.alloc (.cells (mcells ⟨st, ev, starts, ars, ends⟩ ⟨a1, c1, a2, c2, a3, c3⟩) 25)).alloc (.cells (mcells ⟨st2, ev2, starts2, ars2, ends2⟩ ⟨d1, e1, d2, e2, d3, e3⟩) 25)) w.heap.size w0.heap.size ⟨st, ev, starts, ars, ends⟩ ⟨st2, ev2, starts2, ars2, ends2⟩ ⟨a1, c1, a2, c2, a3, c3⟩ ⟨d1, e1, d2, e2, d3, e3⟩ (.slice none 0 0) []) := by
    have b2 : Below w.heap.size w ((w.alloc (.cells (mcells ⟨st, ev, starts, ars, ends⟩ ⟨a1, c1, a2, c2, a3, c3⟩) 25)).alloc (.cells (mcells ⟨st2, ev2, starts2, ars2, ends2⟩ ⟨d1, e1, d2, e2, d3, e3⟩) 25)) := ((Below.refl _ _).alloc (Nat.le_refl _) _).alloc (by simp) _
    refine ⟨ownQ_nil _ _ _, b2, (Blk.new w _ _).alloc _, ?_, b2.size, hn0⟩
    have := Blk.new (w.alloc (.cells (mcells ⟨st, ev, starts, ars, ends⟩ ⟨a1, c1, a2, c2, a3, c3⟩) 25)) 25 (mcells ⟨st2, ev2, starts2, ars2, ends2⟩ ⟨d1, e1, d2, e2, d3, e3⟩)
    rwa [World.size_alloc] at this
  have ISP : Hid (∀ W, Below w.heap.size w W → InnW w0.heap.size W (.slice d1 starts2.length e1) starts2) := fun W hb => innW_at hs0.out.s (Nat.le_trans hs0.out.s1 hs0.out.s2) hs0.out.s3 (hb0.out.trans (hb.mono hn0))
  go_enter Tryd.func95, Tryd.ntmps95
  go_wp2_with fail
  revert HW0
  generalize ((w.alloc (.cells (mcells ⟨st, ev, starts, ars, ends⟩ ⟨a1, c1, a2, c2, a3, c3⟩) 25)).alloc (.cells (mcells ⟨st2, ev2, starts2, ars2, ends2⟩ ⟨d1, e1, d2, e2, d3, e3⟩) 25)) = V0
  intro HW0
  go_loopw [7, 8] (fun v3 i wr => ∃ (k : Nat), i = .int .i64 k ∧ k ≤ starts.length ∧ Hid (WQ w wr w.heap.size w0.heap.size ⟨st, ev, starts, ars, ends⟩ ⟨st2, ev2, starts2, ars2, ends2⟩ ⟨a1, c1, a2, c2, a3, c3⟩ ⟨d1, e1, d2, e2, d3, e3⟩ v3 (startQ (starts.take k) starts2))) (fun _ i _ => starts.length - (intOf i).toNat)
  case atStart => exact ⟨0, rfl, Nat.zero_le _, HW0⟩
  case round =>
    clear HW0
    obtain ⟨k, rfl, hk, HW⟩ := hrel
    have hcl := startQ_len starts starts2 k
    by_cases hlt : k < starts.length
    · have hkD : decide ((k : Int) < (starts.length : Int)) = true := by simp; omega
      obtain ⟨b, off, x, hab, hbl, HX, hcx⟩ : ∃ (b off : Nat) (x : Int), a1 = some ⟨b, off, none⟩ ∧ b < w.heap.size ∧ Hid (x = starts[k]?.getD 0) ∧ w.cell? ⟨b, off + k, none⟩ = some (.int .i64 x) := by
        rcases hma.out.s with h0 | ⟨b, off, ha, hb, hc⟩
        · have : starts.length = 0 := by rw [show starts = [] from h0]; rfl
          omega
        · obtain ⟨x, hx, hcell⟩ := hc.at hlt
          exact ⟨b, off, x, ha, hb, hx, hcell⟩
      subst hab
      have HNX := Hid.of (startQ_take (starts2 := starts2) hlt HX)
      obtain ⟨cur, HC⟩ : ∃ cur, Hid (cur = startQ (starts.take k) starts2) := ⟨_, rfl⟩
      rw [← HC.out] at HW HNX hcl
      have CX : Hid (∀ W, Below w.heap.size w W → W.cell? ⟨b, off + k, none⟩ = some (.int .i64 x)) := fun W hb => (hb.cell (p := ⟨b, off + k, none⟩) hbl).trans hcx
      clear hcx
      obtain ⟨va, vc, hv3⟩ := HW.out.ow.form
      subst hv3
      obtain ⟨x0, x1, x2, x3, x4⟩ := mcell_at HW.out.km
      dsimp only at x0 x1 x2 x3 x4
      go_wp2_with fail
      have SA : Hid (∀ W, WQ w W w.heap.size w0.heap.size ⟨st, ev, starts, ars, ends⟩ ⟨st2, ev2, starts2, ars2, ends2⟩ ⟨some ⟨b, off, none⟩, c1, a2, c2, a3, c3⟩ ⟨d1, e1, d2, e2, d3, e3⟩ (.slice va cur.length vc) cur → W.cell? ⟨w.heap.size, 2, none⟩ = some (.slice (some ⟨b, off, none⟩) starts.length c1) ∧ W.cell? ⟨b, off + k, none⟩ = some (.int .i64 x) ∧ W.cell? ⟨w.heap.size + 1, 2, none⟩ = some (.slice d1 starts2.length e1)) := fun W h => ⟨h.km.cell 2 rfl, CX.out _ h.bel, h.ks.cell 2 rfl⟩
      have Q1 := Hid.of (HW.out.below (Below.refl _ wr).drew)
      refine wp_region_held_drew (S := fun w' => w'.cell? ⟨w.heap.size, 2, none⟩ = some (.slice (some ⟨b, off, none⟩) starts.length c1) ∧ w'.cell? ⟨b, off + k, none⟩ = some (.int .i64 x) ∧ w'.cell? ⟨w.heap.size + 1, 2, none⟩ = some (.slice d1 starts2.length e1)) (by kernel_rfl) (SA.out _ Q1.out) (fun hS => ?_)
      clear x0 x1 x2 x3 x4 HW
      revert hS Q1
      generalize wr.drew = Y
      intro Q1 hS
      refine wpAnyH_take (i := 0) (v := .slice va cur.length vc) rfl (by kernel_rfl) (by kernel_rfl) (by kernel_rfl) (fun _ _ _ h => h) (Or.inl ⟨by kernel_rfl, fun w' hw' => by obtain ⟨q0, q1, q2⟩ := hw'; go_simp⟩) hS ?_
      refine wpAnyH_take (i := 1) (v := .pointer (some ⟨w.heap.size, 2, none⟩)) rfl (by kernel_rfl) (by kernel_rfl) (by kernel_rfl) (fun _ _ _ h => h) (Or.inl ⟨by kernel_rfl, fun w' hw' => by obtain ⟨q0, q1, q2⟩ := hw'; go_simp⟩) hS ?_
      refine wpAnyH_take (i := 2) (v := .slice (some ⟨b, off, none⟩) starts.length c1) rfl (by kernel_rfl) (by kernel_rfl) (by kernel_rfl) (fun _ _ _ h => h) (Or.inl ⟨by kernel_rfl, fun w' hw' => by obtain ⟨q0, q1, q2⟩ := hw'; go_simp⟩) hS ?_
      refine wpAnyH_take (i := 3) (v := .int .i64 k) rfl (by kernel_rfl) (by kernel_rfl) (by kernel_rfl) (fun _ _ _ h => h) (Or.inl ⟨by kernel_rfl, fun w' hw' => by obtain ⟨q0, q1, q2⟩ := hw'; go_simp⟩) hS ?_
      refine wpAnyH_take (i := 4) (v := .pointer (some ⟨b, off + k, none⟩)) rfl (by kernel_rfl) (by kernel_rfl) (by kernel_rfl) (fun _ _ _ h => h) (Or.inl ⟨by kernel_rfl, fun w' hw' => by obtain ⟨q0, q1, q2⟩ := hw'; go_simp⟩) hS ?_
      refine wpAnyH_take (i := 5) (v := .int .i64 x) rfl (by kernel_rfl) (by kernel_rfl) (by kernel_rfl) (fun _ _ _ h => h) (Or.inl ⟨by kernel_rfl, fun w' hw' => by obtain ⟨q0, q1, q2⟩ := hw'; go_simp⟩) hS ?_
      refine wpAnyH_take (i := 6) (v := .pointer (some ⟨w.heap.size + 1, 2, none⟩)) rfl (by kernel_rfl) (by kernel_rfl) (by kernel_rfl) (fun _ _ _ h => h) (Or.inl ⟨by kernel_rfl, fun w' hw' => by obtain ⟨q0, q1, q2⟩ := hw'; go_simp⟩) hS ?_
      refine wpAnyH_take (i := 7) (v := .slice d1 starts2.length e1) rfl (by kernel_rfl) (by kernel_rfl) (by kernel_rfl) (fun _ _ _ h => h) (Or.inl ⟨by kernel_rfl, fun w' hw' => by obtain ⟨q0, q1, q2⟩ := hw'; go_simp⟩) hS ?_
      refine wpAnyH_take (i := 8) (v := .agg #[.int .i64 x, .slice d1 starts2.length e1]) rfl (by kernel_rfl) (by kernel_rfl) (by kernel_rfl) (fun _ _ _ h => h) (Or.inl ⟨by kernel_rfl, fun w' hw' => by obtain ⟨q0, q1, q2⟩ := hw'; go_simp⟩) hS ?_
      simp only [Act.put, List.setIfInBounds_toArray]
      refine wpAnyH_ready (rs := [9]) (by kernel_rfl) (by simp) ?_
      refine AllReadyH.cons rfl (fun K' hK' => ?_) AllReadyH.nil
      clear hS
      go_simp
      have bn : Below Y.heap.size Y (Y.alloc (.cells #[.int .i64 x, .slice d1 starts2.length e1] 140)) := (Below.refl _ _).alloc (Nat.le_refl _) _
      have Q2 := Hid.of (Q1.out.below bn)
      have CF : Hid (∀ j u, ([.int .i64 x, .slice d1 starts2.length e1] : List Value)[j]? = some u → (Y.alloc (.cells #[.int .i64 x, .slice d1 starts2.length e1] 140)).cell? ((⟨Y.heap.size, 0, none⟩ : Addr).add j) = some u) := cells_duoQ Y Y rfl _ _ _
      refine hK'.out _ _ (SA.out _ Q2.out) (fun hS => ?_)
      clear hK' K' bn Q1
      revert hS Q2 CF
      generalize Y.alloc (.cells #[.int .i64 x, .slice d1 starts2.length e1] 140) = Y2
      generalize Y.heap.size = pn
      intro Q2 CF hS
      refine wpAnyH_ready (rs := [10]) (by kernel_rfl) (by simp) ?_
      refine AllReadyH.cons rfl (fun K' hK' => ?_) AllReadyH.nil
      clear hS
      obtain ⟨vs, ho, hi'⟩ := Q2.out.ow
      have OZ := Hid.of (ISP.out _ Q2.out.bel)
      refine step_append_block rfl (.tmp 16) (.tmp 25) 60 rfl w.heap.size 140 i0 _ 2 32 Tryd.underlying60 hi hz0 hz1 hz2 rfl (by decide) _ _ _ rfl ho ⟨pn, 0, none⟩ 1 1 [.int .i64 x, .slice d1 starts2.length e1] rfl rfl CF.out (one_vals (x := (x, starts2)) OZ.out) (by decide) (by unfold maxLen; omega) (by omega) Q2.out.hB ?_
      intro v9 w9 o9 g9 n9
      have Q3 := Hid.of (WQ.push (x := (x, starts2)) Q2.out ho hi' OZ.out o9 g9)
      obtain ⟨va9, vc9, hv9⟩ := Q3.out.ow.form
      rw [List.length_append, List.length_cons, List.length_nil, Nat.zero_add] at hv9
      subst hv9
      refine hK'.out _ _ ⟨Q3.out.km.cell 2 rfl, CX.out _ Q3.out.bel, Q3.out.ks.cell 2 rfl⟩ (fun hS => ?_)
      clear hK' K' o9 g9 n9 ho hi' OZ Q2 CF SA
      refine wpAnyH_take (i := 11) (v := .slice va9 (cur.length + 1) vc9) rfl (by kernel_rfl) (by kernel_rfl) (by kernel_rfl) (fun _ _ _ h => h) (Or.inl ⟨by kernel_rfl, fun w' hw' => by obtain ⟨q0, q1, q2⟩ := hw'; go_simp⟩) hS ?_
      refine wpAnyH_done (by kernel_rfl) ?_ _
      clear hS
      go_wp2_with fail
      go_roundw
      case rel => exact ⟨k + 1, by go_num, by omega, by rw [HNX.out]; exact Q3⟩
      case measure => simp [intOf]; omega
    · have hkD : decide ((k : Int) < (starts.length : Int)) = false := by simp; omega
      rw [List.take_of_length_le (by omega)] at HW
      obtain ⟨cur, HC⟩ : ∃ cur, Hid (cur = startQ starts starts2) := ⟨_, rfl⟩
      rw [← HC.out] at HW HND HIN
      obtain ⟨va, vc, hv3⟩ := HW.out.ow.form
      subst hv3
      have KEY := Hid.of (rqwide_any ⟨st, ev, starts, ars, ends⟩ ⟨st2, ev2, starts2, ars2, ends2⟩ ⟨a1, c1, a2, c2, a3, c3⟩ ⟨d1, e1, d2, e2, d3, e3⟩ sa sc seen w hma.out hms.out hse.out hsl.out mm.out ms.out zm.out zs.out w0.heap.size w.heap.size (.slice va cur.length vc) cur wr HW.out.bel (Nat.le_refl _) hn0 HW.out.hB HW.out.ow HND.out HIN.out)
      obtain ⟨x0, x1, x2, x3, x4⟩ := mcell_at HW.out.km
      obtain ⟨y0, y1, y2, y3, y4⟩ := mcell_at HW.out.ks
      dsimp only at x0 x1 x2 x3 x4 y0 y1 y2 y3 y4
      go_wp2_with fail
      refine KEY.out.mono ?_
      rintro e W9 ⟨v9, rfl, o9, b9⟩
      have O9 : Hid (OwnQ w0.heap.size W9 w.heap.size v9 (firstQ ⟨st, ev, starts, ars, ends⟩ ⟨st2, ev2, starts2, ars2, ends2⟩ seen)) := by
        have : firstQ ⟨st, ev, starts, ars, ends⟩ ⟨st2, ev2, starts2, ars2, ends2⟩ seen = wideQ ⟨st, ev, starts, ars, ends⟩ ⟨st2, ev2, starts2, ars2, ends2⟩ seen cur := by rw [HC.out]; rfl
        rw [this]; exact o9
      have B9 := Hid.of (HW.out.bel.trans b9)
      clear o9 b9 KEY x0 x1 x2 x3 x4 y0 y1 y2 y3 y4
      go_wp2_with fail
      go_ret
      exact ⟨_, rfl, O9.out, B9.out⟩

theorem rqfirst_any (m s : Mach) (lm ls : ML) (sa : Option Addr) (sc : Nat) (seen : List Int) (w0 w : World) (hb0 : Below w0.heap.size w0 w) (hs0 : MAt w0 s ls) (hma : MAt w m lm) (hms : MAt w s ls) (hse : At w sa seen) (hsl : seen.length ≤ maxLen) (mm : mayB m = true) (ms : mayB s = true) (zm : m.st ≤ 6) (zs : s.st ≤ 4) :
    Calls Tryd.prog 95 #[mval m lm, mval s ls, .slice sa seen.length sc] w fun e w' => ∃ v', e = .returned v' ∧ OwnQ w0.heap.size w' w.heap.size v' (firstQ m s seen) ∧ Below w.heap.size w w' := by
  obtain ⟨st, ev, starts, ars, ends⟩ := m
  obtain ⟨st2, ev2, starts2, ars2, ends2⟩ := s
  obtain ⟨a1, c1, a2, c2, a3, c3⟩ := lm
  obtain ⟨d1, e1, d2, e2, d3, e3⟩ := ls
  exact rqfirst_go st ev starts ars ends a1 c1 a2 c2 a3 c3 st2 ev2 starts2 ars2 ends2 d1 e1 d2 e2 d3 e3 sa sc seen w0 w (Hid.of hb0) (Hid.of hs0) (Hid.of hma) (Hid.of hms) (Hid.of hse) (Hid.of hsl) (Hid.of mm) (Hid.of ms) (Hid.of zm) (Hid.of zs)

end Go.Proofs.YtgebfkmfhpcdhaaDoor
namespace Go.Proofs.YtgebfkmfhpcdhaaDoor
open Go.RowKit
set_option linter.unusedVariables false

theorem after_in {m s : Mach} (hm : mayB m = true) (hs : mayB s = true) (zm : m.st ≤ 6) (zs : s.st ≤ 4) (seen word : List Int) : (afterQ m s seen word).Nodup ∧ ∀ x ∈ afterQ m s seen word, x ∈ allQ m s := by
  unfold afterQ
  rcases List.eq_nil_or_concat word with e | ⟨a, b, e⟩
  · rw [e]; exact ⟨(first_in hm hs zm zs).1, (first_in hm hs zm zs).2.1⟩
  · rw [e, List.concat_eq_append, List.foldl_append]; exact seeQ_in hm hs zm zs
theorem after_take {m s : Mach} {seen word : List Int} {k : Nat} {x : Int} (h : k < word.length) (hx : Hid (x = word[k]?.getD 0)) : afterQ m s seen (word.take (k + 1)) = seeQ m s seen (afterQ m s seen (word.take k)) x := fold_take _ _ h hx
/-- Their rows are short. -/
theorem allQ_row {m s : Mach} {x : Pla} (h : x ∈ allQ m s) : x.2.length ≤ 4096 := by
  unfold allQ at h
  obtain ⟨y, -, h2⟩ := List.mem_flatMap.1 h
  obtain ⟨S, hS, rfl⟩ := List.mem_map.1 h2
  have key : ∀ n S, S ∈ subs n → S.length ≤ n := by
    intro n
    induction n with
    | zero => intro S hS; simp [subs] at hS; rw [hS]; simp
    | succ n ih =>
      intro S hS
      unfold subs at hS
      rcases List.mem_append.1 hS with q | q
      · have := ih S q; omega
      · obtain ⟨R, hR, rfl⟩ := List.mem_map.1 q
        have := ih R hR
        simp; omega
  have := key 4 S hS
  show S.length ≤ 4096
  omega

set_option maxRecDepth 100000 in
set_option maxHeartbeats 8000000 in
theorem rqafter_go (st ev : Int) (starts : List Int) (ars : List Arr) (ends : List Int) (a1 : Option Addr) (c1 : Nat) (a2 : Option Addr) (c2 : Nat) (a3 : Option Addr) (c3 : Nat) (st2 ev2 : Int) (starts2 : List Int) (ars2 : List Arr) (ends2 : List Int) (d1 : Option Addr) (e1 : Nat) (d2 : Option Addr) (e2 : Nat) (d3 : Option Addr) (e3 : Nat) (sa : Option Addr) (sc : Nat) (seen : List Int) (wa : Option Addr) (wc : Nat) (word : List Int) (w : World) (hma : Hid (MAt w ⟨st, ev, starts, ars, ends⟩ ⟨a1, c1, a2, c2, a3, c3⟩)) (hms : Hid (MAt w ⟨st2, ev2, starts2, ars2, ends2⟩ ⟨d1, e1, d2, e2, d3, e3⟩)) (hse : Hid (At w sa seen)) (hsl : Hid (seen.length ≤ maxLen)) (mm : Hid (mayB ⟨st, ev, starts, ars, ends⟩ = true)) (ms : Hid (mayB ⟨st2, ev2, starts2, ars2, ends2⟩ = true)) (zm : Hid (st ≤ 6)) (zs : Hid (st2 ≤ 4)) (hw : Hid (At w wa word)) (hwl : word.length ≤ maxLen) :
    Calls Tryd.prog 44 #[mval ⟨st, ev, starts, ars, ends⟩ ⟨a1, c1, a2, c2, a3, c3⟩, mval ⟨st2, ev2, starts2, ars2, ends2⟩ ⟨d1, e1, d2, e2, d3, e3⟩, .slice sa seen.length sc, .slice wa word.length wc] w fun e w' => ∃ a c, e = .returned (.slice a (afterQ ⟨st, ev, starts, ars, ends⟩ ⟨st2, ev2, starts2, ars2, ends2⟩ seen word).length c) ∧ AtQ w.heap.size w' a (afterQ ⟨st, ev, starts, ars, ends⟩ ⟨st2, ev2, starts2, ars2, ends2⟩ seen word) ∧ Below w.heap.size w w' := by
  have hwl2 : word.length ≤ 9223372036854775807 := hwl
  have h96 : Hid ((allQ ⟨st, ev, starts, ars, ends⟩ ⟨st2, ev2, starts2, ars2, ends2⟩).length ≤ 96) := allQ_len zm.out _
  have HIN : Hid (∀ u, (afterQ ⟨st, ev, starts, ars, ends⟩ ⟨st2, ev2, starts2, ars2, ends2⟩ seen u).length ≤ 96) := fun u => by
    obtain ⟨q1, q2⟩ := after_in mm.out ms.out zm.out zs.out seen u
    exact Nat.le_trans (nodup_sub q1 q2) h96.out
  have B0 : Hid (Below w.heap.size w ((w.alloc (.cells (mcells ⟨st, ev, starts, ars, ends⟩ ⟨a1, c1, a2, c2, a3, c3⟩) 25)).alloc (.cells (mcells ⟨st2, ev2, starts2, ars2, ends2⟩ ⟨d1, e1, d2, e2, d3, e3⟩) 25))) := ((Below.refl _ _).alloc (Nat.le_refl _) _).alloc (by simp) _
  have KM0 : Hid (Blk ((w.alloc (.cells (mcells ⟨st, ev, starts, ars, ends⟩ ⟨a1, c1, a2, c2, a3, c3⟩) 25)).alloc (.cells (mcells ⟨st2, ev2, starts2, ars2, ends2⟩ ⟨d1, e1, d2, e2, d3, e3⟩) 25)) w.heap.size 25 (mcells ⟨st, ev, starts, ars, ends⟩ ⟨a1, c1, a2, c2, a3, c3⟩)) := (Blk.new w _ _).alloc _
  have KS0 : Hid (Blk ((w.alloc (.cells (mcells ⟨st, ev, starts, ars, ends⟩ ⟨a1, c1, a2, c2, a3, c3⟩) 25)).alloc (.cells (mcells ⟨st2, ev2, starts2, ars2, ends2⟩ ⟨d1, e1, d2, e2, d3, e3⟩) 25)) (w.heap.size + 1) 25 (mcells ⟨st2, ev2, starts2, ars2, ends2⟩ ⟨d1, e1, d2, e2, d3, e3⟩)) := by
    have := Blk.new (w.alloc (.cells (mcells ⟨st, ev, starts, ars, ends⟩ ⟨a1, c1, a2, c2, a3, c3⟩) 25)) 25 (mcells ⟨st2, ev2, starts2, ars2, ends2⟩ ⟨d1, e1, d2, e2, d3, e3⟩)
    rwa [World.size_alloc] at this
  go_enter Tryd.func44, Tryd.ntmps44
  obtain ⟨x0, x1, x2, x3, x4⟩ := mcell_at KM0.out
  obtain ⟨y0, y1, y2, y3, y4⟩ := mcell_at KS0.out
  dsimp only at x0 x1 x2 x3 x4 y0 y1 y2 y3 y4
  go_wp2_with fail
  clear x0 x1 x2 x3 x4 y0 y1 y2 y3 y4
  revert B0 KM0 KS0
  generalize ((w.alloc (.cells (mcells ⟨st, ev, starts, ars, ends⟩ ⟨a1, c1, a2, c2, a3, c3⟩) 25)).alloc (.cells (mcells ⟨st2, ev2, starts2, ars2, ends2⟩ ⟨d1, e1, d2, e2, d3, e3⟩) 25)) = V0
  intro B KM KS
  refine (rqfirst_any ⟨st, ev, starts, ars, ends⟩ ⟨st2, ev2, starts2, ars2, ends2⟩ ⟨a1, c1, a2, c2, a3, c3⟩ ⟨d1, e1, d2, e2, d3, e3⟩ sa sc seen w V0 B.out hms.out (hma.out.below B.out (Nat.le_refl _)) (hms.out.below B.out (Nat.le_refl _)) (hse.out.below B.out (Nat.le_refl _)) hsl.out mm.out ms.out zm.out zs.out).mono ?_
  rintro e W1 ⟨v, rfl, ov, hb⟩
  obtain ⟨va, vc, hv⟩ := ov.form
  subst hv
  obtain ⟨va', vc', ev', aq, -⟩ := ov.at
  cases ev'
  have AQ : Hid (AtQ w.heap.size W1 va (firstQ ⟨st, ev, starts, ars, ends⟩ ⟨st2, ev2, starts2, ars2, ends2⟩ seen)) := aq
  replace B := Hid.of (B.out.trans (hb.mono B.out.size))
  replace KM := Hid.of (KM.out.below hb KM.out.lt)
  replace KS := Hid.of (KS.out.below hb KS.out.lt)
  clear ov aq hb
  go_wp2_with fail
  go_loopw [9, 10] (fun v9 i wr => ∃ (k : Nat) (a : Option Addr) (c : Nat), i = .int .i64 k ∧ k ≤ word.length ∧ v9 = .slice a (afterQ ⟨st, ev, starts, ars, ends⟩ ⟨st2, ev2, starts2, ars2, ends2⟩ seen (word.take k)).length c ∧ Hid (AtQ w.heap.size wr a (afterQ ⟨st, ev, starts, ars, ends⟩ ⟨st2, ev2, starts2, ars2, ends2⟩ seen (word.take k))) ∧ Hid (Below w.heap.size w wr) ∧ Hid (Blk wr w.heap.size 25 (mcells ⟨st, ev, starts, ars, ends⟩ ⟨a1, c1, a2, c2, a3, c3⟩)) ∧ Hid (Blk wr (w.heap.size + 1) 25 (mcells ⟨st2, ev2, starts2, ars2, ends2⟩ ⟨d1, e1, d2, e2, d3, e3⟩))) (fun _ i _ => word.length - (intOf i).toNat)
  case atStart => exact ⟨0, va, vc, rfl, Nat.zero_le _, rfl, AQ, B, KM, KS⟩
  case round =>
    clear AQ B KM KS
    obtain ⟨k, la, lc, rfl, hk, rfl, AQ, B, KM, KS⟩ := hrel
    obtain ⟨cur, HC⟩ : ∃ cur, Hid (cur = afterQ ⟨st, ev, starts, ars, ends⟩ ⟨st2, ev2, starts2, ars2, ends2⟩ seen (word.take k)) := ⟨_, rfl⟩
    rw [← HC.out] at AQ
    rw [← HC.out]
    have hcl : cur.length ≤ 96 := by rw [HC.out]; exact HIN.out _
    by_cases hlt : k < word.length
    · have hkD : decide ((k : Int) < (word.length : Int)) = true := by simp; omega
      obtain ⟨wb, wo, x, hab, hbl, HX, hcx⟩ : ∃ (b off : Nat) (x : Int), wa = some ⟨b, off, none⟩ ∧ b < w.heap.size ∧ Hid (x = word[k]?.getD 0) ∧ w.cell? ⟨b, off + k, none⟩ = some (.int .i64 x) := by
        rcases hw.out with h0 | ⟨b, off, ha, hb, hc⟩
        · have : word.length = 0 := by rw [h0]; rfl
          omega
        · obtain ⟨x, hx, hcell⟩ := hc.at hlt
          exact ⟨b, off, x, ha, hb, hx, hcell⟩
      subst hab
      have HNX := Hid.of (after_take (m := ⟨st, ev, starts, ars, ends⟩) (s := ⟨st2, ev2, starts2, ars2, ends2⟩) (seen := seen) hlt HX)
      rw [← HC.out] at HNX
      have SA : Hid (∀ W, Below w.heap.size w W → Blk W w.heap.size 25 (mcells ⟨st, ev, starts, ars, ends⟩ ⟨a1, c1, a2, c2, a3, c3⟩) → Blk W (w.heap.size + 1) 25 (mcells ⟨st2, ev2, starts2, ars2, ends2⟩ ⟨d1, e1, d2, e2, d3, e3⟩) → W.cell? ⟨w.heap.size, 0, none⟩ = some (.int .i64 st) ∧ W.cell? ⟨w.heap.size, 1, none⟩ = some (.int .i64 ev) ∧ W.cell? ⟨w.heap.size, 2, none⟩ = some (.slice a1 starts.length c1) ∧ W.cell? ⟨w.heap.size, 3, none⟩ = some (.slice a2 ars.length c2) ∧ W.cell? ⟨w.heap.size, 4, none⟩ = some (.slice a3 ends.length c3) ∧ W.cell? ⟨w.heap.size + 1, 0, none⟩ = some (.int .i64 st2) ∧ W.cell? ⟨w.heap.size + 1, 1, none⟩ = some (.int .i64 ev2) ∧ W.cell? ⟨w.heap.size + 1, 2, none⟩ = some (.slice d1 starts2.length e1) ∧ W.cell? ⟨w.heap.size + 1, 3, none⟩ = some (.slice d2 ars2.length e2) ∧ W.cell? ⟨w.heap.size + 1, 4, none⟩ = some (.slice d3 ends2.length e3) ∧ W.cell? ⟨wb, wo + k, none⟩ = some (.int .i64 x)) := fun W hb h1 h2 => by
        obtain ⟨x0, x1, x2, x3, x4⟩ := mcell_at h1
        obtain ⟨y0, y1, y2, y3, y4⟩ := mcell_at h2
        exact ⟨x0, x1, x2, x3, x4, y0, y1, y2, y3, y4, (hb.cell (p := ⟨wb, wo + k, none⟩) hbl).trans hcx⟩
      go_wp2_with fail
      refine wp_region_held_drew (S := fun w' => w'.cell? ⟨w.heap.size, 0, none⟩ = some (.int .i64 st) ∧ w'.cell? ⟨w.heap.size, 1, none⟩ = some (.int .i64 ev) ∧ w'.cell? ⟨w.heap.size, 2, none⟩ = some (.slice a1 starts.length c1) ∧ w'.cell? ⟨w.heap.size, 3, none⟩ = some (.slice a2 ars.length c2) ∧ w'.cell? ⟨w.heap.size, 4, none⟩ = some (.slice a3 ends.length c3) ∧ w'.cell? ⟨w.heap.size + 1, 0, none⟩ = some (.int .i64 st2) ∧ w'.cell? ⟨w.heap.size + 1, 1, none⟩ = some (.int .i64 ev2) ∧ w'.cell? ⟨w.heap.size + 1, 2, none⟩ = some (.slice d1 starts2.length e1) ∧ w'.cell? ⟨w.heap.size + 1, 3, none⟩ = some (.slice d2 ars2.length e2) ∧ w'.cell? ⟨w.heap.size + 1, 4, none⟩ = some (.slice d3 ends2.length e3) ∧ w'.cell? ⟨wb, wo + k, none⟩ = some (.int .i64 x)) (by kernel_rfl) (SA.out _ B.out.drew (Blk.drew KM.out) (Blk.drew KS.out)) (fun hS => ?_)
      have hn := B.out.size
      have bd : Below wr.heap.size wr wr.drew := (Below.refl _ _).drew
      replace AQ := Hid.of (AQ.out.below bd hn)
      replace B := Hid.of (B.out.trans (bd.mono B.out.size))
      replace KM := Hid.of (KM.out.below bd KM.out.lt)
      replace KS := Hid.of (KS.out.below bd KS.out.lt)
      clear bd hn hcx
      revert hS AQ B KM KS
      generalize wr.drew = Y
      intro hS AQ B KM KS
      refine wpAnyH_take (i := 0) (v := .agg #[.int .i64 st, .int .i64 ev, .slice a1 starts.length c1, .slice a2 ars.length c2, .slice a3 ends.length c3]) rfl (by kernel_rfl) (by kernel_rfl) (by kernel_rfl) (fun _ _ _ h => h) (Or.inl ⟨by kernel_rfl, fun w' hw' => by obtain ⟨q0, q1, q2, q3, q4, q5, q6, q7, q8, q9, q10⟩ := hw'; go_simp⟩) hS ?_
      refine wpAnyH_take (i := 1) (v := .agg #[.int .i64 st2, .int .i64 ev2, .slice d1 starts2.length e1, .slice d2 ars2.length e2, .slice d3 ends2.length e3]) rfl (by kernel_rfl) (by kernel_rfl) (by kernel_rfl) (fun _ _ _ h => h) (Or.inl ⟨by kernel_rfl, fun w' hw' => by obtain ⟨q0, q1, q2, q3, q4, q5, q6, q7, q8, q9, q10⟩ := hw'; go_simp⟩) hS ?_
      refine wpAnyH_take (i := 2) (v := .slice sa seen.length sc) rfl (by kernel_rfl) (by kernel_rfl) (by kernel_rfl) (fun _ _ _ h => h) (Or.inl ⟨by kernel_rfl, fun w' hw' => by obtain ⟨q0, q1, q2, q3, q4, q5, q6, q7, q8, q9, q10⟩ := hw'; go_simp⟩) hS ?_
      refine wpAnyH_take (i := 3) (v := .slice la cur.length lc) rfl (by kernel_rfl) (by kernel_rfl) (by kernel_rfl) (fun _ _ _ h => h) (Or.inl ⟨by kernel_rfl, fun w' hw' => by obtain ⟨q0, q1, q2, q3, q4, q5, q6, q7, q8, q9, q10⟩ := hw'; go_simp⟩) hS ?_
      refine wpAnyH_take (i := 4) (v := .slice (some ⟨wb, wo, none⟩) word.length wc) rfl (by kernel_rfl) (by kernel_rfl) (by kernel_rfl) (fun _ _ _ h => h) (Or.inl ⟨by kernel_rfl, fun w' hw' => by obtain ⟨q0, q1, q2, q3, q4, q5, q6, q7, q8, q9, q10⟩ := hw'; go_simp⟩) hS ?_
      refine wpAnyH_take (i := 5) (v := .int .i64 k) rfl (by kernel_rfl) (by kernel_rfl) (by kernel_rfl) (fun _ _ _ h => h) (Or.inl ⟨by kernel_rfl, fun w' hw' => by obtain ⟨q0, q1, q2, q3, q4, q5, q6, q7, q8, q9, q10⟩ := hw'; go_simp⟩) hS ?_
      refine wpAnyH_take (i := 6) (v := .pointer (some ⟨wb, wo + k, none⟩)) rfl (by kernel_rfl) (by kernel_rfl) (by kernel_rfl) (fun _ _ _ h => h) (Or.inl ⟨by kernel_rfl, fun w' hw' => by obtain ⟨q0, q1, q2, q3, q4, q5, q6, q7, q8, q9, q10⟩ := hw'; go_simp⟩) hS ?_
      refine wpAnyH_take (i := 7) (v := .int .i64 x) rfl (by kernel_rfl) (by kernel_rfl) (by kernel_rfl) (fun _ _ _ h => h) (Or.inl ⟨by kernel_rfl, fun w' hw' => by obtain ⟨q0, q1, q2, q3, q4, q5, q6, q7, q8, q9, q10⟩ := hw'; go_simp⟩) hS ?_
      simp only [Act.put, List.setIfInBounds_toArray]
      refine wpAnyH_ready (rs := [8]) (by kernel_rfl) (by simp) ?_
      refine AllReadyH.cons rfl (fun K' hK' => ?_) AllReadyH.nil
      clear hS
      go_simp
      refine (rqstep_any ⟨st, ev, starts, ars, ends⟩ ⟨st2, ev2, starts2, ars2, ends2⟩ ⟨a1, c1, a2, c2, a3, c3⟩ ⟨d1, e1, d2, e2, d3, e3⟩ sa sc seen w.heap.size la lc cur x Y (hma.out.below B.out (Nat.le_refl _)) (hms.out.below B.out (Nat.le_refl _)) (hse.out.below B.out (Nat.le_refl _)) hsl.out mm.out ms.out zm.out zs.out B.out.size AQ.out (by omega)).mono ?_
      rintro e Y1 ⟨v, rfl, ov, hb⟩
      obtain ⟨nxt, HNN⟩ : ∃ nxt, Hid (nxt = seeQ ⟨st, ev, starts, ars, ends⟩ ⟨st2, ev2, starts2, ars2, ends2⟩ seen cur x) := ⟨_, rfl⟩
      rw [← HNN.out] at ov HNX
      obtain ⟨va, vc, hv⟩ := ov.form
      subst hv
      obtain ⟨va', vc', ev', aq, -⟩ := ov.at
      cases ev'
      have AQ1 := Hid.of aq
      replace B := Hid.of (B.out.trans (hb.mono B.out.size))
      replace KM := Hid.of (KM.out.below hb KM.out.lt)
      replace KS := Hid.of (KS.out.below hb KS.out.lt)
      refine hK'.out _ _ (SA.out _ B.out KM.out KS.out) (fun hS => ?_)
      clear hK' K' hb ov aq SA AQ
      refine wpAnyH_take (i := 9) (v := .slice va nxt.length vc) rfl (by kernel_rfl) (by kernel_rfl) (by kernel_rfl) (fun _ _ _ h => h) (Or.inl ⟨by kernel_rfl, fun w' hw' => by obtain ⟨q0, q1, q2, q3, q4, q5, q6, q7, q8, q9, q10⟩ := hw'; go_simp⟩) hS ?_
      refine wpAnyH_done (by kernel_rfl) ?_ _
      clear hS
      go_wp2_with fail
      go_roundw
      case rel => exact ⟨k + 1, va, vc, by go_num, by omega, by rw [HNX.out], by rw [HNX.out]; exact AQ1, B, KM, KS⟩
      case measure => simp [intOf]; omega
    · have hkD : decide ((k : Int) < (word.length : Int)) = false := by simp; omega
      have HE : Hid (cur = afterQ ⟨st, ev, starts, ars, ends⟩ ⟨st2, ev2, starts2, ars2, ends2⟩ seen word) := by show _ = _; rw [HC.out, List.take_of_length_le (by omega)]
      go_wp2_with fail
      exact bodyPost_ret (v := .slice la cur.length lc) (by simp [results, go_sem]) rfl ⟨la, lc, by rw [HE.out], by rw [← HE.out]; exact AQ.out, B.out⟩

theorem rqafter_any (m s : Mach) (lm ls : ML) (sa : Option Addr) (sc : Nat) (seen : List Int) (wa : Option Addr) (wc : Nat) (word : List Int) (w : World) (hma : MAt w m lm) (hms : MAt w s ls) (hse : At w sa seen) (hsl : seen.length ≤ maxLen) (mm : mayB m = true) (ms : mayB s = true) (zm : m.st ≤ 6) (zs : s.st ≤ 4) (hw : At w wa word) (hwl : word.length ≤ maxLen) :
    Calls Tryd.prog 44 #[mval m lm, mval s ls, .slice sa seen.length sc, .slice wa word.length wc] w fun e w' => ∃ a c, e = .returned (.slice a (afterQ m s seen word).length c) ∧ AtQ w.heap.size w' a (afterQ m s seen word) ∧ Below w.heap.size w w' := by
  obtain ⟨st, ev, starts, ars, ends⟩ := m
  obtain ⟨st2, ev2, starts2, ars2, ends2⟩ := s
  obtain ⟨a1, c1, a2, c2, a3, c3⟩ := lm
  obtain ⟨d1, e1, d2, e2, d3, e3⟩ := ls
  exact rqafter_go st ev starts ars ends a1 c1 a2 c2 a3 c3 st2 ev2 starts2 ars2 ends2 d1 e1 d2 e2 d3 e3 sa sc seen wa wc word w (Hid.of hma) (Hid.of hms) (Hid.of hse) (Hid.of hsl) (Hid.of mm) (Hid.of ms) (Hid.of zm) (Hid.of zs) (Hid.of hw) hwl

end Go.Proofs.YtgebfkmfhpcdhaaDoor
namespace Go.Proofs.YtgebfkmfhpcdhaaDoor
open Go.RowKit
set_option linter.unusedVariables false
set_option linter.unusedSectionVars false

/-! A search that is cut where more than so many are found. -/
section
variable {σ : Type} [DecidableEq σ] (δ : σ → Nat → σ)
def bfCut (M ev : Nat) : Nat → Nat → List (σ × List Int) → Option (List (σ × List Int))
  | 0, _, l => some l
  | f + 1, k, l => match l[k]? with
    | none => some l
    | some x => if M < l.length then none else bfCut M ev f (k + 1) (bfRow δ x l ev)
theorem bfCut_end {s0 : σ} {M ev : Nat} : ∀ (f k : Nat) (l l' : List (σ × List Int)), BI δ s0 ev k 0 l → k ≤ l.length → k ≤ M → M < f + k → bfCut δ M ev f k l = some l' → BI δ s0 ev l'.length 0 l' ∧ l'.length ≤ M
  | 0, k, l, l', h, hk, hM, hf, e => by omega
  | f + 1, k, l, l', h, hk, hM, hf, e => by
    rw [bfCut] at e
    cases hx : l[k]? with
    | none =>
      rw [hx] at e
      have e := Option.some.inj e
      subst e
      have hkl : k = l.length := by
        have := List.getElem?_eq_none_iff.1 hx
        omega
      rw [← hkl]; exact ⟨h, hM⟩
    | some x =>
      rw [hx] at e
      dsimp only at e
      have hlt := (List.getElem?_eq_some_iff.1 hx).1
      by_cases hc : M < l.length
      · rw [if_pos hc] at e; cases e
      · rw [if_neg hc] at e
        obtain ⟨t, ht⟩ := bfRow_pre δ x l ev
        exact bfCut_end f (k + 1) _ l' (bi_next δ h hx) (by rw [ht, List.length_append]; omega) (by omega) (by omega) e
end

/-! What is told by whereabouts. -/
def secQ (m s : Mach) (l : List Pla) : Bool := l.any fun x => hasB m.ends x.1 && decide (0 < (x.2.filter fun n => hasB s.ends n == true).length)
def opnQ (m s : Mach) (l : List Pla) : Bool := l.any fun x => hasB m.ends x.1 && !decide (0 < (x.2.filter fun n => hasB s.ends n == true).length)
/-- A secret word, and no open one. -/
def leakQ (m s : Mach) (l : List Pla) : Bool := secQ m s l && !opnQ m s l
theorem any_same {α : Type} {l l' : List α} (f : α → Bool) (h : ∀ x, x ∈ l ↔ x ∈ l') : l.any f = l'.any f := by
  rw [Bool.eq_iff_iff, List.any_eq_true, List.any_eq_true]
  exact ⟨fun ⟨x, hx, q⟩ => ⟨x, (h x).1 hx, q⟩, fun ⟨x, hx, q⟩ => ⟨x, (h x).2 hx, q⟩⟩
theorem leakQ_same (m s : Mach) {l l' : List Pla} (h : ∀ x, x ∈ l ↔ x ∈ l') : leakQ m s l = leakQ m s l' := by
  unfold leakQ secQ opnQ
  rw [any_same _ h, any_same _ h]
def qD (m s : Mach) (seen : List Int) (c : List Pla) (k : Nat) : List Pla := canG (allQ m s) (seeQ m s seen c (seen[k]?.getD 0))
def qF (m s : Mach) (seen : List Int) : List Pla := canG (allQ m s) (firstQ m s seen)
/-- All whereabouts, each with the least list (of numbers) that has them; nothing: there are too many. -/
def fndQ (m s : Mach) (seen : List Int) : Option (List (List Pla × List Int)) := bfCut (qD m s seen) 256 seen.length 257 0 [(qF m s seen, [])]
/-- The least list that leaks (L1). -/
def outQ (m s : Mach) (seen : List Int) : Option (Option (List Int)) := (fndQ m s seen).map fun l => (l.find? fun x => leakQ m s x.1).map fun x => wordS seen x.2
section
variable {m s : Mach}
theorem see_same (hm : mayB m = true) (hs : mayB s = true) (zm : m.st ≤ 6) (zs : s.st ≤ 4) {seen : List Int} {l l' : List Pla} (h : ∀ x, x ∈ l ↔ x ∈ l') (e : Int) : ∀ x, x ∈ seeQ m s seen l e ↔ x ∈ seeQ m s seen l' e := fun x => by
  rw [mem_seeQ hm hs zm zs, mem_seeQ hm hs zm zs]
  exact ⟨fun ⟨t, y, a, b, c⟩ => ⟨t, y, a, (h y).1 b, c⟩, fun ⟨t, y, a, b, c⟩ => ⟨t, y, a, (h y).2 b, c⟩⟩
theorem run_q (hm : mayB m = true) (hs : mayB s = true) (zm : m.st ≤ 6) (zs : s.st ≤ 4) {seen : List Int} : ∀ (u : List Int) (c l : List Pla), (∀ x, x ∈ c ↔ x ∈ l) → ∀ x, x ∈ runF (qD m s seen) c u ↔ x ∈ (wordS seen u).foldl (seeQ m s seen) l
  | [], c, l, h, x => h x
  | k :: u, c, l, h, x => by
    show x ∈ runF (qD m s seen) (qD m s seen c k.toNat) u ↔ x ∈ (wordS seen u).foldl (seeQ m s seen) (seeQ m s seen l (seen[k.toNat]?.getD 0))
    refine run_q hm hs zm zs u _ _ (fun y => ?_) x
    unfold qD
    rw [mem_canG (seeQ_in hm hs zm zs).2]
    exact see_same hm hs zm zs h _ y
theorem run_after (hm : mayB m = true) (hs : mayB s = true) (zm : m.st ≤ 6) (zs : s.st ≤ 4) {seen : List Int} (u : List Int) : ∀ x, x ∈ runF (qD m s seen) (qF m s seen) u ↔ x ∈ afterQ m s seen (wordS seen u) :=
  run_q hm hs zm zs u _ _ (fun x => by unfold qF; rw [mem_canG (first_in hm hs zm zs).2.1])
theorem fndQ_all (hm : mayB m = true) (hs : mayB s = true) (zm : m.st ≤ 6) (zs : s.st ≤ 4) {seen : List Int} {l : List (List Pla × List Int)} (h : fndQ m s seen = some l) : BI (qD m s seen) (qF m s seen) seen.length l.length 0 l ∧ l.length ≤ 256 :=
  bfCut_end _ 257 0 _ l (bi_start _ _ _) (Nat.zero_le _) (by omega) (by omega) h
theorem fnd_leak (hm : mayB m = true) (hs : mayB s = true) (zm : m.st ≤ 6) (zs : s.st ≤ 4) {seen : List Int} {l : List (List Pla × List Int)} (h : fndQ m s seen = some l) {x : List Pla × List Int} (hx : x ∈ l) : leakQ m s x.1 = leakQ m s (afterQ m s seen (wordS seen x.2)) := by
  have hI := (fndQ_all hm hs zm zs h).1
  rw [(hI.run x hx).1]
  exact leakQ_same m s (run_after hm hs zm zs x.2)
theorem outQ_none (hm : mayB m = true) (hs : mayB s = true) (zm : m.st ≤ 6) (zs : s.st ≤ 4) {seen : List Int} (h : outQ m s seen = some none) {word : List Int} (hw : ∀ e ∈ word, e ∈ seen) : leakQ m s (afterQ m s seen word) = false := by
  unfold outQ at h
  rw [Option.map_eq_some_iff] at h
  obtain ⟨l, hl, h2⟩ := h
  have hI := (fndQ_all hm hs zm zs hl).1
  obtain ⟨x, hx, e1, -⟩ := bi_all _ hI (idxS seen word) (idx_in hw)
  rw [Option.map_eq_none_iff, List.find?_eq_none] at h2
  have h3 := h2 x hx
  rw [e1, leakQ_same m s (run_after hm hs zm zs (idxS seen word)), word_idx hw] at h3
  simpa using h3
theorem outQ_some (hm : mayB m = true) (hs : mayB s = true) (zm : m.st ≤ 6) (zs : s.st ≤ 4) {seen : List Int} (hi : Inc seen) {v : List Int} (h : outQ m s seen = some (some v)) : leakQ m s (afterQ m s seen v) = true ∧ (∀ e ∈ v, e ∈ seen) ∧ v.length ≤ 256 ∧ ∀ word : List Int, (∀ e ∈ word, e ∈ seen) → leakQ m s (afterQ m s seen word) = true → lessB word v = false := by
  unfold outQ at h
  rw [Option.map_eq_some_iff] at h
  obtain ⟨l, hl, h⟩ := h
  obtain ⟨hI, hbd⟩ := fndQ_all hm hs zm zs hl
  rw [Option.map_eq_some_iff] at h
  obtain ⟨x, hx, rfl⟩ := h
  have hxo := List.find?_some hx
  rw [List.find?_eq_some_iff_getElem] at hx
  obtain ⟨-, i, hil, e0, hlow⟩ := hx
  have hxi : l[i]? = some x := by rw [List.getElem?_eq_getElem hil, e0]
  have hxm := List.mem_of_getElem? hxi
  have hr := hI.run x hxm
  refine ⟨?_, word_in hr.2, ?_, fun word hw hb' => ?_⟩
  · rw [← fnd_leak hm hs zm zs hl hxm]; exact hxo
  · have := bi_wlen hI i x hxi; rw [wordS_len]; omega
  · obtain ⟨q, hq, e1, e2⟩ := bi_all _ hI (idxS seen word) (idx_in hw)
    have hqo : leakQ m s q.1 = true := by
      rw [e1, leakQ_same m s (run_after hm hs zm zs (idxS seen word)), word_idx hw]; exact hb'
    obtain ⟨j, hj⟩ := List.mem_iff_getElem?.1 hq
    have hjl := (List.getElem?_eq_some_iff.1 hj).1
    have hqe := (List.getElem?_eq_some_iff.1 hj).2
    have hij : i ≤ j := by
      rcases Nat.lt_or_ge j i with h1 | h1
      · have := hlow j h1
        rw [hqe, hqo] at this; simp at this
      · exact h1
    have hle : leW x.2 q.2 := by
      rcases Nat.lt_or_ge i j with h1 | h1
      · have := List.pairwise_iff_getElem.1 hI.inc i j hil hjl h1
        rw [hqe, e0] at this
        exact .inr this
      · have : i = j := by omega
        subst this
        rw [hxi] at hj
        have := Option.some.inj hj
        subst this
        exact leW_refl _
    have hn := leW_not (leW_trans hle e2)
    rw [← lessB_word hi (idx_in hw) hr.2, word_idx hw] at hn
    exact hn
end

end Go.Proofs.YtgebfkmfhpcdhaaDoor
namespace Go.Proofs.YtgebfkmfhpcdhaaDoor
open Go.RowKit
set_option linter.unusedVariables false

def endN (ends xs : List Int) : List Int := xs.filter fun n => hasB ends n == true
theorem secQ_take {m s : Mach} {l : List Pla} {k : Nat} {y : Pla} (h : l[k]? = some y) : secQ m s (l.take (k + 1)) = (secQ m s (l.take k) || (hasB m.ends y.1 && decide (0 < (endN s.ends y.2).length))) := by
  unfold secQ endN
  rw [List.take_add_one, h, Option.toList_some, List.any_append]; simp
theorem opnQ_take {m s : Mach} {l : List Pla} {k : Nat} {y : Pla} (h : l[k]? = some y) : opnQ m s (l.take (k + 1)) = (opnQ m s (l.take k) || (hasB m.ends y.1 && !decide (0 < (endN s.ends y.2).length))) := by
  unfold opnQ endN
  rw [List.take_add_one, h, Option.toList_some, List.any_append]; simp

set_option maxRecDepth 100000 in
set_option maxHeartbeats 8000000 in
theorem rqjudge_go (st ev : Int) (starts : List Int) (ars : List Arr) (ends : List Int) (a1 : Option Addr) (c1 : Nat) (a2 : Option Addr) (c2 : Nat) (a3 : Option Addr) (c3 : Nat) (st2 ev2 : Int) (starts2 : List Int) (ars2 : List Arr) (ends2 : List Int) (d1 : Option Addr) (e1 : Nat) (d2 : Option Addr) (e2 : Nat) (d3 : Option Addr) (e3 : Nat) (n : Nat) (la : Option Addr) (lc : Nat) (l : List Pla) (w : World) (hma : Hid (MAt w ⟨st, ev, starts, ars, ends⟩ ⟨a1, c1, a2, c2, a3, c3⟩)) (hms : Hid (MAt w ⟨st2, ev2, starts2, ars2, ends2⟩ ⟨d1, e1, d2, e2, d3, e3⟩)) (hn : n ≤ w.heap.size) (hv : Hid (AtQ n w la l)) (hll : l.length ≤ 4096) (hsz : Hid (∀ x ∈ l, x.2.length ≤ 4096)) :
    Calls Tryd.prog 45 #[mval ⟨st, ev, starts, ars, ends⟩ ⟨a1, c1, a2, c2, a3, c3⟩, mval ⟨st2, ev2, starts2, ars2, ends2⟩ ⟨d1, e1, d2, e2, d3, e3⟩, .slice la l.length lc] w fun e w' => e = .returned (.tuple #[.bool (secQ ⟨st, ev, starts, ars, ends⟩ ⟨st2, ev2, starts2, ars2, ends2⟩ l), .bool (opnQ ⟨st, ev, starts, ars, ends⟩ ⟨st2, ev2, starts2, ars2, ends2⟩ l)]) ∧ Below w.heap.size w w' := by
  have B0 : Hid (Below w.heap.size w ((w.alloc (.cells (mcells ⟨st, ev, starts, ars, ends⟩ ⟨a1, c1, a2, c2, a3, c3⟩) 25)).alloc (.cells (mcells ⟨st2, ev2, starts2, ars2, ends2⟩ ⟨d1, e1, d2, e2, d3, e3⟩) 25))) := ((Below.refl _ _).alloc (Nat.le_refl _) _).alloc (by simp) _
  have KM0 : Hid (Blk ((w.alloc (.cells (mcells ⟨st, ev, starts, ars, ends⟩ ⟨a1, c1, a2, c2, a3, c3⟩) 25)).alloc (.cells (mcells ⟨st2, ev2, starts2, ars2, ends2⟩ ⟨d1, e1, d2, e2, d3, e3⟩) 25)) w.heap.size 25 (mcells ⟨st, ev, starts, ars, ends⟩ ⟨a1, c1, a2, c2, a3, c3⟩)) := (Blk.new w _ _).alloc _
  have KS0 : Hid (Blk ((w.alloc (.cells (mcells ⟨st, ev, starts, ars, ends⟩ ⟨a1, c1, a2, c2, a3, c3⟩) 25)).alloc (.cells (mcells ⟨st2, ev2, starts2, ars2, ends2⟩ ⟨d1, e1, d2, e2, d3, e3⟩) 25)) (w.heap.size + 1) 25 (mcells ⟨st2, ev2, starts2, ars2, ends2⟩ ⟨d1, e1, d2, e2, d3, e3⟩)) := by
    have := Blk.new (w.alloc (.cells (mcells ⟨st, ev, starts, ars, ends⟩ ⟨a1, c1, a2, c2, a3, c3⟩) 25)) 25 (mcells ⟨st2, ev2, starts2, ars2, ends2⟩ ⟨d1, e1, d2, e2, d3, e3⟩)
    rwa [World.size_alloc] at this
  have el : Hid (ends.length ≤ maxLen) := Nat.le_trans hma.out.e1 hma.out.e2
  have el2 : Hid (ends2.length ≤ maxLen) := Nat.le_trans hms.out.e1 hms.out.e2
  go_enter Tryd.func45, Tryd.ntmps45
  go_wp2_with fail
  revert B0 KM0 KS0
  generalize ((w.alloc (.cells (mcells ⟨st, ev, starts, ars, ends⟩ ⟨a1, c1, a2, c2, a3, c3⟩) 25)).alloc (.cells (mcells ⟨st2, ev2, starts2, ars2, ends2⟩ ⟨d1, e1, d2, e2, d3, e3⟩) 25)) = V0
  intro B0 KM0 KS0
  go_loopw [8, 9, 10] (fun v8 v9 i wr => ∃ (k : Nat), i = .int .i64 k ∧ k ≤ l.length ∧ v8 = .bool (secQ ⟨st, ev, starts, ars, ends⟩ ⟨st2, ev2, starts2, ars2, ends2⟩ (l.take k)) ∧ v9 = .bool (opnQ ⟨st, ev, starts, ars, ends⟩ ⟨st2, ev2, starts2, ars2, ends2⟩ (l.take k)) ∧ Hid (Below w.heap.size w wr) ∧ Hid (Blk wr w.heap.size 25 (mcells ⟨st, ev, starts, ars, ends⟩ ⟨a1, c1, a2, c2, a3, c3⟩)) ∧ Hid (Blk wr (w.heap.size + 1) 25 (mcells ⟨st2, ev2, starts2, ars2, ends2⟩ ⟨d1, e1, d2, e2, d3, e3⟩))) (fun _ _ i _ => l.length - (intOf i).toNat)
  case atStart => exact ⟨0, rfl, Nat.zero_le _, rfl, rfl, B0, KM0, KS0⟩
  case round =>
    clear B0 KM0 KS0
    obtain ⟨k, rfl, hk, hv8, hv9, B, KM, KS⟩ := hrel
    obtain ⟨p8, H8⟩ : ∃ p8, Hid (p8 = secQ ⟨st, ev, starts, ars, ends⟩ ⟨st2, ev2, starts2, ars2, ends2⟩ (l.take k)) := ⟨_, rfl⟩
    obtain ⟨p9, H9⟩ : ∃ p9, Hid (p9 = opnQ ⟨st, ev, starts, ars, ends⟩ ⟨st2, ev2, starts2, ars2, ends2⟩ (l.take k)) := ⟨_, rfl⟩
    rw [← H8.out] at hv8
    rw [← H9.out] at hv9
    subst hv8
    subst hv9
    by_cases hlt : k < l.length
    · have hkD : decide ((k : Int) < (l.length : Int)) = true := by simp; omega
      obtain ⟨⟨ym, ys⟩, HY⟩ : ∃ y, Hid (l[k]? = some y) := ⟨_, List.getElem?_eq_getElem hlt⟩
      have HS := Hid.of (secQ_take (m := ⟨st, ev, starts, ars, ends⟩) (s := ⟨st2, ev2, starts2, ars2, ends2⟩) HY.out)
      have HO := Hid.of (opnQ_take (m := ⟨st, ev, starts, ars, ends⟩) (s := ⟨st2, ev2, starts2, ars2, ends2⟩) HY.out)
      rw [← H8.out] at HS
      rw [← H9.out] at HO
      have hyl : Hid (ys.length ≤ 4096) := hsz.out _ (List.mem_of_getElem? HY.out)
      obtain ⟨g, o, sy, sk, hga, hg, c1q, c2q, i1, i2, -⟩ := (hv.out.below B.out hn).get HY.out
      dsimp only at c1q c2q i1 i2
      subst hga
      have HG := Hid.of hg
      have I1 := Hid.of i1
      clear hg i1 i2
      obtain ⟨x0, x1, x2, x3, x4⟩ := mcell_at KM.out
      dsimp only at x0 x1 x2 x3 x4
      have KEY1 : Hid (∀ r, Calls Tryd.prog 53 #[.slice a3 ends.length c3, .int .i64 ym] (wr.drewN r) fun e w' => e = .returned (.bool (hasB ends ym)) ∧ w' = wr.drewN r) := fun r => refHas_any a3 c3 ends ym _ (At.drewN (hma.out.e.below B.out (Nat.le_refl _)) r) el.out
      go_wp2_with fail
      cases he : hasB ends ym with
      | false =>
        have HS1 : Hid (secQ ⟨st, ev, starts, ars, ends⟩ ⟨st2, ev2, starts2, ars2, ends2⟩ (l.take (k + 1)) = p8) := by show _ = _; rw [HS.out, he]; simp
        have HO1 : Hid (opnQ ⟨st, ev, starts, ars, ends⟩ ⟨st2, ev2, starts2, ars2, ends2⟩ (l.take (k + 1)) = p9) := by show _ = _; rw [HO.out, he]; simp
        rw [he] at KEY1
        clear he
        go_quiet (first | (go_at_call 53; exact Calls.quiet_of_same (KEY1.out _)))
        have B1 : Hid (Below w.heap.size w (wr.drewN nq)) := below_drewN B.out nq
        have KM1 : Hid (Blk (wr.drewN nq) w.heap.size 25 (mcells ⟨st, ev, starts, ars, ends⟩ ⟨a1, c1, a2, c2, a3, c3⟩)) := KM.out
        have KS1 : Hid (Blk (wr.drewN nq) (w.heap.size + 1) 25 (mcells ⟨st2, ev2, starts2, ars2, ends2⟩ ⟨d1, e1, d2, e2, d3, e3⟩)) := KS.out
        clear KEY1 x0 x1 x2 x3 x4 c1q c2q I1 HG B KM KS
        revert B1 KM1 KS1
        generalize wr.drewN nq = V2
        intro B1 KM1 KS1
        go_wp2_with fail
        go_roundw
        case rel => exact ⟨k + 1, by go_num, by omega, by rw [HS1.out], by rw [HO1.out], B1, KM1, KS1⟩
        case measure => simp [intOf]; omega
      | true =>
        have HS0 : Hid (secQ ⟨st, ev, starts, ars, ends⟩ ⟨st2, ev2, starts2, ars2, ends2⟩ (l.take (k + 1)) = (p8 || decide (0 < (endN ends2 ys).length))) := by show _ = _; rw [HS.out, he, Bool.true_and]
        have HO0 : Hid (opnQ ⟨st, ev, starts, ars, ends⟩ ⟨st2, ev2, starts2, ars2, ends2⟩ (l.take (k + 1)) = (p9 || !decide (0 < (endN ends2 ys).length))) := by show _ = _; rw [HO.out, he, Bool.true_and]
        rw [he] at KEY1
        clear he
        go_quiet (first | (go_at_call 53; exact Calls.quiet_of_same (KEY1.out _)))
        have B1 : Hid (Below w.heap.size w (wr.drewN nq)) := below_drewN B.out nq
        have KM1 : Hid (Blk (wr.drewN nq) w.heap.size 25 (mcells ⟨st, ev, starts, ars, ends⟩ ⟨a1, c1, a2, c2, a3, c3⟩)) := KM.out
        have KS1 : Hid (Blk (wr.drewN nq) (w.heap.size + 1) 25 (mcells ⟨st2, ev2, starts2, ars2, ends2⟩ ⟨d1, e1, d2, e2, d3, e3⟩)) := KS.out
        have I1' : Hid (At (wr.drewN nq) sy ys) := At.drewN I1.out nq
        have HG1 : Hid (g < (wr.drewN nq).heap.size) := HG.out
        replace c2q : (wr.drewN nq).cell? ⟨g, o + k * 2 + 1, none⟩ = some (.slice sy ys.length sk) := c2q
        clear KEY1 x0 x1 x2 x3 x4 c1q I1 HG B KM KS
        revert B1 KM1 KS1 I1' HG1 c2q
        generalize wr.drewN nq = V2
        intro B1 KM1 KS1 I1' HG1 c2q
        go_wp2_with fail
        refine wp_region_held_drew (S := fun w' => w'.cell? ⟨g, o + k * 2 + 1, none⟩ = some (.slice sy ys.length sk) ∧ w'.cell? ⟨w.heap.size + 1, 4, none⟩ = some (.slice d3 ends2.length e3)) (by kernel_rfl) ⟨c2q, KS1.out.cell 4 rfl⟩ (fun hS => ?_)
        have bd : Below V2.heap.size V2 V2.drew := (Below.refl _ _).drew
        replace B1 := Hid.of (B1.out.trans (bd.mono B1.out.size))
        replace KM1 := Hid.of (KM1.out.below bd KM1.out.lt)
        replace KS1 := Hid.of (KS1.out.below bd KS1.out.lt)
        replace I1' := Hid.of (I1'.out.below bd (Nat.le_refl _))
        replace c2q : V2.drew.cell? ⟨g, o + k * 2 + 1, none⟩ = some (.slice sy ys.length sk) := c2q
        replace HG1 : Hid (g < V2.drew.heap.size) := HG1.out
        clear bd
        revert hS B1 KM1 KS1 I1' c2q HG1
        generalize V2.drew = Y
        intro hS B1 KM1 KS1 I1' c2q HG1
        refine wpAnyH_take (i := 0) (v := .slice (some ⟨g, o, none⟩) l.length lc) rfl (by kernel_rfl) (by kernel_rfl) (by kernel_rfl) (fun _ _ _ h => h) (Or.inl ⟨by kernel_rfl, fun w' hw' => by obtain ⟨q0, q1⟩ := hw'; go_simp⟩) hS ?_
        refine wpAnyH_take (i := 1) (v := .int .i64 k) rfl (by kernel_rfl) (by kernel_rfl) (by kernel_rfl) (fun _ _ _ h => h) (Or.inl ⟨by kernel_rfl, fun w' hw' => by obtain ⟨q0, q1⟩ := hw'; go_simp⟩) hS ?_
        refine wpAnyH_take (i := 2) (v := .pointer (some ⟨g, o + k * 2, none⟩)) rfl (by kernel_rfl) (by kernel_rfl) (by kernel_rfl) (fun _ _ _ h => h) (Or.inl ⟨by kernel_rfl, fun w' hw' => by obtain ⟨q0, q1⟩ := hw'; go_simp⟩) hS ?_
        refine wpAnyH_take (i := 3) (v := .pointer (some ⟨g, o + k * 2 + 1, none⟩)) rfl (by kernel_rfl) (by kernel_rfl) (by kernel_rfl) (fun _ _ _ h => h) (Or.inl ⟨by kernel_rfl, fun w' hw' => by obtain ⟨q0, q1⟩ := hw'; go_simp⟩) hS ?_
        refine wpAnyH_take (i := 4) (v := .slice sy ys.length sk) rfl (by kernel_rfl) (by kernel_rfl) (by kernel_rfl) (fun _ _ _ h => h) (Or.inl ⟨by kernel_rfl, fun w' hw' => by obtain ⟨q0, q1⟩ := hw'; go_simp⟩) hS ?_
        refine wpAnyH_take (i := 5) (v := .pointer (some ⟨w.heap.size + 1, 4, none⟩)) rfl (by kernel_rfl) (by kernel_rfl) (by kernel_rfl) (fun _ _ _ h => h) (Or.inl ⟨by kernel_rfl, fun w' hw' => by obtain ⟨q0, q1⟩ := hw'; go_simp⟩) hS ?_
        refine wpAnyH_take (i := 6) (v := .slice d3 ends2.length e3) rfl (by kernel_rfl) (by kernel_rfl) (by kernel_rfl) (fun _ _ _ h => h) (Or.inl ⟨by kernel_rfl, fun w' hw' => by obtain ⟨q0, q1⟩ := hw'; go_simp⟩) hS ?_
        simp only [Act.put, List.setIfInBounds_toArray]
        refine wpAnyH_ready (rs := [7]) (by kernel_rfl) (by simp) ?_
        refine AllReadyH.cons rfl (fun K' hK' => ?_) AllReadyH.nil
        clear hS
        go_simp
        refine (only_any sy d3 sk e3 ys ends2 true Y I1'.out (Nat.le_trans hyl.out (by decide)) (hms.out.e.below B1.out (Nat.le_refl _)) el2.out).mono ?_
        rintro e Y1 ⟨oa, oc, rfl, -, -, hb⟩
        replace B1 := Hid.of (B1.out.trans (hb.mono B1.out.size))
        replace KM1 := Hid.of (KM1.out.below hb KM1.out.lt)
        replace KS1 := Hid.of (KS1.out.below hb KS1.out.lt)
        replace c2q := (hb.cell (p := ⟨g, o + k * 2 + 1, none⟩) HG1.out).trans c2q
        obtain ⟨E, HE⟩ : ∃ E, Hid (E = endN ends2 ys) := ⟨_, rfl⟩
        rw [show (ys.filter fun n => hasB ends2 n == true) = E from HE.out.symm]
        rw [← HE.out] at HS0 HO0
        refine hK'.out _ _ ⟨c2q, KS1.out.cell 4 rfl⟩ (fun hS => ?_)
        clear hK' K' hb c2q HG1 I1'
        refine wpAnyH_take (i := 8) (v := .slice oa E.length oc) rfl (by kernel_rfl) (by kernel_rfl) (by kernel_rfl) (fun _ _ _ h => h) (Or.inl ⟨by kernel_rfl, fun w' hw' => by obtain ⟨q0, q1⟩ := hw'; go_simp⟩) hS ?_
        refine wpAnyH_done (by kernel_rfl) ?_ _
        clear hS
        by_cases hE : 0 < E.length
        · have hEI : decide ((0 : Int) < (E.length : Int)) = true := by rw [decide_eq_true_eq]; omega
          have HS1 : Hid (secQ ⟨st, ev, starts, ars, ends⟩ ⟨st2, ev2, starts2, ars2, ends2⟩ (l.take (k + 1)) = true) := by show _ = _; rw [HS0.out, decide_eq_true hE]; simp
          have HO1 : Hid (opnQ ⟨st, ev, starts, ars, ends⟩ ⟨st2, ev2, starts2, ars2, ends2⟩ (l.take (k + 1)) = p9) := by show _ = _; rw [HO0.out, decide_eq_true hE]; simp
          go_wp2_with fail
          go_roundw
          case rel => exact ⟨k + 1, by go_num, by omega, by rw [HS1.out], by rw [HO1.out], B1, KM1, KS1⟩
          case measure => simp [intOf]; omega
        · have hEI : decide ((0 : Int) < (E.length : Int)) = false := by rw [decide_eq_false_iff_not]; omega
          have hE0 : E.length = 0 := by omega
          have HS1 : Hid (secQ ⟨st, ev, starts, ars, ends⟩ ⟨st2, ev2, starts2, ars2, ends2⟩ (l.take (k + 1)) = p8) := by show _ = _; rw [HS0.out, decide_eq_false hE]; simp
          have HO1 : Hid (opnQ ⟨st, ev, starts, ars, ends⟩ ⟨st2, ev2, starts2, ars2, ends2⟩ (l.take (k + 1)) = true) := by show _ = _; rw [HO0.out, decide_eq_false hE]; simp
          go_wp2_with fail
          go_roundw
          case rel => exact ⟨k + 1, by go_num, by omega, by rw [HS1.out], by rw [HO1.out], B1, KM1, KS1⟩
          case measure => simp [intOf]; omega
    · have hkD : decide ((k : Int) < (l.length : Int)) = false := by simp; omega
      rw [List.take_of_length_le (by omega)] at H8 H9
      go_wp2_with fail
      exact bodyPost_ret (v := .tuple #[.bool p8, .bool p9]) (by simp [results, go_sem]) rfl ⟨by rw [H8.out, H9.out], B.out⟩

theorem rqjudge_any (m s : Mach) (lm ls : ML) (n : Nat) (la : Option Addr) (lc : Nat) (l : List Pla) (w : World) (hma : MAt w m lm) (hms : MAt w s ls) (hn : n ≤ w.heap.size) (hv : AtQ n w la l) (hll : l.length ≤ 4096) (hsz : ∀ x ∈ l, x.2.length ≤ 4096) :
    Calls Tryd.prog 45 #[mval m lm, mval s ls, .slice la l.length lc] w fun e w' => e = .returned (.tuple #[.bool (secQ m s l), .bool (opnQ m s l)]) ∧ Below w.heap.size w w' := by
  obtain ⟨st, ev, starts, ars, ends⟩ := m
  obtain ⟨st2, ev2, starts2, ars2, ends2⟩ := s
  obtain ⟨a1, c1, a2, c2, a3, c3⟩ := lm
  obtain ⟨d1, e1, d2, e2, d3, e3⟩ := ls
  exact rqjudge_go st ev starts ars ends a1 c1 a2 c2 a3 c3 st2 ev2 starts2 ars2 ends2 d1 e1 d2 e2 d3 e3 n la lc l w (Hid.of hma) (Hid.of hms) hn (Hid.of hv) hll (Hid.of hsz)

end Go.Proofs.YtgebfkmfhpcdhaaDoor
namespace Go.Proofs.YtgebfkmfhpcdhaaDoor
open Go.RowKit
set_option linter.unusedVariables false

/-- What is wrong (L1). -/
def secErr (m s : Mach) (seen : List Int) : Int := if mayB m = true ∧ mayB s = true then (if m.ev = s.ev then (if rowB m.ev seen = true then (if m.st ≤ 6 ∧ s.st ≤ 4 then 0 else 1) else 2) else 3) else 2
/-- What Leak answers. -/
def secOut (m s : Mach) (seen : List Int) : Bool × List Int × Int := if secErr m s seen = 0 then (match outQ m s seen with
  | none => (false, [], 1)
  | some o => (o.isSome, o.getD [], 0)) else (false, [], secErr m s seen)
theorem secErr_m {m s : Mach} (h : mayB m = false) (seen : List Int) : secErr m s seen = 2 := by unfold secErr; rw [if_neg (by rw [h]; simp)]
theorem secErr_s {m s : Mach} (h : mayB s = false) (seen : List Int) : secErr m s seen = 2 := by unfold secErr; rw [if_neg (by rw [h]; simp)]
theorem secErr_k {m s : Mach} (hm : mayB m = true) (hs : mayB s = true) (h : ¬ m.ev = s.ev) (seen : List Int) : secErr m s seen = 3 := by unfold secErr; rw [if_pos ⟨hm, hs⟩, if_neg h]
theorem secErr_r {m s : Mach} (hm : mayB m = true) (hs : mayB s = true) (he : m.ev = s.ev) {seen : List Int} (h : rowB m.ev seen = false) : secErr m s seen = 2 := by unfold secErr; rw [if_pos ⟨hm, hs⟩, if_pos he, if_neg (by rw [h]; simp)]
theorem secErr_z {m s : Mach} (hm : mayB m = true) (hs : mayB s = true) (he : m.ev = s.ev) {seen : List Int} (hr : rowB m.ev seen = true) (h : ¬ (m.st ≤ 6 ∧ s.st ≤ 4)) : secErr m s seen = 1 := by unfold secErr; rw [if_pos ⟨hm, hs⟩, if_pos he, if_pos hr, if_neg h]
theorem secErr_ok {m s : Mach} (hm : mayB m = true) (hs : mayB s = true) (he : m.ev = s.ev) {seen : List Int} (hr : rowB m.ev seen = true) (h1 : m.st ≤ 6) (h2 : s.st ≤ 4) : secErr m s seen = 0 := by unfold secErr; rw [if_pos ⟨hm, hs⟩, if_pos he, if_pos hr, if_pos ⟨h1, h2⟩]
theorem secOut_bad {m s : Mach} {seen : List Int} {c : Int} (h : secErr m s seen = c) (hc : c ≠ 0) : secOut m s seen = (false, [], c) := by unfold secOut; rw [h, if_neg hc]
theorem secOut_big {m s : Mach} {seen : List Int} (h : secErr m s seen = 0) (ho : outQ m s seen = none) : secOut m s seen = (false, [], 1) := by unfold secOut; rw [if_pos h, ho]
theorem secOut_ok {m s : Mach} {seen : List Int} {o : Option (List Int)} (h : secErr m s seen = 0) (ho : outQ m s seen = some o) : secOut m s seen = (o.isSome, o.getD [], 0) := by unfold secOut; rw [if_pos h, ho]

end Go.Proofs.YtgebfkmfhpcdhaaDoor
namespace Go.Proofs.YtgebfkmfhpcdhaaDoor
open Go.RowKit
set_option linter.unusedVariables false

set_option maxRecDepth 100000 in
set_option maxHeartbeats 8000000 in
theorem qrefuse_any (a b : Mach) (la lb : ML) (sa : Option Addr) (sc : Nat) (seen : List Int) (w : World) (h : Hid (MAt w a la)) (h' : Hid (MAt w b lb)) (hs : Hid (At w sa seen)) (hsl : Hid (seen.length ≤ maxLen)) :
    Calls Tryd.prog 91 #[mval a la, mval b lb, .slice sa seen.length sc] w fun e w' => e = .returned (.int .i64 (secErr a b seen)) ∧ Below w.heap.size w w' := by
  have B0 : Hid (Below w.heap.size w ((w.alloc (.cells (mcells a la) 25)).alloc (.cells (mcells b lb) 25))) := ((Below.refl _ _).alloc (Nat.le_refl _) _).alloc (by simp) _
  have KA0 : Hid (Blk ((w.alloc (.cells (mcells a la) 25)).alloc (.cells (mcells b lb) 25)) w.heap.size 25 (mcells a la)) := (Blk.new w _ _).alloc _
  have KB0 : Hid (Blk ((w.alloc (.cells (mcells a la) 25)).alloc (.cells (mcells b lb) 25)) (w.heap.size + 1) 25 (mcells b lb)) := by
    have := Blk.new (w.alloc (.cells (mcells a la) 25)) 25 (mcells b lb)
    rwa [World.size_alloc] at this
  go_enter Tryd.func91, Tryd.ntmps91
  go_wp2_with fail
  revert B0 KA0 KB0
  generalize (w.alloc (.cells (mcells a la) 25)).alloc (.cells (mcells b lb) 25) = V0
  intro B0 KA0 KB0
  refine (pMay_any a la _ (h.out.below B0.out (Nat.le_refl _))).mono ?_
  rintro e V ⟨rfl, hb1⟩
  have B1 := Hid.of (B0.out.trans (hb1.mono B0.out.size))
  have KA1 := Hid.of (KA0.out.below hb1 KA0.out.lt)
  have KB1 := Hid.of (KB0.out.below hb1 KB0.out.lt)
  clear hb1 B0 KA0 KB0
  cases hma : mayB a with
  | false =>
    have HW : Hid (secErr a b seen = 2) := secErr_m hma seen
    clear hma
    go_wp2_with fail
    exact bodyPost_ret (v := .int .i64 2) (by simp [results, go_sem]) rfl ⟨by rw [HW.out], B1.out⟩
  | true =>
    have HA := Hid.of hma
    clear hma
    obtain ⟨y0, y1, y2, y3, y4⟩ := mcell_at KB1.out
    go_wp2_with fail
    refine (pMay_any b lb _ (h'.out.below B1.out (Nat.le_refl _))).mono ?_
    rintro e V2 ⟨rfl, hb1⟩
    have B2 := Hid.of (B1.out.trans (hb1.mono B1.out.size))
    have KA2 := Hid.of (KA1.out.below hb1 KA1.out.lt)
    have KB2 := Hid.of (KB1.out.below hb1 KB1.out.lt)
    clear hb1 B1 KA1 KB1 y0 y1 y2 y3 y4
    cases hmb : mayB b with
    | false =>
      have HW : Hid (secErr a b seen = 2) := secErr_s hmb seen
      clear hmb
      go_wp2_with fail
      exact bodyPost_ret (v := .int .i64 2) (by simp [results, go_sem]) rfl ⟨by rw [HW.out], B2.out⟩
    | true =>
      have HB := Hid.of hmb
      clear hmb
      obtain ⟨st, ev, starts, ars, ends⟩ := a
      obtain ⟨sb, eb, startsB, arsB, endsB⟩ := b
      obtain ⟨a1, c1, a2, c2, a3, c3⟩ := la
      obtain ⟨b1, d1, b2, d2, b3, d3⟩ := lb
      obtain ⟨x0, x1, x2, x3, x4⟩ := mcell_at KA2.out
      obtain ⟨y0, y1, y2, y3, y4⟩ := mcell_at KB2.out
      dsimp only at x0 x1 x2 x3 x4 y0 y1 y2 y3 y4
      have HSA := Hid.of (hs.out.below B2.out (Nat.le_refl _))
      by_cases he : ev = eb
      · have de : (ev != eb) = false := by rw [he]; simp
        have HEQ : Hid (ev = eb) := he
        clear he
        go_wp2_with fail
        refine (rowIs_any sa sc seen ev V2 HSA.out hsl.out).mono ?_
        rintro e V3 ⟨rfl, rfl⟩
        cases hr : rowB ev seen with
        | false =>
          have HE : Hid (secErr ⟨st, ev, starts, ars, ends⟩ ⟨sb, eb, startsB, arsB, endsB⟩ seen = 2) := secErr_r HA.out HB.out HEQ.out hr
          clear hr
          go_wp2_with fail
          exact bodyPost_ret (v := .int .i64 2) (by simp [results, go_sem]) rfl ⟨by rw [HE.out], B2.out⟩
        | true =>
          have HR := Hid.of hr
          clear hr
          by_cases h6 : st ≤ 6
          · have d6 : decide ((6 : Int) < st) = false := by simp; omega
            by_cases h4 : sb ≤ 4
            · have d4 : decide ((4 : Int) < sb) = false := by simp; omega
              have HE : Hid (secErr ⟨st, ev, starts, ars, ends⟩ ⟨sb, eb, startsB, arsB, endsB⟩ seen = 0) := secErr_ok HA.out HB.out HEQ.out HR.out h6 h4
              go_wp2_with fail
              exact bodyPost_ret (v := .int .i64 0) (by simp [results, go_sem]) rfl ⟨by rw [HE.out], B2.out⟩
            · have d4 : decide ((4 : Int) < sb) = true := by simp; omega
              have HE : Hid (secErr ⟨st, ev, starts, ars, ends⟩ ⟨sb, eb, startsB, arsB, endsB⟩ seen = 1) := secErr_z HA.out HB.out HEQ.out HR.out (fun h => h4 h.2)
              go_wp2_with fail
              exact bodyPost_ret (v := .int .i64 1) (by simp [results, go_sem]) rfl ⟨by rw [HE.out], B2.out⟩
          · have d6 : decide ((6 : Int) < st) = true := by simp; omega
            have HE : Hid (secErr ⟨st, ev, starts, ars, ends⟩ ⟨sb, eb, startsB, arsB, endsB⟩ seen = 1) := secErr_z HA.out HB.out HEQ.out HR.out (fun h => h6 h.1)
            go_wp2_with fail
            exact bodyPost_ret (v := .int .i64 1) (by simp [results, go_sem]) rfl ⟨by rw [HE.out], B2.out⟩
      · have de : (ev != eb) = true := by simp [he]
        have HE : Hid (secErr ⟨st, ev, starts, ars, ends⟩ ⟨sb, eb, startsB, arsB, endsB⟩ seen = 3) := secErr_k HA.out HB.out he seen
        clear he
        go_wp2_with fail
        exact bodyPost_ret (v := .int .i64 3) (by simp [results, go_sem]) rfl ⟨by rw [HE.out], B2.out⟩

end Go.Proofs.YtgebfkmfhpcdhaaDoor
