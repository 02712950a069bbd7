/-
  The walk of jalousieref9.Forward.
-/
import Derived.Test.YtmlkpdeidpcidaaDoorH28
import Derived.Test.YtmlkpdeidpcidaaDoorH04
import Derived.Test.YtmlkpdeidpcidaaDoorH07
import Derived.Test.YtmlkpdeidpcidaaDoorH05
namespace Go.Proofs.YtmlkpdeidpcidaaDoor
open Go.RowKit
set_option linter.unusedVariables false

/-- What is known, with the lists of events. -/
def knL (seen : List Int) (l : List (List Int × List Int)) : List Kno := l.map fun x => (x.1, wordS seen x.2)
theorem knL_len (seen : List Int) (l : List (List Int × List Int)) : (knL seen l).length = l.length := by simp [knL]
theorem knL_at {seen : List Int} {l : List (List Int × List Int)} {k : Nat} {x : List Int × List Int} (h : l[k]? = some x) : (knL seen l)[k]? = some (x.1, wordS seen x.2) := by simp [knL, h]
theorem knL_known (seen : List Int) (l : List (List Int × List Int)) (s : List Int) : knownB (knL seen l) s = knownB l s := by simp [knownB, knL, List.any_map, Function.comp_def]
theorem own_empty_blk {W : World} {b : Nat} (h : Blk W b 3 #[]) : Own W b (.slice (some ⟨b, 0, none⟩) 0 0) [] := by
  refine ⟨rfl, .inr ⟨b, 0, #[], rfl, Nat.le_refl _, h, Nat.le_refl _, Nat.zero_le _, rfl, rfl⟩⟩
theorem at_one_blk {W : World} {b : Nat} {x : Int} (h : Blk W b 3 #[.int .i64 x]) : At W (some ⟨b, 0, none⟩) [x] := by
  refine .inr ⟨b, 0, rfl, h.lt, fun j hj => ?_⟩
  have hj : j = 0 := by simp at hj; exact hj
  subst hj
  exact h.cell 0 rfl
theorem knL_snoc (seen : List Int) (l : List (List Int × List Int)) (s u : List Int) (e : Nat) : knL seen (l ++ [(s, u ++ [(e : Int)])]) = knL seen l ++ [(s, wordS seen u ++ [seen[e]?.getD 0])] := by simp [knL, wordS]

set_option maxRecDepth 100000 in
set_option maxHeartbeats 16000000 in
theorem rfwd_go (st : Nat) (ev : Int) (starts : List Int) (ars : List Arr) (ends seen secret : List Int) (a1 : Option Addr) (c1 : Nat) (a2 : Option Addr) (c2 : Nat) (a3 : Option Addr) (c3 : Nat) (sa : Option Addr) (sc : Nat) (ta : Option Addr) (tc : Nat) (w : World) (h : Hid (PAt w ⟨⟨(st : Int), ev, starts, ars, ends⟩, seen, secret⟩ ⟨⟨a1, c1, a2, c2, a3, c3⟩, sa, sc, ta, tc⟩)) (hm : Hid (mayB ⟨(st : Int), ev, starts, ars, ends⟩ = true)) (z : st ≤ 6) (h8 : seen.length ≤ 8) :
    Calls Tryd.prog 34 #[ptval ⟨⟨(st : Int), ev, starts, ars, ends⟩, seen, secret⟩ ⟨⟨a1, c1, a2, c2, a3, c3⟩, sa, sc, ta, tc⟩] w fun e w' => KnoPost w (knL seen (fwdL ⟨⟨(st : Int), ev, starts, ars, ends⟩, seen, secret⟩)) e w' := by
  have hz := mayB_size hm.out
  unfold sizeOk at hz
  dsimp only at hz
  have hlen : Hid (ars.length ≤ 4096) := show _ ≤ _ by omega
  clear hz
  have hto : Hid (∀ a ∈ ars, 0 ≤ a.t ∧ a.t < (256 : Nat)) := may_to hm.out
  have hsl : Hid (starts.length ≤ 4096) := by
    have h2 := may_starts hm.out
    have := nodup_len 256 _ (inc_nodup h2.1) (fun x hx => by have := h2.2 x hx; dsimp only at this; omega)
    show _ ≤ _
    dsimp only at this
    omega
  have hBD : Hid (∀ (k n : Nat) (l : List (List Int × List Int)), BI (seeD ⟨⟨(st : Int), ev, starts, ars, ends⟩, seen, secret⟩) (wideL ars seen starts) seen.length k n l → l.length ≤ 64) := fun k n l hI => fwd_bound (p := ⟨⟨(st : Int), ev, starts, ars, ends⟩, seen, secret⟩) hm.out (show (st : Int) ≤ 6 by omega) hI
  have hrow : Hid (∀ (k n : Nat) (l : List (List Int × List Int)), BI (seeD ⟨⟨(st : Int), ev, starts, ars, ends⟩, seen, secret⟩) (wideL ars seen starts) seen.length k n l → ∀ x ∈ l, x.1.length ≤ 4096) := fun k n l hI x hx => by
    have e1 := fwd_est (p := ⟨⟨(st : Int), ev, starts, ars, ends⟩, seen, secret⟩) hI hx
    have h2 := est_in (p := ⟨⟨(st : Int), ev, starts, ars, ends⟩, seen, secret⟩) hm.out (wordS seen x.2)
    rw [e1]
    have := nodup_len 256 _ (inc_nodup h2.1) (fun y hy => by have := h2.2 y hy; dsimp only at this; omega)
    exact Nat.le_trans this (by decide)
  have B : Hid (Below w.heap.size w (w.alloc (.cells (ptcells ⟨⟨(st : Int), ev, starts, ars, ends⟩, seen, secret⟩ ⟨⟨a1, c1, a2, c2, a3, c3⟩, sa, sc, ta, tc⟩) 44))) := (Below.refl _ _).alloc (Nat.le_refl _) _
  have K : Hid (Blk (w.alloc (.cells (ptcells ⟨⟨(st : Int), ev, starts, ars, ends⟩, seen, secret⟩ ⟨⟨a1, c1, a2, c2, a3, c3⟩, sa, sc, ta, tc⟩) 44)) w.heap.size 44 (ptcells ⟨⟨(st : Int), ev, starts, ars, ends⟩, seen, secret⟩ ⟨⟨a1, c1, a2, c2, a3, c3⟩, sa, sc, ta, tc⟩)) := Blk.new w _ _
  go_enter Tryd.func34, Tryd.ntmps34
  go_wp2_with fail
  revert B K
  show Hid (Below w.heap.size w (w.alloc (.cells #[.int .i64 st, .int .i64 ev, .slice a1 starts.length c1, .slice a2 ars.length c2, .slice a3 ends.length c3, .slice sa seen.length sc, .slice ta secret.length tc] 44))) → _
  generalize w.alloc (.cells #[.int .i64 st, .int .i64 ev, .slice a1 starts.length c1, .slice a2 ars.length c2, .slice a3 ends.length c3, .slice sa seen.length sc, .slice ta secret.length tc] 44) = V0
  intro B K
  refine (refWide_any ⟨(st : Int), ev, starts, ars, ends⟩ ⟨a1, c1, a2, c2, a3, c3⟩ a1 sa c1 sc starts seen V0 (h.out.m.a.below B.out (Nat.le_refl _)) hlen.out hto.out (h.out.m.s.below B.out (Nat.le_refl _)) hsl.out h.out.m.s3 (h.out.s.at_.below B.out (Nat.le_refl _)) h.out.s.len).mono ?_
  rintro e W1 ⟨v, rfl, ov, hb⟩
  replace B := Hid.of (B.out.trans (hb.mono B.out.size))
  replace K := Hid.of (K.out.below hb K.out.lt)
  have hlo : Hid (w.heap.size + 1 ≤ W1.heap.size) := K.out.lt
  obtain ⟨fa, fc, hfa, -, -, -⟩ := own_form2 ov
  subst hfa
  have IV : Hid (InnW w.heap.size W1 (.slice fa (wideL ars seen starts).length fc) (wideL ars seen starts)) := InnW.of_own ov
  clear hb ov
  have HE0 : Hid (fwdL ⟨⟨(st : Int), ev, starts, ars, ends⟩, seen, secret⟩ = bfGo (seeD ⟨⟨(st : Int), ev, starts, ars, ends⟩, seen, secret⟩) seen.length 65 0 [(wideL ars seen starts, [])]) := rfl
  have HI0 : Hid (BI (seeD ⟨⟨(st : Int), ev, starts, ars, ends⟩, seen, secret⟩) (wideL ars seen starts) seen.length 0 0 [(wideL ars seen starts, [])]) := bi_start _ _ _
  revert IV HE0 HI0
  generalize hw0 : wideL ars seen starts = first at hBD hrow ⊢
  clear hw0
  intro IV HE0 HI0
  have bX : Below W1.heap.size W1 (W1.alloc (.cells #[.slice fa first.length fc, .slice none 0 0] 117)) := (Below.refl _ _).alloc (Nat.le_refl _) _
  have HX : Hid (KF w (W1.alloc (.cells #[.slice fa first.length fc, .slice none 0 0] 117)) ⟨⟨(st : Int), ev, starts, ars, ends⟩, seen, secret⟩ ⟨⟨a1, c1, a2, c2, a3, c3⟩, sa, sc, ta, tc⟩ (.slice (some ⟨W1.heap.size, 0, none⟩) 1 1) (knL seen [(first, [])])) := by
    refine ⟨B.out.trans (bX.mono B.out.size), K.out.below bX K.out.lt, ⟨[.slice fa first.length fc, .slice none 0 0], ?_, fun j x xs e1 e2 => ?_⟩, by have := hlo.out; simp; omega⟩
    · exact World.ownsRow_lit W1 (base := w.heap.size + 1) (e := 117) (size := 2) #[.slice fa first.length fc, .slice none 0 0] 1 hlo.out (by decide) rfl
    · have e2' : [first, []][j]? = some xs := e2
      match j, e1, e2' with
      | 0, e1, e2 =>
        have q1 : Value.slice fa first.length fc = x := by simpa using e1
        have q2 : first = xs := by simpa using e2
        rw [← q1, ← q2]
        exact IV.out.below bX B.out.size
      | 1, e1, e2 =>
        have q1 : Value.slice none 0 0 = x := by simpa using e1
        have q2 : [] = xs := by simpa using e2
        rw [← q1, ← q2]
        exact innW_nil _ _
      | j + 2, e1, e2 => simp at e1
  clear bX IV
  go_wp2_with fail
  clear B K hlo
  revert HX
  generalize W1.alloc (.cells #[.slice fa first.length fc, .slice none 0 0] 117) = X
  generalize W1.heap.size = bX
  intro HX
  obtain ⟨i0, hi, hz0, hz1, hz2⟩ := info_parts Tryd.infoKnown
  obtain ⟨k0, ki, kz0, kz1, kz2⟩ := info_parts Tryd.infoInt
  go_loopw [4, 5] (fun v i wr => ∃ (k : Nat) (l : List (List Int × List Int)), i = .int .i64 k ∧ k ≤ l.length ∧ Hid (KF w wr ⟨⟨(st : Int), ev, starts, ars, ends⟩, seen, secret⟩ ⟨⟨a1, c1, a2, c2, a3, c3⟩, sa, sc, ta, tc⟩ v (knL seen l)) ∧ Hid (BI (seeD ⟨⟨(st : Int), ev, starts, ars, ends⟩, seen, secret⟩) first seen.length k 0 l) ∧ Hid (fwdL ⟨⟨(st : Int), ev, starts, ars, ends⟩, seen, secret⟩ = bfGo (seeD ⟨⟨(st : Int), ev, starts, ars, ends⟩, seen, secret⟩) seen.length (65 - k) k l)) (fun _ i _ => 65 - (intOf i).toNat)
  case atStart => exact ⟨0, _, rfl, Nat.zero_le _, HX, HI0, HE0⟩
  case round =>
    clear HX HI0 HE0
    obtain ⟨k, l, rfl, hk, HR, HI, HE⟩ := hrel
    have hpos : 0 < l.length := (List.getElem?_eq_some_iff.1 HI.out.hd).1
    have h64 : l.length ≤ 64 := hBD.out _ _ _ HI.out
    obtain ⟨g, cap, hv, -, -, -, -⟩ := HR.out.ow.cellsK (by rw [knL_len]; exact hpos)
    rw [knL_len] at hv
    subst hv
    by_cases hlt : k < l.length
    · obtain ⟨x, HP⟩ : ∃ x, Hid (l[k]? = some x) := ⟨_, List.getElem?_eq_getElem hlt⟩
      have hltI : (k : Int) < (l.length : Int) := by omega
      have hltD : decide ((k : Int) < (l.length : Int)) = true := by simpa using hltI
      go_wp2_with fail
      go_loopw [4, 6] (fun v i wr => ∃ (e : Nat), i = .int .i64 e ∧ e ≤ seen.length ∧ Hid (KF w wr ⟨⟨(st : Int), ev, starts, ars, ends⟩, seen, secret⟩ ⟨⟨a1, c1, a2, c2, a3, c3⟩, sa, sc, ta, tc⟩ v (knL seen (bfRow (seeD ⟨⟨(st : Int), ev, starts, ars, ends⟩, seen, secret⟩) x l e)))) (fun _ i _ => seen.length - (intOf i).toNat)
      case atStart => exact ⟨0, rfl, Nat.zero_le _, HR⟩
      case round =>
        clear HR hltI hltD
        obtain ⟨e, rfl, hee, HR⟩ := hrel
        have HIe := Hid.of (bi_row _ HI.out HP.out e hee)
        have HSuc : Hid (bfRow (seeD ⟨⟨(st : Int), ev, starts, ars, ends⟩, seen, secret⟩) x l (e + 1) = bfStep (seeD ⟨⟨(st : Int), ev, starts, ars, ends⟩, seen, secret⟩) x (bfRow (seeD ⟨⟨(st : Int), ev, starts, ars, ends⟩, seen, secret⟩) x l e) e) := bfRow_succ _ _ _ _
        have HPe : Hid ((bfRow (seeD ⟨⟨(st : Int), ev, starts, ars, ends⟩, seen, secret⟩) x l e)[k]? = some x) := by
          obtain ⟨t, ht⟩ := bfRow_pre (seeD ⟨⟨(st : Int), ev, starts, ars, ends⟩, seen, secret⟩) x l e
          show _ = _
          rw [ht, List.getElem?_append_left hlt]; exact HP.out
        obtain ⟨l1, HL1⟩ : ∃ l1, Hid (l1 = bfRow (seeD ⟨⟨(st : Int), ev, starts, ars, ends⟩, seen, secret⟩) x l e) := ⟨_, rfl⟩
        rw [← HL1.out] at HR HIe HSuc HPe
        have hk1 : k < l1.length := (List.getElem?_eq_some_iff.1 HPe.out).1
        have hl1 : l1.length ≤ 64 := hBD.out _ _ _ HIe.out
        have hwl : Hid (x.2.length ≤ 64) := by have := bi_wlen HIe.out k x HPe.out; show _ ≤ _; omega
        have hxl1 : Hid (x.1.length ≤ 4096) := hrow.out _ _ _ HIe.out x (List.mem_of_getElem? HPe.out)
        obtain ⟨g, cap, hv, hg, hgs, -, hcc⟩ := HR.out.ow.cells (by rw [knL_len]; omega)
        rw [knL_len] at hv
        subst hv
        obtain ⟨xv, zv, cx, cz, ix, iz⟩ := hcc k _ (knL_at HPe.out)
        obtain ⟨xa, xc, rfl, hxa, hxl, -⟩ := ix.at
        obtain ⟨za, zc, rfl, hza, hzl, hzn⟩ := iz.at
        have IZ := Hid.of iz
        have HZN := Hid.of hzn
        have HXA := Hid.of hxa
        have HG := Hid.of hgs
        clear hcc ix iz hza hzl hzn hxa hxl hg hgs
        rw [Nat.zero_add] at cx cz
        dsimp only at cx cz
        obtain ⟨x0, x1, x2, x3, x4, x5, x6⟩ := ptcell_at HR.out.kp
        dsimp only at x0 x1 x2 x3 x4 x5 x6
        by_cases hle : e < seen.length
        · rcases h.out.s.at_ with hnil | ⟨sb, so, hsa, hsb0, hcs⟩
          · dsimp only at hnil
            rw [hnil] at hle; simp at hle
          dsimp only at hsa hcs
          subst hsa
          have hsb := Hid.of hsb0
          have hseen := Hid.of hcs
          clear hsb0 hcs
          obtain ⟨y, HY⟩ : ∃ y, Hid (y = seen[e]?.getD 0) := ⟨_, rfl⟩
          have cy : wr.cell? ⟨sb, so + e, none⟩ = some (.int .i64 y) := by
            rw [HY.out, ← List.getD_eq_getElem?_getD]
            exact (HR.out.bel.cell (p := ⟨sb, so + e, none⟩) hsb.out).trans (hseen.out e hle)
          have hleI : (e : Int) < (seen.length : Int) := by omega
          have hleD : decide ((e : Int) < (seen.length : Int)) = true := by simpa using hleI
          go_wp2_with fail
          refine wp_region_held_drew (S := fun w' => w'.cell? ⟨w.heap.size, 0, none⟩ = some (.int .i64 st) ∧ w'.cell? ⟨w.heap.size, 1, none⟩ = some (.int .i64 ev) ∧ w'.cell? ⟨w.heap.size, 2, none⟩ = some (.slice a1 starts.length c1) ∧ w'.cell? ⟨w.heap.size, 3, none⟩ = some (.slice a2 ars.length c2) ∧ w'.cell? ⟨w.heap.size, 4, none⟩ = some (.slice a3 ends.length c3) ∧ w'.cell? ⟨w.heap.size, 5, none⟩ = some (.slice (some ⟨sb, so, none⟩) seen.length sc) ∧ w'.cell? ⟨w.heap.size, 6, none⟩ = some (.slice ta secret.length tc) ∧ w'.cell? ⟨g, k * 2, none⟩ = some (.slice xa x.1.length xc) ∧ w'.cell? ⟨sb, so + e, none⟩ = some (.int .i64 y)) (by kernel_rfl) ⟨x0, x1, x2, x3, x4, x5, x6, cx, cy⟩ (fun hS => ?_)
          have HRd := Hid.of (HR.out.below (Below.refl _ wr).drew)
          have HXd : Hid (At wr.drew xa x.1) := At.drewN HXA.out 1
          have IZd : Hid (InnW w.heap.size wr.drew (.slice za (wordS seen x.2).length zc) (wordS seen x.2)) := IZ.out
          have CX : Hid (wr.drew.cell? ⟨g, k * 2, none⟩ = some (.slice xa x.1.length xc)) := cx
          have CY : Hid (wr.drew.cell? ⟨sb, so + e, none⟩ = some (.int .i64 y)) := cy
          have CZ : Hid (wr.drew.cell? ⟨g, k * 2 + 1, none⟩ = some (.slice za (wordS seen x.2).length zc)) := cz
          have HGd : Hid (g < wr.drew.heap.size) := HG.out
          clear x0 x1 x2 x3 x4 x5 x6 cx cy cz HR HXA IZ HG
          revert hS HRd HXd IZd CX CY CZ HGd
          generalize wr.drew = Y
          intro hS HRd HXd IZd CX CY CZ HGd
          refine wpAnyH_take (i := 0) (v := .pointer (some ⟨w.heap.size, 0, none⟩)) rfl (by kernel_rfl) (by kernel_rfl) (by kernel_rfl) (fun _ _ _ h => h) (Or.inl ⟨by kernel_rfl, fun w' hw' => by obtain ⟨q0, q1, q2, q3, q4, q5, q6, q7, q8⟩ := hw'; go_simp⟩) hS ?_
          refine wpAnyH_take (i := 1) (v := mval ⟨(st : Int), ev, starts, ars, ends⟩ ⟨a1, c1, a2, c2, a3, c3⟩) rfl (by kernel_rfl) (by kernel_rfl) (by kernel_rfl) (fun _ _ _ h => h) (Or.inl ⟨by kernel_rfl, fun w' hw' => by obtain ⟨q0, q1, q2, q3, q4, q5, q6, q7, q8⟩ := hw'; go_simp⟩) hS ?_
          refine wpAnyH_take (i := 2) (v := .slice (some ⟨g, 0, none⟩) l1.length cap) rfl (by kernel_rfl) (by kernel_rfl) (by kernel_rfl) (fun _ _ _ h => h) (Or.inl ⟨by kernel_rfl, fun w' hw' => by obtain ⟨q0, q1, q2, q3, q4, q5, q6, q7, q8⟩ := hw'; go_simp⟩) hS ?_
          refine wpAnyH_take (i := 3) (v := .int .i64 k) rfl (by kernel_rfl) (by kernel_rfl) (by kernel_rfl) (fun _ _ _ h => h) (Or.inl ⟨by kernel_rfl, fun w' hw' => by obtain ⟨q0, q1, q2, q3, q4, q5, q6, q7, q8⟩ := hw'; go_simp⟩) hS ?_
          refine wpAnyH_take (i := 4) (v := .pointer (some ⟨g, k * 2, none⟩)) rfl (by kernel_rfl) (by kernel_rfl) (by kernel_rfl) (fun _ _ _ h => h) (Or.inl ⟨by kernel_rfl, fun w' hw' => by obtain ⟨q0, q1, q2, q3, q4, q5, q6, q7, q8⟩ := hw'; go_simp⟩) hS ?_
          refine wpAnyH_take (i := 5) (v := .pointer (some ⟨g, k * 2, none⟩)) rfl (by kernel_rfl) (by kernel_rfl) (by kernel_rfl) (fun _ _ _ h => h) (Or.inl ⟨by kernel_rfl, fun w' hw' => by obtain ⟨q0, q1, q2, q3, q4, q5, q6, q7, q8⟩ := hw'; go_simp⟩) hS ?_
          refine wpAnyH_take (i := 6) (v := .slice xa x.1.length xc) rfl (by kernel_rfl) (by kernel_rfl) (by kernel_rfl) (fun _ _ _ h => h) (Or.inl ⟨by kernel_rfl, fun w' hw' => by obtain ⟨q0, q1, q2, q3, q4, q5, q6, q7, q8⟩ := hw'; go_simp⟩) hS ?_
          refine wpAnyH_take (i := 7) (v := .pointer (some ⟨w.heap.size, 5, none⟩)) rfl (by kernel_rfl) (by kernel_rfl) (by kernel_rfl) (fun _ _ _ h => h) (Or.inl ⟨by kernel_rfl, fun w' hw' => by obtain ⟨q0, q1, q2, q3, q4, q5, q6, q7, q8⟩ := hw'; go_simp⟩) hS ?_
          refine wpAnyH_take (i := 8) (v := .slice (some ⟨sb, so, none⟩) seen.length sc) rfl (by kernel_rfl) (by kernel_rfl) (by kernel_rfl) (fun _ _ _ h => h) (Or.inl ⟨by kernel_rfl, fun w' hw' => by obtain ⟨q0, q1, q2, q3, q4, q5, q6, q7, q8⟩ := hw'; go_simp⟩) hS ?_
          refine wpAnyH_take (i := 9) (v := .pointer (some ⟨w.heap.size, 5, none⟩)) rfl (by kernel_rfl) (by kernel_rfl) (by kernel_rfl) (fun _ _ _ h => h) (Or.inl ⟨by kernel_rfl, fun w' hw' => by obtain ⟨q0, q1, q2, q3, q4, q5, q6, q7, q8⟩ := hw'; go_simp⟩) hS ?_
          refine wpAnyH_take (i := 10) (v := .slice (some ⟨sb, so, none⟩) seen.length sc) rfl (by kernel_rfl) (by kernel_rfl) (by kernel_rfl) (fun _ _ _ h => h) (Or.inl ⟨by kernel_rfl, fun w' hw' => by obtain ⟨q0, q1, q2, q3, q4, q5, q6, q7, q8⟩ := hw'; go_simp⟩) hS ?_
          refine wpAnyH_take (i := 11) (v := .int .i64 e) rfl (by kernel_rfl) (by kernel_rfl) (by kernel_rfl) (fun _ _ _ h => h) (Or.inl ⟨by kernel_rfl, fun w' hw' => by obtain ⟨q0, q1, q2, q3, q4, q5, q6, q7, q8⟩ := hw'; go_simp⟩) hS ?_
          refine wpAnyH_take (i := 12) (v := .pointer (some ⟨sb, so + e, none⟩)) rfl (by kernel_rfl) (by kernel_rfl) (by kernel_rfl) (fun _ _ _ h => h) (Or.inl ⟨by kernel_rfl, fun w' hw' => by obtain ⟨q0, q1, q2, q3, q4, q5, q6, q7, q8⟩ := hw'; go_simp⟩) hS ?_
          refine wpAnyH_take (i := 13) (v := .int .i64 y) rfl (by kernel_rfl) (by kernel_rfl) (by kernel_rfl) (fun _ _ _ h => h) (Or.inl ⟨by kernel_rfl, fun w' hw' => by obtain ⟨q0, q1, q2, q3, q4, q5, q6, q7, q8⟩ := hw'; go_simp⟩) hS ?_
          simp only [Act.put, List.setIfInBounds_toArray]
          refine wpAnyH_ready (rs := [14]) (by kernel_rfl) (by simp) ?_
          refine AllReadyH.cons rfl (fun K' hK' => ?_) AllReadyH.nil
          go_simp
          refine (refSeeing_any ⟨(st : Int), ev, starts, ars, ends⟩ ⟨a1, c1, a2, c2, a3, c3⟩ xa (some ⟨sb, so, none⟩) xc sc x.1 seen y Y (h.out.m.a.below HRd.out.bel (Nat.le_refl _)) hlen.out hto.out HXd.out (Nat.le_trans hxl1.out (by decide)) (h.out.s.at_.below HRd.out.bel (Nat.le_refl _)) h.out.s.len).mono ?_
          rintro r Y1 ⟨v8, rfl, o8, hb⟩
          replace o8 : Own Y1 Y.heap.size v8 (seeL ⟨⟨(st : Int), ev, starts, ars, ends⟩, seen, secret⟩ x.1 y) := o8
          have HR1 := Hid.of (HRd.out.below hb)
          have IZ1 := Hid.of (IZd.out.below hb HRd.out.bel.size)
          have CZ1 : Hid (Y1.cell? ⟨g, k * 2 + 1, none⟩ = some (.slice za (wordS seen x.2).length zc)) := (hb.cell (p := ⟨g, k * 2 + 1, none⟩) HGd.out).trans CZ.out
          have cx1 := (hb.cell (p := ⟨g, k * 2, none⟩) HGd.out).trans CX.out
          have cy1 := (hb.cell (p := ⟨sb, so + e, none⟩) (Nat.lt_of_lt_of_le hsb.out HRd.out.bel.size)).trans CY.out
          have HG1 : Hid (g < Y1.heap.size) := Nat.lt_of_lt_of_le HGd.out hb.size
          obtain ⟨na, nc, hna, -, -, -⟩ := own_form2 o8
          subst hna
          have I8 : Hid (InnW w.heap.size Y1 (.slice na (seeL ⟨⟨(st : Int), ev, starts, ars, ends⟩, seen, secret⟩ x.1 y).length nc) (seeL ⟨⟨(st : Int), ev, starts, ars, ends⟩, seen, secret⟩ x.1 y)) := InnW.of_own o8
          obtain ⟨x0, x1, x2, x3, x4, x5, x6⟩ := ptcell_at HR1.out.kp
          have CY1 := Hid.of cy1
          refine hK'.out _ _ ⟨x0, x1, x2, x3, x4, x5, x6, cx1, cy1⟩ (fun hS1 => ?_)
          clear hK' K' hb o8 hS x0 x1 x2 x3 x4 x5 x6 cx1 cy1 HRd HXd IZd CX CY CZ HGd
          have HST : Hid (bfStep (seeD ⟨⟨(st : Int), ev, starts, ars, ends⟩, seen, secret⟩) x l1 e = if knownB l1 (seeL ⟨⟨(st : Int), ev, starts, ars, ends⟩, seen, secret⟩ x.1 y) = true then l1 else l1 ++ [(seeL ⟨⟨(st : Int), ev, starts, ars, ends⟩, seen, secret⟩ x.1 y, x.2 ++ [(e : Int)])]) := by
            show _ = _
            rw [HY.out]; rfl
          revert I8 HST
          generalize seeL ⟨⟨(st : Int), ev, starts, ars, ends⟩, seen, secret⟩ x.1 y = to
          intro I8 HST
          refine wpAnyH_take (i := 15) (v := .slice na to.length nc) rfl (by kernel_rfl) (by kernel_rfl) (by kernel_rfl) (fun _ _ _ h => h) (Or.inl ⟨by kernel_rfl, fun w' hw' => by obtain ⟨q0, q1, q2, q3, q4, q5, q6, q7, q8⟩ := hw'; go_simp⟩) hS1 ?_
          refine wpAnyH_done (by kernel_rfl) ?_ _
          clear hS1
          obtain ⟨g', cap', hv, -, -, -, hcp⟩ := HR1.out.ow.cellsK (by rw [knL_len]; omega)
          rw [knL_len] at hv
          cases hv
          obtain ⟨ta', tc', hte, htat, htl, -⟩ := I8.out.at
          cases hte
          have KEYK : Hid (Calls Tryd.prog 81 #[.slice (some ⟨g, 0, none⟩) (knL seen l1).length cap, .slice na to.length nc] Y1 fun r w' => r = .returned (.bool (knownB (knL seen l1) to)) ∧ ∃ q, w' = Y1.drewN q) := rhas_some g 0 cap na nc (knL seen l1) to Y1 (by rw [knL_len]; omega) (Hid.of hcp) (Hid.of htat) (Hid.of htl)
          rw [knL_len, knL_known] at KEYK
          clear hcp htat htl
          go_wp2_with fail
          refine KEYK.out.mono ?_
          rintro r wF ⟨rfl, q, hq⟩
          have hb : Below Y1.heap.size Y1 wF := by rw [hq]; exact below_drewN (Below.refl _ _) q
          have hsz1 : w.heap.size ≤ Y1.heap.size := HR1.out.bel.size
          replace HR1 := Hid.of (HR1.out.below hb)
          replace I8 := Hid.of (I8.out.below hb hsz1)
          replace IZ1 := Hid.of (IZ1.out.below hb hsz1)
          replace CZ1 : Hid (wF.cell? ⟨g, k * 2 + 1, none⟩ = some (.slice za (wordS seen x.2).length zc)) := (hb.cell (p := ⟨g, k * 2 + 1, none⟩) HG1.out).trans CZ1.out
          replace CY1 : Hid (wF.cell? ⟨sb, so + e, none⟩ = some (.int .i64 y)) := by
            rw [hq]; exact CY1.out
          replace HG1 : Hid (g < wF.heap.size) := Nat.lt_of_lt_of_le HG1.out hb.size
          clear hb hq KEYK hsz1
          cases hkn : knownB l1 to with
          | true =>
            have HNX : Hid (bfRow (seeD ⟨⟨(st : Int), ev, starts, ars, ends⟩, seen, secret⟩) x l (e + 1) = l1) := by show _ = _; rw [HSuc.out, HST.out, if_pos hkn]
            clear hkn
            go_wp2_with fail
            go_roundw
            case rel => exact ⟨e + 1, by go_num, by omega, (by show KF _ _ _ _ _ _; rw [HNX.out]; exact HR1.out)⟩
            case measure => simp [intOf]; omega
          | false =>
            have HNX : Hid (knL seen (bfRow (seeD ⟨⟨(st : Int), ev, starts, ars, ends⟩, seen, secret⟩) x l (e + 1)) = knL seen l1 ++ [(to, wordS seen x.2 ++ [y])]) := by
              show _ = _
              rw [HSuc.out, HST.out, if_neg (by rw [hkn]; simp), knL_snoc, HY.out]
            have hWl : Hid ((wordS seen x.2).length ≤ 64) := by show _ ≤ _; rw [wordS_len]; exact hwl.out
            clear hkn HSuc HST
            revert HNX IZ1 CZ1 hWl
            generalize wordS seen x.2 = word
            intro IZ1 CZ1 HNX hWl
            go_wp2_with fail
            have SA : Hid (∀ W, Below wF.heap.size wF W → W.cell? ⟨w.heap.size, 0, none⟩ = some (.int .i64 st) ∧ W.cell? ⟨w.heap.size, 1, none⟩ = some (.int .i64 ev) ∧ W.cell? ⟨w.heap.size, 2, none⟩ = some (.slice a1 starts.length c1) ∧ W.cell? ⟨w.heap.size, 3, none⟩ = some (.slice a2 ars.length c2) ∧ W.cell? ⟨w.heap.size, 4, none⟩ = some (.slice a3 ends.length c3) ∧ W.cell? ⟨w.heap.size, 5, none⟩ = some (.slice (some ⟨sb, so, none⟩) seen.length sc) ∧ W.cell? ⟨w.heap.size, 6, none⟩ = some (.slice ta secret.length tc) ∧ W.cell? ⟨g, k * 2 + 1, none⟩ = some (.slice za word.length zc) ∧ W.cell? ⟨sb, so + e, none⟩ = some (.int .i64 y)) := fun W hb => by
              obtain ⟨x0, x1, x2, x3, x4, x5, x6⟩ := ptcell_at (HR1.out.below hb).kp
              exact ⟨x0, x1, x2, x3, x4, x5, x6, (hb.cell (p := ⟨g, k * 2 + 1, none⟩) HG1.out).trans CZ1.out, (hb.cell (p := ⟨sb, so + e, none⟩) (Nat.lt_of_lt_of_le hsb.out HR1.out.bel.size)).trans CY1.out⟩
            refine wp_region_held_drew (S := fun w' => w'.cell? ⟨w.heap.size, 0, none⟩ = some (.int .i64 st) ∧ w'.cell? ⟨w.heap.size, 1, none⟩ = some (.int .i64 ev) ∧ w'.cell? ⟨w.heap.size, 2, none⟩ = some (.slice a1 starts.length c1) ∧ w'.cell? ⟨w.heap.size, 3, none⟩ = some (.slice a2 ars.length c2) ∧ w'.cell? ⟨w.heap.size, 4, none⟩ = some (.slice a3 ends.length c3) ∧ w'.cell? ⟨w.heap.size, 5, none⟩ = some (.slice (some ⟨sb, so, none⟩) seen.length sc) ∧ w'.cell? ⟨w.heap.size, 6, none⟩ = some (.slice ta secret.length tc) ∧ w'.cell? ⟨g, k * 2 + 1, none⟩ = some (.slice za word.length zc) ∧ w'.cell? ⟨sb, so + e, none⟩ = some (.int .i64 y)) (by kernel_rfl) (SA.out _ (Below.refl _ _).drew) (fun hS => ?_)
            have BF : Hid (Below wF.heap.size wF wF.drew) := (Below.refl _ _).drew
            revert hS BF
            generalize wF.drew = Y0
            intro hS BF
            refine wpAnyH_take (i := 1) (v := .slice (some ⟨g, 0, none⟩) l1.length cap) rfl (by kernel_rfl) (by kernel_rfl) (by kernel_rfl) (fun _ _ _ h => h) (Or.inl ⟨by kernel_rfl, fun w' hw' => by obtain ⟨q0, q1, q2, q3, q4, q5, q6, q7, q8⟩ := hw'; go_simp⟩) hS ?_
            refine wpAnyH_take (i := 2) (v := .int .i64 k) rfl (by kernel_rfl) (by kernel_rfl) (by kernel_rfl) (fun _ _ _ h => h) (Or.inl ⟨by kernel_rfl, fun w' hw' => by obtain ⟨q0, q1, q2, q3, q4, q5, q6, q7, q8⟩ := hw'; go_simp⟩) hS ?_
            refine wpAnyH_take (i := 3) (v := .pointer (some ⟨g, k * 2, none⟩)) rfl (by kernel_rfl) (by kernel_rfl) (by kernel_rfl) (fun _ _ _ h => h) (Or.inl ⟨by kernel_rfl, fun w' hw' => by obtain ⟨q0, q1, q2, q3, q4, q5, q6, q7, q8⟩ := hw'; go_simp⟩) hS ?_
            refine wpAnyH_take (i := 4) (v := .pointer (some ⟨g, k * 2 + 1, none⟩)) rfl (by kernel_rfl) (by kernel_rfl) (by kernel_rfl) (fun _ _ _ h => h) (Or.inl ⟨by kernel_rfl, fun w' hw' => by obtain ⟨q0, q1, q2, q3, q4, q5, q6, q7, q8⟩ := hw'; go_simp⟩) hS ?_
            refine wpAnyH_take (i := 5) (v := .slice za word.length zc) rfl (by kernel_rfl) (by kernel_rfl) (by kernel_rfl) (fun _ _ _ h => h) (Or.inl ⟨by kernel_rfl, fun w' hw' => by obtain ⟨q0, q1, q2, q3, q4, q5, q6, q7, q8⟩ := hw'; go_simp⟩) hS ?_
            refine wpAnyH_take (i := 7) (v := .pointer (some ⟨w.heap.size, 5, none⟩)) rfl (by kernel_rfl) (by kernel_rfl) (by kernel_rfl) (fun _ _ _ h => h) (Or.inl ⟨by kernel_rfl, fun w' hw' => by obtain ⟨q0, q1, q2, q3, q4, q5, q6, q7, q8⟩ := hw'; go_simp⟩) hS ?_
            refine wpAnyH_take (i := 8) (v := .slice (some ⟨sb, so, none⟩) seen.length sc) rfl (by kernel_rfl) (by kernel_rfl) (by kernel_rfl) (fun _ _ _ h => h) (Or.inl ⟨by kernel_rfl, fun w' hw' => by obtain ⟨q0, q1, q2, q3, q4, q5, q6, q7, q8⟩ := hw'; go_simp⟩) hS ?_
            refine wpAnyH_take (i := 9) (v := .int .i64 e) rfl (by kernel_rfl) (by kernel_rfl) (by kernel_rfl) (fun _ _ _ h => h) (Or.inl ⟨by kernel_rfl, fun w' hw' => by obtain ⟨q0, q1, q2, q3, q4, q5, q6, q7, q8⟩ := hw'; go_simp⟩) hS ?_
            refine wpAnyH_take (i := 10) (v := .pointer (some ⟨sb, so + e, none⟩)) rfl (by kernel_rfl) (by kernel_rfl) (by kernel_rfl) (fun _ _ _ h => h) (Or.inl ⟨by kernel_rfl, fun w' hw' => by obtain ⟨q0, q1, q2, q3, q4, q5, q6, q7, q8⟩ := hw'; go_simp⟩) hS ?_
            refine wpAnyH_take (i := 11) (v := .int .i64 y) rfl (by kernel_rfl) (by kernel_rfl) (by kernel_rfl) (fun _ _ _ h => h) (Or.inl ⟨by kernel_rfl, fun w' hw' => by obtain ⟨q0, q1, q2, q3, q4, q5, q6, q7, q8⟩ := hw'; go_simp⟩) hS ?_
            simp only [Act.put, List.setIfInBounds_toArray]
            refine wpAnyH_ready (rs := [0, 12]) (by kernel_rfl) (by simp) ?_
            refine AllReadyH.cons rfl (fun K' hK' => ?_) (AllReadyH.cons rfl (fun K' hK' => ?_) AllReadyH.nil)
            · clear hS
              go_simp
              have hb : Below Y0.heap.size Y0 (Y0.alloc (.cells #[] 3)) := (Below.refl _ _).alloc (Nat.le_refl _) _
              have P52 : Hid (wF.heap.size ≤ Y0.heap.size) := BF.out.size
              replace BF := Hid.of (BF.out.trans (hb.mono BF.out.size))
              have K52 := Hid.of (Blk.new Y0 3 #[])
              refine hK'.out _ _ (SA.out _ BF.out) (fun hS => ?_)
              clear hK' K' hb
              revert P52 BF K52 hS
              generalize Y0.alloc (.cells #[] 3) = Y11
              generalize Y0.heap.size = p52
              intro P52 BF K52 hS
              refine wpAnyH_ready (rs := [6, 12]) (by kernel_rfl) (by simp) ?_
              refine AllReadyH.cons rfl (fun K' hK' => ?_) (AllReadyH.cons rfl (fun K' hK' => ?_) AllReadyH.nil)
              · clear hS
                have o0 : Own Y11 p52 (.slice (some ⟨p52, 0, none⟩) 0 0) [] := own_empty_blk K52.out
                obtain ⟨za', zc', hze, hza, -, -⟩ := (IZ1.out.below BF.out HR1.out.bel.size).at
                cases hze
                have hw64 := hWl.out
                refine step_append_ints rfl (.tmp 52) (.tmp 57) 22 rfl p52 k0 Tryd.underlying22 ki kz0 kz1 kz2 _ [] rfl o0 za zc word rfl hza HZN.out (by simp only [List.length_nil]; omega) (Nat.le_of_lt K52.out.lt) ?_
                intro v58 Y12 o1 gr
                replace o1 : Own Y12 p52 v58 word := o1
                have hb : Below wF.heap.size Y11 Y12 := (Below.refl _ _).grown gr BF.out.size (fun j hj => by cases hj; exact P52.out)
                replace BF := Hid.of (BF.out.trans hb)
                have S58 : Hid (p52 ≤ Y12.heap.size) := Nat.le_trans (Nat.le_of_lt K52.out.lt) gr.size
                obtain ⟨va, vc, hva, -, -, -⟩ := own_form2 o1
                subst hva
                have O58 := Hid.of o1
                refine hK'.out _ _ (SA.out _ BF.out) (fun hS => ?_)
                clear hK' K' hb o0 o1 gr hza hw64 K52
                refine wpAnyH_ready (rs := [12]) (by kernel_rfl) (by simp) ?_
                refine AllReadyH.cons rfl (fun K' hK' => ?_) AllReadyH.nil
                clear hS
                go_simp
                have hb : Below Y12.heap.size Y12 (Y12.alloc (.cells #[.int .i64 y] 3)) := (Below.refl _ _).alloc (Nat.le_refl _) _
                have P64 : Hid (wF.heap.size ≤ Y12.heap.size) := BF.out.size
                replace BF := Hid.of (BF.out.trans (hb.mono BF.out.size))
                replace O58 := Hid.of (own_same O58.out (fun j hj => hb.block j (World.ownsRow.lt O58.out j hj).2))
                replace S58 := Hid.of (Nat.le_trans S58.out hb.size)
                have K64 := Hid.of (Blk.new Y12 3 #[.int .i64 y])
                refine hK'.out _ _ (SA.out _ BF.out) (fun hS => ?_)
                clear hK' K' hb
                revert P64 BF O58 S58 K64 hS
                generalize Y12.alloc (.cells #[.int .i64 y] 3) = Y13
                generalize Y12.heap.size = p64
                intro P64 BF O58 S58 K64 hS
                refine wpAnyH_ready (rs := [13]) (by kernel_rfl) (by simp) ?_
                refine AllReadyH.cons rfl (fun K' hK' => ?_) AllReadyH.nil
                clear hS
                have hw64 := hWl.out
                have hax : At Y13 (some ⟨p64, 0, none⟩) [y] := at_one_blk K64.out
                refine step_append_ints rfl (.tmp 58) (.tmp 64) 22 rfl p52 k0 Tryd.underlying22 ki kz0 kz1 kz2 _ word rfl O58.out (some ⟨p64, 0, none⟩) 1 [y] rfl hax (fun h => by cases h) (by simp only [List.length_cons, List.length_nil]; omega) S58.out ?_
                intro v65 Y14 o2 gr
                have hb : Below wF.heap.size Y13 Y14 := (Below.refl _ _).grown gr BF.out.size (fun j hj => Nat.le_trans P52.out (World.ownsRow.lt O58.out j hj).1)
                replace BF := Hid.of (BF.out.trans hb)
                obtain ⟨va2, vc2, hv2, -, -, -⟩ := own_form2 o2
                have hl2 : (word ++ [y]).length = word.length + 1 := by simp
                rw [hl2] at hv2
                subst hv2
                have I2 : Hid (InnW w.heap.size Y14 (.slice va2 (word.length + 1) vc2) (word ++ [y])) := InnW.of_own o2
                refine hK'.out _ _ (SA.out _ BF.out) (fun hS => ?_)
                clear hK' K' hb o2 gr hl2 hw64 hax O58 K64 S58
                refine wpAnyH_take (i := 14) (v := .slice va2 (word.length + 1) vc2) rfl (by kernel_rfl) (by kernel_rfl) (by kernel_rfl) (fun _ _ _ h => h) (Or.inl ⟨by kernel_rfl, fun w' hw' => by obtain ⟨q0, q1, q2, q3, q4, q5, q6, q7, q8⟩ := hw'; go_simp⟩) hS ?_
                refine wpAnyH_done (by kernel_rfl) ?_ _
                clear hS
                have HR2 := Hid.of (HR1.out.below BF.out)
                have I82 := Hid.of (I8.out.below BF.out HR1.out.bel.size)
                obtain ⟨vs, ho, hin⟩ := HR2.out.ow
                rw [knL_len] at ho
                have HO := Hid.of ho
                have HIN := Hid.of hin
                clear ho hin
                have hB2 := HR2.out.hB
                have BV : Hid (Below Y14.heap.size Y14 (Y14.alloc (.cells #[.slice na to.length nc, .slice va2 (word.length + 1) vc2] 117))) := (Below.refl _ _).alloc (Nat.le_refl _) _
                go_wp2_with (at_builtin; refine wpList_append_block _ rfl (.tmp 66) (.tmp 70) 51 rfl (w.heap.size + 1) 117 i0 (.agg #[.slice none 0 0, .slice none 0 0]) 2 48 Tryd.underlying51 hi hz0 hz1 hz2 rfl (by decide) _ _ _ rfl (World.ownsRow.alloc HO.out _) ⟨Y14.heap.size, 0, none⟩ 1 1 [.slice na to.length nc, .slice va2 (word.length + 1) vc2] rfl rfl (cells_duo Y14 _ rfl _ _ _) (by intro u hu; simp at hu; rcases hu with rfl | rfl <;> rfl) (by decide) (by unfold maxLen; omega) (by omega) (by simp; omega) ?_)
                intro v7 w7 o7 g7 n7
                have P1 := Hid.of (KF.push (r := (to, word ++ [y])) HR2.out BV.out (by rw [knL_len]; exact World.ownsRow.alloc HO.out _) (fun j x xs e1 e2 => (HIN.out j x xs e1 e2).below BV.out HR2.out.bel.size) (I82.out.below BV.out HR2.out.bel.size) (I2.out.below BV.out HR2.out.bel.size) (by rw [knL_len]; exact o7) g7)
                clear o7 g7 n7 HO HIN HR2 I2 I82 BV hB2
                go_wp2_with fail
                go_roundw
                case rel => exact ⟨e + 1, by go_num, by omega, (by show KF _ _ _ _ _ _; rw [HNX.out]; exact P1.out)⟩
                case measure => simp [intOf]; omega
              · clear hS
                go_simp
                have hb : Below Y11.heap.size Y11 (Y11.alloc (.cells #[.int .i64 y] 3)) := (Below.refl _ _).alloc (Nat.le_refl _) _
                have P64 : Hid (wF.heap.size ≤ Y11.heap.size) := BF.out.size
                have NE := Hid.of (Nat.ne_of_lt K52.out.lt)
                replace BF := Hid.of (BF.out.trans (hb.mono BF.out.size))
                replace K52 := Hid.of (K52.out.below hb K52.out.lt)
                have K64 := Hid.of (Blk.new Y11 3 #[.int .i64 y])
                refine hK'.out _ _ (SA.out _ BF.out) (fun hS => ?_)
                clear hK' K' hb
                revert P64 NE BF K52 K64 hS
                generalize Y11.alloc (.cells #[.int .i64 y] 3) = Y15
                generalize Y11.heap.size = p64
                intro P64 NE BF K52 K64 hS
                refine wpAnyH_ready (rs := [6]) (by kernel_rfl) (by simp) ?_
                refine AllReadyH.cons rfl (fun K' hK' => ?_) AllReadyH.nil
                clear hS
                have o0 : Own Y15 p52 (.slice (some ⟨p52, 0, none⟩) 0 0) [] := own_empty_blk K52.out
                obtain ⟨za', zc', hze, hza, -, -⟩ := (IZ1.out.below BF.out HR1.out.bel.size).at
                cases hze
                have hw64 := hWl.out
                refine step_append_ints rfl (.tmp 52) (.tmp 57) 22 rfl p52 k0 Tryd.underlying22 ki kz0 kz1 kz2 _ [] rfl o0 za zc word rfl hza HZN.out (by simp only [List.length_nil]; omega) (Nat.le_of_lt K52.out.lt) ?_
                intro v58 Y16 o1 gr
                replace o1 : Own Y16 p52 v58 word := o1
                have hb : Below wF.heap.size Y15 Y16 := (Below.refl _ _).grown gr BF.out.size (fun j hj => by cases hj; exact P52.out)
                replace BF := Hid.of (BF.out.trans hb)
                replace K64 : Hid (Blk Y16 p64 3 #[.int .i64 y]) := (gr.block p64 K64.out.lt (fun e => by cases e; exact NE.out rfl)).trans K64.out
                have S58 : Hid (p52 ≤ Y16.heap.size) := Nat.le_trans (Nat.le_of_lt K52.out.lt) gr.size
                obtain ⟨va, vc, hva, -, -, -⟩ := own_form2 o1
                subst hva
                have O58 := Hid.of o1
                refine hK'.out _ _ (SA.out _ BF.out) (fun hS => ?_)
                clear hK' K' hb o0 o1 gr hza hw64 K52
                refine wpAnyH_ready (rs := [13]) (by kernel_rfl) (by simp) ?_
                refine AllReadyH.cons rfl (fun K' hK' => ?_) AllReadyH.nil
                clear hS
                have hw64 := hWl.out
                have hax : At Y16 (some ⟨p64, 0, none⟩) [y] := at_one_blk K64.out
                refine step_append_ints rfl (.tmp 58) (.tmp 64) 22 rfl p52 k0 Tryd.underlying22 ki kz0 kz1 kz2 _ word rfl O58.out (some ⟨p64, 0, none⟩) 1 [y] rfl hax (fun h => by cases h) (by simp only [List.length_cons, List.length_nil]; omega) S58.out ?_
                intro v65 Y17 o2 gr
                have hb : Below wF.heap.size Y16 Y17 := (Below.refl _ _).grown gr BF.out.size (fun j hj => Nat.le_trans P52.out (World.ownsRow.lt O58.out j hj).1)
                replace BF := Hid.of (BF.out.trans hb)
                obtain ⟨va2, vc2, hv2, -, -, -⟩ := own_form2 o2
                have hl2 : (word ++ [y]).length = word.length + 1 := by simp
                rw [hl2] at hv2
                subst hv2
                have I2 : Hid (InnW w.heap.size Y17 (.slice va2 (word.length + 1) vc2) (word ++ [y])) := InnW.of_own o2
                refine hK'.out _ _ (SA.out _ BF.out) (fun hS => ?_)
                clear hK' K' hb o2 gr hl2 hw64 hax O58 K64 S58
                refine wpAnyH_take (i := 14) (v := .slice va2 (word.length + 1) vc2) rfl (by kernel_rfl) (by kernel_rfl) (by kernel_rfl) (fun _ _ _ h => h) (Or.inl ⟨by kernel_rfl, fun w' hw' => by obtain ⟨q0, q1, q2, q3, q4, q5, q6, q7, q8⟩ := hw'; go_simp⟩) hS ?_
                refine wpAnyH_done (by kernel_rfl) ?_ _
                clear hS
                have HR2 := Hid.of (HR1.out.below BF.out)
                have I82 := Hid.of (I8.out.below BF.out HR1.out.bel.size)
                obtain ⟨vs, ho, hin⟩ := HR2.out.ow
                rw [knL_len] at ho
                have HO := Hid.of ho
                have HIN := Hid.of hin
                clear ho hin
                have hB2 := HR2.out.hB
                have BV : Hid (Below Y17.heap.size Y17 (Y17.alloc (.cells #[.slice na to.length nc, .slice va2 (word.length + 1) vc2] 117))) := (Below.refl _ _).alloc (Nat.le_refl _) _
                go_wp2_with (at_builtin; refine wpList_append_block _ rfl (.tmp 66) (.tmp 70) 51 rfl (w.heap.size + 1) 117 i0 (.agg #[.slice none 0 0, .slice none 0 0]) 2 48 Tryd.underlying51 hi hz0 hz1 hz2 rfl (by decide) _ _ _ rfl (World.ownsRow.alloc HO.out _) ⟨Y17.heap.size, 0, none⟩ 1 1 [.slice na to.length nc, .slice va2 (word.length + 1) vc2] rfl rfl (cells_duo Y17 _ rfl _ _ _) (by intro u hu; simp at hu; rcases hu with rfl | rfl <;> rfl) (by decide) (by unfold maxLen; omega) (by omega) (by simp; omega) ?_)
                intro v7 w7 o7 g7 n7
                have P1 := Hid.of (KF.push (r := (to, word ++ [y])) HR2.out BV.out (by rw [knL_len]; exact World.ownsRow.alloc HO.out _) (fun j x xs e1 e2 => (HIN.out j x xs e1 e2).below BV.out HR2.out.bel.size) (I82.out.below BV.out HR2.out.bel.size) (I2.out.below BV.out HR2.out.bel.size) (by rw [knL_len]; exact o7) g7)
                clear o7 g7 n7 HO HIN HR2 I2 I82 BV hB2
                go_wp2_with fail
                go_roundw
                case rel => exact ⟨e + 1, by go_num, by omega, (by show KF _ _ _ _ _ _; rw [HNX.out]; exact P1.out)⟩
                case measure => simp [intOf]; omega
            · clear hS
              go_simp
              have hb : Below Y0.heap.size Y0 (Y0.alloc (.cells #[.int .i64 y] 3)) := (Below.refl _ _).alloc (Nat.le_refl _) _
              have P64 : Hid (wF.heap.size ≤ Y0.heap.size) := BF.out.size
              replace BF := Hid.of (BF.out.trans (hb.mono BF.out.size))
              have K64 := Hid.of (Blk.new Y0 3 #[.int .i64 y])
              refine hK'.out _ _ (SA.out _ BF.out) (fun hS => ?_)
              clear hK' K' hb
              revert P64 BF K64 hS
              generalize Y0.alloc (.cells #[.int .i64 y] 3) = Y18
              generalize Y0.heap.size = p64
              intro P64 BF K64 hS
              refine wpAnyH_ready (rs := [0]) (by kernel_rfl) (by simp) ?_
              refine AllReadyH.cons rfl (fun K' hK' => ?_) AllReadyH.nil
              clear hS
              go_simp
              have hb : Below Y18.heap.size Y18 (Y18.alloc (.cells #[] 3)) := (Below.refl _ _).alloc (Nat.le_refl _) _
              have P52 : Hid (wF.heap.size ≤ Y18.heap.size) := BF.out.size
              have NE := Hid.of (Nat.ne_of_gt K64.out.lt)
              replace BF := Hid.of (BF.out.trans (hb.mono BF.out.size))
              replace K64 := Hid.of (K64.out.below hb K64.out.lt)
              have K52 := Hid.of (Blk.new Y18 3 #[])
              refine hK'.out _ _ (SA.out _ BF.out) (fun hS => ?_)
              clear hK' K' hb
              revert P52 NE BF K64 K52 hS
              generalize Y18.alloc (.cells #[] 3) = Y19
              generalize Y18.heap.size = p52
              intro P52 NE BF K64 K52 hS
              refine wpAnyH_ready (rs := [6]) (by kernel_rfl) (by simp) ?_
              refine AllReadyH.cons rfl (fun K' hK' => ?_) AllReadyH.nil
              clear hS
              have o0 : Own Y19 p52 (.slice (some ⟨p52, 0, none⟩) 0 0) [] := own_empty_blk K52.out
              obtain ⟨za', zc', hze, hza, -, -⟩ := (IZ1.out.below BF.out HR1.out.bel.size).at
              cases hze
              have hw64 := hWl.out
              refine step_append_ints rfl (.tmp 52) (.tmp 57) 22 rfl p52 k0 Tryd.underlying22 ki kz0 kz1 kz2 _ [] rfl o0 za zc word rfl hza HZN.out (by simp only [List.length_nil]; omega) (Nat.le_of_lt K52.out.lt) ?_
              intro v58 Y20 o1 gr
              replace o1 : Own Y20 p52 v58 word := o1
              have hb : Below wF.heap.size Y19 Y20 := (Below.refl _ _).grown gr BF.out.size (fun j hj => by cases hj; exact P52.out)
              replace BF := Hid.of (BF.out.trans hb)
              replace K64 : Hid (Blk Y20 p64 3 #[.int .i64 y]) := (gr.block p64 K64.out.lt (fun e => by cases e; exact NE.out rfl)).trans K64.out
              have S58 : Hid (p52 ≤ Y20.heap.size) := Nat.le_trans (Nat.le_of_lt K52.out.lt) gr.size
              obtain ⟨va, vc, hva, -, -, -⟩ := own_form2 o1
              subst hva
              have O58 := Hid.of o1
              refine hK'.out _ _ (SA.out _ BF.out) (fun hS => ?_)
              clear hK' K' hb o0 o1 gr hza hw64 K52
              refine wpAnyH_ready (rs := [13]) (by kernel_rfl) (by simp) ?_
              refine AllReadyH.cons rfl (fun K' hK' => ?_) AllReadyH.nil
              clear hS
              have hw64 := hWl.out
              have hax : At Y20 (some ⟨p64, 0, none⟩) [y] := at_one_blk K64.out
              refine step_append_ints rfl (.tmp 58) (.tmp 64) 22 rfl p52 k0 Tryd.underlying22 ki kz0 kz1 kz2 _ word rfl O58.out (some ⟨p64, 0, none⟩) 1 [y] rfl hax (fun h => by cases h) (by simp only [List.length_cons, List.length_nil]; omega) S58.out ?_
              intro v65 Y21 o2 gr
              have hb : Below wF.heap.size Y20 Y21 := (Below.refl _ _).grown gr BF.out.size (fun j hj => Nat.le_trans P52.out (World.ownsRow.lt O58.out j hj).1)
              replace BF := Hid.of (BF.out.trans hb)
              obtain ⟨va2, vc2, hv2, -, -, -⟩ := own_form2 o2
              have hl2 : (word ++ [y]).length = word.length + 1 := by simp
              rw [hl2] at hv2
              subst hv2
              have I2 : Hid (InnW w.heap.size Y21 (.slice va2 (word.length + 1) vc2) (word ++ [y])) := InnW.of_own o2
              refine hK'.out _ _ (SA.out _ BF.out) (fun hS => ?_)
              clear hK' K' hb o2 gr hl2 hw64 hax O58 K64 S58
              refine wpAnyH_take (i := 14) (v := .slice va2 (word.length + 1) vc2) rfl (by kernel_rfl) (by kernel_rfl) (by kernel_rfl) (fun _ _ _ h => h) (Or.inl ⟨by kernel_rfl, fun w' hw' => by obtain ⟨q0, q1, q2, q3, q4, q5, q6, q7, q8⟩ := hw'; go_simp⟩) hS ?_
              refine wpAnyH_done (by kernel_rfl) ?_ _
              clear hS
              have HR2 := Hid.of (HR1.out.below BF.out)
              have I82 := Hid.of (I8.out.below BF.out HR1.out.bel.size)
              obtain ⟨vs, ho, hin⟩ := HR2.out.ow
              rw [knL_len] at ho
              have HO := Hid.of ho
              have HIN := Hid.of hin
              clear ho hin
              have hB2 := HR2.out.hB
              have BV : Hid (Below Y21.heap.size Y21 (Y21.alloc (.cells #[.slice na to.length nc, .slice va2 (word.length + 1) vc2] 117))) := (Below.refl _ _).alloc (Nat.le_refl _) _
              go_wp2_with (at_builtin; refine wpList_append_block _ rfl (.tmp 66) (.tmp 70) 51 rfl (w.heap.size + 1) 117 i0 (.agg #[.slice none 0 0, .slice none 0 0]) 2 48 Tryd.underlying51 hi hz0 hz1 hz2 rfl (by decide) _ _ _ rfl (World.ownsRow.alloc HO.out _) ⟨Y21.heap.size, 0, none⟩ 1 1 [.slice na to.length nc, .slice va2 (word.length + 1) vc2] rfl rfl (cells_duo Y21 _ rfl _ _ _) (by intro u hu; simp at hu; rcases hu with rfl | rfl <;> rfl) (by decide) (by unfold maxLen; omega) (by omega) (by simp; omega) ?_)
              intro v7 w7 o7 g7 n7
              have P1 := Hid.of (KF.push (r := (to, word ++ [y])) HR2.out BV.out (by rw [knL_len]; exact World.ownsRow.alloc HO.out _) (fun j x xs e1 e2 => (HIN.out j x xs e1 e2).below BV.out HR2.out.bel.size) (I82.out.below BV.out HR2.out.bel.size) (I2.out.below BV.out HR2.out.bel.size) (by rw [knL_len]; exact o7) g7)
              clear o7 g7 n7 HO HIN HR2 I2 I82 BV hB2
              go_wp2_with fail
              go_roundw
              case rel => exact ⟨e + 1, by go_num, by omega, (by show KF _ _ _ _ _ _; rw [HNX.out]; exact P1.out)⟩
              case measure => simp [intOf]; omega
        · have he2 : e = seen.length := by omega
          have HIN := Hid.of (bi_next _ HI.out HP.out)
          rw [← he2, ← HL1.out] at HIN
          have HEN : Hid (fwdL ⟨⟨(st : Int), ev, starts, ars, ends⟩, seen, secret⟩ = bfGo (seeD ⟨⟨(st : Int), ev, starts, ars, ends⟩, seen, secret⟩) seen.length (65 - (k + 1)) (k + 1) l1) := by
            show _ = _
            rw [HE.out, show 65 - k = (65 - (k + 1)) + 1 by omega, bfGo_next HP.out, HL1.out, he2]
          have hleD : decide ((e : Int) < (seen.length : Int)) = false := by simp; omega
          have HIN2 : Hid (BI (seeD ⟨⟨(st : Int), ev, starts, ars, ends⟩, seen, secret⟩) first seen.length (k + 1) 0 l1) := by
            show BI _ _ _ _ _ _
            have := HIN.out
            rw [he2] at this
            exact this
          clear he2 cx cz HIN
          go_wp2_with fail
          go_roundw
          case rel => exact ⟨k + 1, l1, by go_num, by omega, HR, HIN2, HEN⟩
          case measure => simp [intOf]; omega
    · have HF : Hid (fwdL ⟨⟨(st : Int), ev, starts, ars, ends⟩, seen, secret⟩ = l) := by show _ = _; rw [HE.out, bfGo_stop hlt]
      have hltD : decide ((k : Int) < (l.length : Int)) = false := by simp; omega
      go_wp2_with fail
      go_ret
      exact ⟨_, rfl, by rw [HF.out]; exact HR.out.ow, HR.out.bel⟩

theorem rFwd_any (p : Plant) (P : PTL) (w : World) (h : PAt w p P) (hp : mayP p = true) :
    Calls Tryd.prog 34 #[ptval p P] w fun e w' => KnoPost w (knL p.seen (fwdL p)) e w' := by
  obtain ⟨hm, z, hs, -⟩ := (mayP_iff p).1 hp
  have hz := mayB_size hm
  unfold sizeOk at hz
  have h8 := row_short (by omega) (by omega) hs
  obtain ⟨⟨st, ev, starts, ars, ends⟩, seen, secret⟩ := p
  obtain ⟨⟨a1, c1, a2, c2, a3, c3⟩, sa, sc, ta, tc⟩ := P
  dsimp only at z hz h8
  obtain ⟨s, rfl⟩ : ∃ s : Nat, st = (s : Int) := ⟨st.toNat, by omega⟩
  exact rfwd_go s ev starts ars ends seen secret a1 c1 a2 c2 a3 c3 sa sc ta tc w (Hid.of h) (Hid.of hm) (by omega) (by omega)

end Go.Proofs.YtmlkpdeidpcidaaDoor
