/-
  The walk of jalousieref13.Twins.
  The walks of jalousieref9.From and Estimate.
  The walk of jalousieref12.Low.
  The walks of jalousieref2.Word, Step, After and Accepts.
  The walk of the law DelayHolds.
-/
import Derived.Test.YtgebfkmfhpcdhaaDoorH24
import Derived.Test.YtgebfkmfhpcdhaaDoorDR13L
import Derived.Test.YtgebfkmfhpcdhaaDoorH16
import Derived.Test.YtgebfkmfhpcdhaaDoorDRefMay
import Derived.Test.YtgebfkmfhpcdhaaDoorH15
import Derived.Test.YtgebfkmfhpcdhaaDoorH05
import Derived.Deep.RegionHeld3
import Derived.Test.YtgebfkmfhpcdhaaDoorH17
import Derived.Test.YtgebfkmfhpcdhaaDoorH03
import Derived.Test.YtgebfkmfhpcdhaaDoorH04
import Derived.Test.YtgebfkmfhpcdhaaDoorH25
import Derived.Deep.RegionWith
import Derived.BigQuiet
import Derived.Test.YtgebfkmfhpcdhaaDoorH13
namespace Go.Proofs.YtgebfkmfhpcdhaaDoor
open Go.RowKit
set_option linter.unusedVariables false

theorem at_cell13 {w : World} {ab ao : Nat} {xs : List Int} (h : At w (some ⟨ab, ao, none⟩) xs) {i : Nat} {a : Int} (hi : xs[i]? = some a) : ab < w.heap.size ∧ w.cell? ⟨ab, ao + i, none⟩ = some (.int .i64 a) := by
  rcases h with h0 | ⟨b, off, e2, hb, hc⟩
  · subst h0; simp at hi
  · cases e2
    obtain ⟨x, hx, hcx⟩ := hc.at (List.getElem?_eq_some_iff.1 hi).1
    refine ⟨hb, ?_⟩
    rw [hcx, hx.out, hi]; rfl
end Go.Proofs.YtgebfkmfhpcdhaaDoor
namespace Go.Proofs.YtgebfkmfhpcdhaaDoor
open Go.RowKit
set_option linter.unusedVariables false

theorem fold_take {σ : Type} (f : σ → Int → σ) (s : σ) {word : List Int} {k : Nat} {x : Int} (h : k < word.length) (hx : Hid (x = word[k]?.getD 0)) : (word.take (k + 1)).foldl f s = f ((word.take k).foldl f s) x := by
  rw [List.take_add_one, List.getElem?_eq_getElem h, Option.toList_some, List.foldl_append, hx.out, List.getElem?_eq_getElem h]; rfl

set_option maxRecDepth 100000 in
set_option maxHeartbeats 8000000 in
theorem rfrom_go (st ev : Int) (starts : List Int) (ars : List Arr) (ends seen secret : List Int) (a1 : Option Addr) (c1 : Nat) (a2 : Option Addr) (c2 : Nat) (a3 : Option Addr) (c3 : Nat) (sa : Option Addr) (sc : Nat) (ta : Option Addr) (tc : Nat) (xa wa : Option Addr) (xc wc : Nat) (ss word : List Int) (w : World) (h : Hid (PAt w ⟨⟨st, ev, starts, ars, ends⟩, seen, secret⟩ ⟨⟨a1, c1, a2, c2, a3, c3⟩, sa, sc, ta, tc⟩)) (hm : Hid (mayB ⟨st, ev, starts, ars, ends⟩ = true)) (hs : Hid (At w xa ss)) (hsl : Hid (ss.length ≤ 4096)) (hsn : Hid (xa = none → xc = 0)) (hw : Hid (At w wa word)) (hwl : word.length ≤ 9223372036854775807) :
    Calls Tryd.prog 88 #[ptval ⟨⟨st, ev, starts, ars, ends⟩, seen, secret⟩ ⟨⟨a1, c1, a2, c2, a3, c3⟩, sa, sc, ta, tc⟩, .slice xa ss.length xc, .slice wa word.length wc] w fun e w' => GivesO w (fromL ⟨⟨st, ev, starts, ars, ends⟩, seen, secret⟩ ss word) e w' := by
  have hz := mayB_size hm.out
  unfold sizeOk at hz
  dsimp only at hz
  have hlen : Hid (ars.length ≤ 4096) := show _ ≤ _ by omega
  clear hz
  have hto : Hid (∀ a ∈ ars, 0 ≤ a.t ∧ a.t < (256 : Nat)) := may_to hm.out
  have B : Hid (Below w.heap.size w (w.alloc (.cells (ptcells ⟨⟨st, ev, starts, ars, ends⟩, seen, secret⟩ ⟨⟨a1, c1, a2, c2, a3, c3⟩, sa, sc, ta, tc⟩) 46))) := (Below.refl _ _).alloc (Nat.le_refl _) _
  have K : Hid (Blk (w.alloc (.cells (ptcells ⟨⟨st, ev, starts, ars, ends⟩, seen, secret⟩ ⟨⟨a1, c1, a2, c2, a3, c3⟩, sa, sc, ta, tc⟩) 46)) w.heap.size 46 (ptcells ⟨⟨st, ev, starts, ars, ends⟩, seen, secret⟩ ⟨⟨a1, c1, a2, c2, a3, c3⟩, sa, sc, ta, tc⟩)) := Blk.new w _ _
  go_enter Tryd.func88, Tryd.ntmps88
  go_wp2_with fail
  revert B K
  show Hid (Below w.heap.size w (w.alloc (.cells #[.int .i64 st, .int .i64 ev, .slice a1 starts.length c1, .slice a2 ars.length c2, .slice a3 ends.length c3, .slice sa seen.length sc, .slice ta secret.length tc] 46))) → _
  generalize w.alloc (.cells #[.int .i64 st, .int .i64 ev, .slice a1 starts.length c1, .slice a2 ars.length c2, .slice a3 ends.length c3, .slice sa seen.length sc, .slice ta secret.length tc] 46) = V0
  intro B K
  refine (refWide_any ⟨st, ev, starts, ars, ends⟩ ⟨a1, c1, a2, c2, a3, c3⟩ xa sa xc sc ss seen V0 (h.out.m.a.below B.out (Nat.le_refl _)) hlen.out hto.out (hs.out.below B.out (Nat.le_refl _)) hsl.out hsn.out (h.out.s.at_.below B.out (Nat.le_refl _)) h.out.s.len).mono ?_
  rintro e W1 ⟨v, rfl, ov, hb⟩
  have OV : Hid (Own W1 w.heap.size v (wideL ars seen ss)) := Own.low ov B.out.size
  replace B := Hid.of (B.out.trans (hb.mono B.out.size))
  replace K := Hid.of (K.out.below hb K.out.lt)
  clear hb ov
  go_wp2_with fail
  go_loopw [7, 8] (fun v7 i wr => ∃ k : Nat, i = .int .i64 k ∧ k ≤ word.length ∧ Hid (Own wr w.heap.size v7 ((word.take k).foldl (seeL ⟨⟨st, ev, starts, ars, ends⟩, seen, secret⟩) (wideL ars seen ss))) ∧ Hid (Below w.heap.size w wr) ∧ Hid (Blk wr w.heap.size 46 (ptcells ⟨⟨st, ev, starts, ars, ends⟩, seen, secret⟩ ⟨⟨a1, c1, a2, c2, a3, c3⟩, sa, sc, ta, tc⟩))) (fun _ i _ => word.length - (intOf i).toNat)
  case atStart => exact ⟨0, rfl, Nat.zero_le _, OV, B, K⟩
  case round =>
    clear OV B K
    obtain ⟨k, rfl, hk, OV, B, K⟩ := hrel
    by_cases hlt : k < word.length
    · rcases hw.out with hw0 | ⟨wb, wo, rfl, hwb, hwc⟩
      · rw [hw0] at hlt; simp at hlt
      obtain ⟨x, HX⟩ : ∃ x, Hid (x = word[k]?.getD 0) := ⟨_, rfl⟩
      have cw : wr.cell? ⟨wb, wo + k, none⟩ = some (.int .i64 x) := by
        rw [HX.out, ← List.getD_eq_getElem?_getD]
        exact (B.out.cell (p := ⟨wb, wo + k, none⟩) hwb).trans (hwc k hlt)
      have HWB := Hid.of hwb
      obtain ⟨x0, x1, x2, x3, x4, x5, x6⟩ := ptcell_at K.out
      dsimp only at x0 x1 x2 x3 x4 x5 x6
      obtain ⟨va, vc, hva, vat, vl1, vl2, -⟩ := Own.at2 OV.out
      have hvl : Hid (((word.take k).foldl (seeL ⟨⟨st, ev, starts, ars, ends⟩, seen, secret⟩) (wideL ars seen ss)).length ≤ maxLen) := Nat.le_trans vl1 vl2
      have HV := Hid.of vat
      have HNX : Hid ((word.take (k + 1)).foldl (seeL ⟨⟨st, ev, starts, ars, ends⟩, seen, secret⟩) (wideL ars seen ss) = seeL ⟨⟨st, ev, starts, ars, ends⟩, seen, secret⟩ ((word.take k).foldl (seeL ⟨⟨st, ev, starts, ars, ends⟩, seen, secret⟩) (wideL ars seen ss)) x) := fold_take _ _ hlt HX
      subst hva
      clear vat vl1 vl2 hwc hwb
      revert HNX HV hvl OV
      generalize (word.take k).foldl (seeL ⟨⟨st, ev, starts, ars, ends⟩, seen, secret⟩) (wideL ars seen ss) = cur
      intro hvl HV HNX OV
      go_wp2_with fail
      refine wp_region_held_drew (S := fun w' => w'.cell? ⟨w.heap.size, 0, none⟩ = some (.int .i64 st) ∧ w'.cell? ⟨w.heap.size, 1, none⟩ = some (.int .i64 ev) ∧ w'.cell? ⟨w.heap.size, 2, none⟩ = some (.slice a1 starts.length c1) ∧ w'.cell? ⟨w.heap.size, 3, none⟩ = some (.slice a2 ars.length c2) ∧ w'.cell? ⟨w.heap.size, 4, none⟩ = some (.slice a3 ends.length c3) ∧ w'.cell? ⟨w.heap.size, 5, none⟩ = some (.slice sa seen.length sc) ∧ w'.cell? ⟨w.heap.size, 6, none⟩ = some (.slice ta secret.length tc) ∧ w'.cell? ⟨wb, wo + k, none⟩ = some (.int .i64 x)) (by kernel_rfl) ⟨x0, x1, x2, x3, x4, x5, x6, cw⟩ (fun hS => ?_)
      have Bd : Hid (Below w.heap.size w wr.drew) := B.out.drew
      have Kd : Hid (Blk wr.drew w.heap.size 46 (ptcells ⟨⟨st, ev, starts, ars, ends⟩, seen, secret⟩ ⟨⟨a1, c1, a2, c2, a3, c3⟩, sa, sc, ta, tc⟩)) := Blk.drew K.out
      have HVd : Hid (At wr.drew va cur) := At.drewN HV.out 1
      have CW : Hid (wr.drew.cell? ⟨wb, wo + k, none⟩ = some (.int .i64 x)) := cw
      clear x0 x1 x2 x3 x4 x5 x6 cw B K HV OV
      revert hS Bd Kd HVd CW
      generalize wr.drew = Y
      intro hS Bd Kd HVd CW
      refine wpAnyH_take (i := 0) (v := .pointer (some ⟨w.heap.size, 0, none⟩)) rfl (by kernel_rfl) (by kernel_rfl) (by kernel_rfl) (fun _ _ _ h => h) (Or.inl ⟨by kernel_rfl, fun w' hw' => by obtain ⟨q0, q1, q2, q3, q4, q5, q6, q7⟩ := hw'; go_simp⟩) hS ?_
      refine wpAnyH_take (i := 1) (v := mval ⟨st, ev, starts, ars, ends⟩ ⟨a1, c1, a2, c2, a3, c3⟩) rfl (by kernel_rfl) (by kernel_rfl) (by kernel_rfl) (fun _ _ _ h => h) (Or.inl ⟨by kernel_rfl, fun w' hw' => by obtain ⟨q0, q1, q2, q3, q4, q5, q6, q7⟩ := hw'; go_simp⟩) hS ?_
      refine wpAnyH_take (i := 2) (v := .slice va cur.length vc) rfl (by kernel_rfl) (by kernel_rfl) (by kernel_rfl) (fun _ _ _ h => h) (Or.inl ⟨by kernel_rfl, fun w' hw' => by obtain ⟨q0, q1, q2, q3, q4, q5, q6, q7⟩ := hw'; go_simp⟩) hS ?_
      refine wpAnyH_take (i := 3) (v := .pointer (some ⟨w.heap.size, 5, none⟩)) rfl (by kernel_rfl) (by kernel_rfl) (by kernel_rfl) (fun _ _ _ h => h) (Or.inl ⟨by kernel_rfl, fun w' hw' => by obtain ⟨q0, q1, q2, q3, q4, q5, q6, q7⟩ := hw'; go_simp⟩) hS ?_
      refine wpAnyH_take (i := 4) (v := .slice sa seen.length sc) rfl (by kernel_rfl) (by kernel_rfl) (by kernel_rfl) (fun _ _ _ h => h) (Or.inl ⟨by kernel_rfl, fun w' hw' => by obtain ⟨q0, q1, q2, q3, q4, q5, q6, q7⟩ := hw'; go_simp⟩) hS ?_
      refine wpAnyH_take (i := 5) (v := .slice (some ⟨wb, wo, none⟩) word.length wc) rfl (by kernel_rfl) (by kernel_rfl) (by kernel_rfl) (fun _ _ _ h => h) (Or.inl ⟨by kernel_rfl, fun w' hw' => by obtain ⟨q0, q1, q2, q3, q4, q5, q6, q7⟩ := hw'; go_simp⟩) hS ?_
      refine wpAnyH_take (i := 6) (v := .int .i64 k) rfl (by kernel_rfl) (by kernel_rfl) (by kernel_rfl) (fun _ _ _ h => h) (Or.inl ⟨by kernel_rfl, fun w' hw' => by obtain ⟨q0, q1, q2, q3, q4, q5, q6, q7⟩ := hw'; go_simp⟩) hS ?_
      refine wpAnyH_take (i := 7) (v := .pointer (some ⟨wb, wo + k, none⟩)) rfl (by kernel_rfl) (by kernel_rfl) (by kernel_rfl) (fun _ _ _ h => h) (Or.inl ⟨by kernel_rfl, fun w' hw' => by obtain ⟨q0, q1, q2, q3, q4, q5, q6, q7⟩ := hw'; go_simp⟩) hS ?_
      refine wpAnyH_take (i := 8) (v := .int .i64 x) rfl (by kernel_rfl) (by kernel_rfl) (by kernel_rfl) (fun _ _ _ h => h) (Or.inl ⟨by kernel_rfl, fun w' hw' => by obtain ⟨q0, q1, q2, q3, q4, q5, q6, q7⟩ := hw'; go_simp⟩) hS ?_
      simp only [Act.put, List.setIfInBounds_toArray]
      refine wpAnyH_ready (rs := [9]) (by kernel_rfl) (by simp) ?_
      refine AllReadyH.cons rfl (fun K' hK' => ?_) AllReadyH.nil
      go_simp
      refine (refSeeing_any ⟨st, ev, starts, ars, ends⟩ ⟨a1, c1, a2, c2, a3, c3⟩ va sa vc sc cur seen x Y (h.out.m.a.below Bd.out (Nat.le_refl _)) hlen.out hto.out HVd.out hvl.out (h.out.s.at_.below Bd.out (Nat.le_refl _)) h.out.s.len).mono ?_
      rintro e Y1 ⟨v, rfl, ov, hb⟩
      have OV : Hid (Own Y1 w.heap.size v (seeL ⟨⟨st, ev, starts, ars, ends⟩, seen, secret⟩ cur x)) := Own.low ov Bd.out.size
      have B := Hid.of (Bd.out.trans (hb.mono Bd.out.size))
      have K := Hid.of (Kd.out.below hb Kd.out.lt)
      have cw1 : Y1.cell? ⟨wb, wo + k, none⟩ = some (.int .i64 x) := (hb.cell (p := ⟨wb, wo + k, none⟩) (Nat.lt_of_lt_of_le HWB.out Bd.out.size)).trans CW.out
      obtain ⟨x0, x1, x2, x3, x4, x5, x6⟩ := ptcell_at K.out
      obtain ⟨na, nc, hna, -, -, -⟩ := own_form2 OV.out
      subst hna
      refine hK'.out _ _ ⟨x0, x1, x2, x3, x4, x5, x6, cw1⟩ (fun hS1 => ?_)
      clear hK' K' hb ov hS x0 x1 x2 x3 x4 x5 x6 cw1 Bd Kd HVd CW
      refine wpAnyH_take (i := 10) (v := .slice na (seeL ⟨⟨st, ev, starts, ars, ends⟩, seen, secret⟩ cur x).length nc) rfl (by kernel_rfl) (by kernel_rfl) (by kernel_rfl) (fun _ _ _ h => h) (Or.inl ⟨by kernel_rfl, fun w' hw' => by obtain ⟨q0, q1, q2, q3, q4, q5, q6, q7⟩ := hw'; go_simp⟩) hS1 ?_
      refine wpAnyH_done (by kernel_rfl) ?_ _
      clear hS1
      revert HNX OV
      generalize seeL ⟨⟨st, ev, starts, ars, ends⟩, seen, secret⟩ cur x = nxt
      intro HNX OV
      go_wp2_with fail
      go_roundw
      case rel => exact ⟨k + 1, by go_num, by omega, (by show Own _ _ _ _; rw [HNX.out]; exact OV.out), B, K⟩
      case measure => simp [intOf]; omega
    · have hk2 : k = word.length := by omega
      have HE : Hid ((word.take k).foldl (seeL ⟨⟨st, ev, starts, ars, ends⟩, seen, secret⟩) (wideL ars seen ss) = fromL ⟨⟨st, ev, starts, ars, ends⟩, seen, secret⟩ ss word) := by show _ = _; rw [hk2, List.take_of_length_le (Nat.le_refl _)]; rfl
      have hltD : decide ((k : Int) < (word.length : Int)) = false := by simp; omega
      clear hk2
      rw [HE.out] at OV
      go_wp2_with fail
      go_ret
      exact ⟨_, rfl, OV.out, B.out⟩

theorem rFrom_any (p : Plant) (P : PTL) (xa wa : Option Addr) (xc wc : Nat) (ss word : List Int) (w : World) (h : PAt w p P) (hm : mayB p.m = true) (hs : At w xa ss) (hsl : ss.length ≤ 4096) (hsn : xa = none → xc = 0) (hw : At w wa word) (hwl : word.length ≤ maxLen) :
    Calls Tryd.prog 88 #[ptval p P, .slice xa ss.length xc, .slice wa word.length wc] w fun e w' => GivesO w (fromL p ss word) e w' := by
  obtain ⟨⟨st, ev, starts, ars, ends⟩, seen, secret⟩ := p
  obtain ⟨⟨a1, c1, a2, c2, a3, c3⟩, sa, sc, ta, tc⟩ := P
  exact rfrom_go st ev starts ars ends seen secret a1 c1 a2 c2 a3 c3 sa sc ta tc xa wa xc wc ss word w (Hid.of h) (Hid.of hm) (Hid.of hs) (Hid.of hsl) (Hid.of hsn) (Hid.of hw) hwl

set_option maxRecDepth 100000 in
set_option maxHeartbeats 4000000 in
theorem rEst_any (p : Plant) (P : PTL) (wa : Option Addr) (wc : Nat) (word : List Int) (w : World) (h : PAt w p P) (hm : mayB p.m = true) (hw : At w wa word) (hwl : word.length ≤ maxLen) :
    Calls Tryd.prog 38 #[ptval p P, .slice wa word.length wc] w fun e w' => GivesO w (estL p word) e w' := by
  have hsl : p.m.starts.length ≤ 4096 := by
    have h1 := mayB_size hm
    unfold sizeOk at h1
    have h2 := may_starts hm
    have := nodup_len 256 _ (inc_nodup h2.1) (fun x hx => by have := h2.2 x hx; omega)
    omega
  have B : Hid (Below w.heap.size w (w.alloc (.cells (ptcells p P) 46))) := (Below.refl _ _).alloc (Nat.le_refl _) _
  have H := Hid.of h
  have HM := Hid.of hm
  have HW := Hid.of hw
  have HWL := Hid.of hwl
  have HSL := Hid.of hsl
  clear h hm hw hwl hsl
  go_enter Tryd.func38, Tryd.ntmps38
  go_wp2_with fail
  have KEY := Hid.of (rFrom_any p P P.l.a1 wa P.l.c1 wc p.m.starts word _ (H.out.below B.out (Nat.le_refl _)) HM.out (H.out.m.s.below B.out (Nat.le_refl _)) HSL.out H.out.m.s3 (HW.out.below B.out (Nat.le_refl _)) HWL.out)
  refine KEY.out.mono ?_
  rintro e W1 ⟨v, rfl, ov, hb⟩
  have OV : Hid (Own W1 w.heap.size v (estL p word)) := Own.low ov B.out.size
  have B1 := Hid.of (B.out.trans (hb.mono B.out.size))
  clear ov hb KEY
  go_wp2_with fail
  go_ret
  exact ⟨v, rfl, OV.out, B1.out⟩

end Go.Proofs.YtgebfkmfhpcdhaaDoor
namespace Go.Proofs.YtgebfkmfhpcdhaaDoor
open Go.RowKit
set_option linter.unusedVariables false

theorem own_snocA {W : World} {B : Nat} {v : Value} {L : List Arr} {a : Arr} (h : W.ownsRow B 75 3 v (L.length + 1) (aflat L ++ [.int .i64 a.f, .int .i64 a.e, .int .i64 a.t])) : OwnA W B v (L ++ [a]) := by
  show W.ownsRow B 75 3 v (L ++ [a]).length (aflat (L ++ [a]))
  rw [List.length_append, aflat_append]
  exact h
theorem OwnA.low {w : World} {B B' : Nat} {v : Value} {L : List Arr} (h : OwnA w B v L) (hB : B' ≤ B) : OwnA w B' v L := by
  refine ⟨h.1, ?_⟩
  rcases h.2 with hn | ⟨g, cap, cur, rfl, hg, rest⟩
  · exact .inl hn
  · exact .inr ⟨g, cap, cur, rfl, Nat.le_trans hB hg, rest⟩
abbrev lowM (m : Mach) (high : List Int) : Mach := ⟨m.st, m.ev, m.starts, lowA m high, m.ends⟩
def lowT (ars : List Arr) (high : List Int) : List Arr := ars.filter fun a => !hasB high a.e
theorem lowT_yes {ars : List Arr} {high : List Int} {j : Nat} {a : Arr} (h : ars[j]? = some a) (hh : hasB high a.e = true) : lowT (ars.take (j + 1)) high = lowT (ars.take j) high := by
  unfold lowT
  rw [List.take_add_one, h, Option.toList_some, List.filter_append, List.filter_cons_of_neg (by rw [hh]; simp)]; simp
theorem lowT_no {ars : List Arr} {high : List Int} {j : Nat} {a : Arr} (h : ars[j]? = some a) (hh : hasB high a.e = false) : lowT (ars.take (j + 1)) high = lowT (ars.take j) high ++ [a] := by
  unfold lowT
  rw [List.take_add_one, h, Option.toList_some, List.filter_append, List.filter_cons_of_pos (by rw [hh]; rfl)]; rfl
theorem lowT_len (ars : List Arr) (high : List Int) (j : Nat) : (lowT (ars.take j) high).length ≤ ars.length := by
  unfold lowT
  exact Nat.le_trans (List.length_filter_le _ _) (by rw [List.length_take]; omega)
abbrev ncellsQ (m : Mach) (l : ML) (v : Value) : Array Value := #[.int .i64 m.st, .int .i64 m.ev, .slice l.a1 m.starts.length l.c1, v, .slice l.a3 m.ends.length l.c3]
/-- What Low knows of the memory. -/
structure LW (w W : World) (m : Mach) (l : ML) (v : Value) (A : List Arr) : Prop where
  bel : Below w.heap.size w W
  km : Blk W w.heap.size 25 (mcells m l)
  kr : Blk W (w.heap.size + 1) 25 zcells
  kn : Blk W (w.heap.size + 1 + 1) 25 (ncellsQ m l v)
  oa : OwnA W (w.heap.size + 1 + 1 + 1) v A
  hB : w.heap.size + 1 + 1 + 1 ≤ W.heap.size
section
variable {w W : World} {m : Mach} {l : ML} {v : Value} {A : List Arr}
theorem LW.below {W' : World} (h : LW w W m l v A) (hb : Below W.heap.size W W') : LW w W' m l v A :=
  ⟨h.bel.trans (hb.mono h.bel.size), h.km.below hb h.km.lt, h.kr.below hb h.kr.lt, h.kn.below hb h.kn.lt, h.oa.kept hb (Nat.le_refl _), Nat.le_trans h.hB hb.size⟩
theorem LW.mid {W2 : World} (h : LW w W m l v A) (g : W.grownBy W2 v.ownBlock) : Below w.heap.size w W2 ∧ Blk W2 w.heap.size 25 (mcells m l) ∧ Blk W2 (w.heap.size + 1) 25 zcells ∧ Blk W2 (w.heap.size + 1 + 1) 25 (ncellsQ m l v) ∧ w.heap.size + 1 + 1 + 1 ≤ W2.heap.size := by
  have hB := h.hB
  have hl : ∀ j, j < w.heap.size + 1 + 1 + 1 → W2.heap[j]? = W.heap[j]? := fun j hj => g.block j (by omega) (fun e => by have := (World.ownsRow.lt h.oa j e.symm).1; omega)
  exact ⟨h.bel.grown g h.bel.size (fun j hj => by have := (World.ownsRow.lt h.oa j hj).1; omega), (hl _ (by omega)).trans h.km, (hl _ (by omega)).trans h.kr, (hl _ (by omega)).trans h.kn, Nat.le_trans hB g.size⟩
theorem LW.store {v' : Value} (bel : Below w.heap.size w W) (km : Blk W w.heap.size 25 (mcells m l)) (kr : Blk W (w.heap.size + 1) 25 zcells) (kn : Blk W (w.heap.size + 1 + 1) 25 (ncellsQ m l v)) (oa : OwnA W (w.heap.size + 1 + 1 + 1) v' A) (hB : w.heap.size + 1 + 1 + 1 ≤ W.heap.size) : LW w (W.setCell ⟨w.heap.size + 1 + 1, 3, none⟩ v') m l v' A := by
  refine ⟨bel.setCell (p := ⟨w.heap.size + 1 + 1, 3, none⟩) (by show _ ≤ w.heap.size + 1 + 1; omega) _, km.other (j := 3) (by omega) _, kr.other (j := 3) (by omega) _, kn.set 3 v', oa.set (by omega) _, ?_⟩
  have : (W.setCell ⟨w.heap.size + 1 + 1, 3, none⟩ v').heap.size = W.heap.size := by simp [World.setCell]
  omega
end

set_option maxRecDepth 100000 in
set_option maxHeartbeats 8000000 in
theorem rqlow_go (st ev : Int) (starts : List Int) (ars : List Arr) (ends : List Int) (a1 : Option Addr) (c1 : Nat) (a2 : Option Addr) (c2 : Nat) (a3 : Option Addr) (c3 : Nat) (ha : Option Addr) (hc : Nat) (high : List Int) (w : World) (hma : Hid (MAt w ⟨st, ev, starts, ars, ends⟩ ⟨a1, c1, a2, c2, a3, c3⟩)) (hh : Hid (At w ha high)) (hhl : Hid (high.length ≤ maxLen)) (hlen : ars.length ≤ 4096) :
    Calls Tryd.prog 54 #[mval ⟨st, ev, starts, ars, ends⟩ ⟨a1, c1, a2, c2, a3, c3⟩, .slice ha high.length hc] w fun e w' => ∃ va vc, e = .returned (mval (lowM ⟨st, ev, starts, ars, ends⟩ high) ⟨a1, c1, va, vc, a3, c3⟩) ∧ OwnA w' w.heap.size (.slice va (lowA ⟨st, ev, starts, ars, ends⟩ high).length vc) (lowA ⟨st, ev, starts, ars, ends⟩ high) ∧ Below w.heap.size w w' := by
  obtain ⟨i0, hi, hz0, hz1, hz2⟩ := info_parts Tryd.infoArrow
  have HW0 : Hid (LW w (((w.alloc (.cells (mcells ⟨st, ev, starts, ars, ends⟩ ⟨a1, c1, a2, c2, a3, c3⟩) 25)).alloc (.cells zcells 25)).alloc (.cells #[.int .i64 st, .int .i64 ev, .slice a1 starts.length c1, .slice none 0 0, .slice a3 ends.length c3] 25)) ⟨st, ev, starts, ars, ends⟩ ⟨a1, c1, a2, c2, a3, c3⟩ (.slice none 0 0) []) := by
    have b1 : Below w.heap.size w (w.alloc (.cells (mcells ⟨st, ev, starts, ars, ends⟩ ⟨a1, c1, a2, c2, a3, c3⟩) 25)) := (Below.refl _ _).alloc (Nat.le_refl _) _
    refine ⟨(b1.alloc (by simp) _).alloc (by simp; omega) _, ((Blk.new w _ _).alloc _).alloc _, ?_, ?_, ownA_nil _ _, by simp⟩
    · have := (Blk.new (w.alloc (.cells (mcells ⟨st, ev, starts, ars, ends⟩ ⟨a1, c1, a2, c2, a3, c3⟩) 25)) 25 zcells).alloc (.cells #[.int .i64 st, .int .i64 ev, .slice a1 starts.length c1, .slice none 0 0, .slice a3 ends.length c3] 25)
      rwa [World.size_alloc] at this
    · have := Blk.new ((w.alloc (.cells (mcells ⟨st, ev, starts, ars, ends⟩ ⟨a1, c1, a2, c2, a3, c3⟩) 25)).alloc (.cells zcells 25)) 25 #[.int .i64 st, .int .i64 ev, .slice a1 starts.length c1, .slice none 0 0, .slice a3 ends.length c3]
      rwa [World.size_alloc, World.size_alloc] at this
  have KX : Hid (Blk ((w.alloc (.cells (mcells ⟨st, ev, starts, ars, ends⟩ ⟨a1, c1, a2, c2, a3, c3⟩) 25)).alloc (.cells zcells 25)) w.heap.size 25 (mcells ⟨st, ev, starts, ars, ends⟩ ⟨a1, c1, a2, c2, a3, c3⟩)) := (Blk.new w _ _).alloc _
  go_enter Tryd.func54, Tryd.ntmps54
  obtain ⟨x0, x1, x2, x3, x4⟩ := mcell_at KX.out
  dsimp only at x0 x1 x2 x3 x4
  go_wp2_with fail
  clear x0 x1 x2 x3 x4 KX
  revert HW0
  generalize (((w.alloc (.cells (mcells ⟨st, ev, starts, ars, ends⟩ ⟨a1, c1, a2, c2, a3, c3⟩) 25)).alloc (.cells zcells 25)).alloc (.cells #[.int .i64 st, .int .i64 ev, .slice a1 starts.length c1, .slice none 0 0, .slice a3 ends.length c3] 25)) = V0
  intro HW0
  go_loopw [6] (fun i wr => ∃ (j : Nat) (v : Value), i = .int .i64 j ∧ j ≤ ars.length ∧ Hid (LW w wr ⟨st, ev, starts, ars, ends⟩ ⟨a1, c1, a2, c2, a3, c3⟩ v (lowT (ars.take j) high))) (fun i _ => ars.length - (intOf i).toNat)
  case atStart => exact ⟨0, _, rfl, Nat.zero_le _, HW0⟩
  case round =>
    clear HW0
    obtain ⟨j, v, rfl, hj, HW⟩ := hrel
    have hcl := lowT_len ars high j
    obtain ⟨cur, HC⟩ : ∃ cur, Hid (cur = lowT (ars.take j) high) := ⟨_, rfl⟩
    rw [← HC.out] at HW hcl
    obtain ⟨va, vc, hv, -⟩ := own_form2 HW.out.oa
    subst hv
    obtain ⟨x0, x1, x2, x3, x4⟩ := mcell_at HW.out.km
    dsimp only at x0 x1 x2 x3 x4
    by_cases hjl : j < ars.length
    · have hjD : decide ((j : Int) < (ars.length : Int)) = true := by simp; omega
      rcases hma.out.a with h0a | ⟨b, off, hab, hbl, hca⟩
      · rw [show ars = [] from h0a] at hjl; simp at hjl
      dsimp only at hab hca
      subst hab
      obtain ⟨a, HA, y0, y1, y2⟩ := hca.at hjl
      have HAR : Hid (ars[j]? = some a) := by show _ = _; rw [HA.out, List.getElem?_eq_getElem hjl, Option.getD_some]
      have SA : Hid (∀ W, Below w.heap.size w W → Blk W w.heap.size 25 (mcells ⟨st, ev, starts, ars, ends⟩ ⟨a1, c1, some ⟨b, off, none⟩, c2, a3, c3⟩) → W.cell? ⟨w.heap.size, 3, none⟩ = some (.slice (some ⟨b, off, none⟩) ars.length c2) ∧ W.cell? ⟨b, off + j * 3, none⟩ = some (.int .i64 a.f) ∧ W.cell? ⟨b, off + j * 3 + 1, none⟩ = some (.int .i64 a.e) ∧ W.cell? ⟨b, off + j * 3 + 2, none⟩ = some (.int .i64 a.t)) := fun W hb hk => ⟨hk.cell 3 rfl, (hb.cell (p := ⟨b, off + j * 3, none⟩) hbl).trans y0, (hb.cell (p := ⟨b, off + j * 3 + 1, none⟩) hbl).trans y1, (hb.cell (p := ⟨b, off + j * 3 + 2, none⟩) hbl).trans y2⟩
      clear y0 y1 y2
      obtain ⟨-, -, y1, -⟩ := SA.out _ HW.out.bel HW.out.km
      have KEY := Hid.of (refHas_any ha hc high a.e wr (hh.out.below HW.out.bel (Nat.le_refl _)) hhl.out)
      go_wp2_with fail
      refine KEY.out.mono ?_
      rintro e W1 ⟨rfl, rfl⟩
      clear KEY y1 x0 x1 x2 x3 x4
      cases hbb : hasB high a.e with
      | true =>
        have HNX : Hid (lowT (ars.take (j + 1)) high = cur) := by show _ = _; rw [lowT_yes HAR.out hbb, HC.out]
        clear hbb
        go_wp2_with fail
        go_roundw
        case rel => exact ⟨j + 1, _, by go_num, by omega, by rw [HNX.out]; exact HW⟩
        case measure => simp [intOf]; omega
      | false =>
        have HNX : Hid (lowT (ars.take (j + 1)) high = cur ++ [a]) := by show _ = _; rw [lowT_no HAR.out hbb, HC.out]
        clear hbb
        go_wp2_with fail
        have bd : Below W1.heap.size W1 W1.drew := (Below.refl _ _).drew
        replace HW := Hid.of (HW.out.below bd)
        refine wp_region_held_drew (S := fun w' => w'.cell? ⟨w.heap.size, 3, none⟩ = some (.slice (some ⟨b, off, none⟩) ars.length c2) ∧ w'.cell? ⟨b, off + j * 3, none⟩ = some (.int .i64 a.f) ∧ w'.cell? ⟨b, off + j * 3 + 1, none⟩ = some (.int .i64 a.e) ∧ w'.cell? ⟨b, off + j * 3 + 2, none⟩ = some (.int .i64 a.t)) (by kernel_rfl) (SA.out _ HW.out.bel HW.out.km) (fun hS => ?_)
        clear bd
        revert HW hS
        generalize W1.drew = Y0
        intro HW hS
        refine wpAnyH_take (i := 0) (v := .pointer (some ⟨w.heap.size + 1 + 1, 3, none⟩)) rfl (by kernel_rfl) (by kernel_rfl) (by kernel_rfl) (fun _ _ _ h => h) (Or.inl ⟨by kernel_rfl, fun w' hw' => by obtain ⟨q0, q1, q2, q3⟩ := hw'; go_simp⟩) hS ?_
        refine wpAnyH_take (i := 2) (v := .pointer (some ⟨w.heap.size, 3, none⟩)) rfl (by kernel_rfl) (by kernel_rfl) (by kernel_rfl) (fun _ _ _ h => h) (Or.inl ⟨by kernel_rfl, fun w' hw' => by obtain ⟨q0, q1, q2, q3⟩ := hw'; go_simp⟩) hS ?_
        refine wpAnyH_take (i := 3) (v := .slice (some ⟨b, off, none⟩) ars.length c2) rfl (by kernel_rfl) (by kernel_rfl) (by kernel_rfl) (fun _ _ _ h => h) (Or.inl ⟨by kernel_rfl, fun w' hw' => by obtain ⟨q0, q1, q2, q3⟩ := hw'; go_simp⟩) hS ?_
        refine wpAnyH_take (i := 4) (v := .int .i64 j) rfl (by kernel_rfl) (by kernel_rfl) (by kernel_rfl) (fun _ _ _ h => h) (Or.inl ⟨by kernel_rfl, fun w' hw' => by obtain ⟨q0, q1, q2, q3⟩ := hw'; go_simp⟩) hS ?_
        refine wpAnyH_take (i := 5) (v := .pointer (some ⟨b, off + j * 3, none⟩)) rfl (by kernel_rfl) (by kernel_rfl) (by kernel_rfl) (fun _ _ _ h => h) (Or.inl ⟨by kernel_rfl, fun w' hw' => by obtain ⟨q0, q1, q2, q3⟩ := hw'; go_simp⟩) hS ?_
        refine wpAnyH_take (i := 6) (v := .agg #[.int .i64 a.f, .int .i64 a.e, .int .i64 a.t]) rfl (by kernel_rfl) (by kernel_rfl) (by kernel_rfl) (fun _ _ _ h => h) (Or.inl ⟨by kernel_rfl, fun w' hw' => by obtain ⟨q0, q1, q2, q3⟩ := hw'; go_simp⟩) hS ?_
        simp only [Act.put, List.setIfInBounds_toArray]
        refine wpAnyH_ready (rs := [1, 7]) (by kernel_rfl) (by simp) ?_
        refine AllReadyH.cons rfl (fun K' hK' => ?_) (AllReadyH.cons rfl (fun K' hK' => ?_) AllReadyH.nil)
        · clear hS
          have c3 := HW.out.kn.cell 3 rfl
          go_simp
          refine hK'.out _ _ (SA.out _ HW.out.bel HW.out.km) (fun hS => ?_)
          clear hK' K' c3
          refine wpAnyH_ready (rs := [7]) (by kernel_rfl) (by simp) ?_
          refine AllReadyH.cons rfl (fun K' hK' => ?_) AllReadyH.nil
          clear hS
          go_simp
          have hb : Below Y0.heap.size Y0 (Y0.alloc (.cells #[.int .i64 a.f, .int .i64 a.e, .int .i64 a.t] 75)) := (Below.refl _ _).alloc (Nat.le_refl _) _
          replace HW := Hid.of (HW.out.below hb)
          have KB : Hid (∀ i u, [.int .i64 a.f, .int .i64 a.e, .int .i64 a.t][i]? = some u → (Y0.alloc (.cells #[.int .i64 a.f, .int .i64 a.e, .int .i64 a.t] 75)).cell? ((⟨Y0.heap.size, 0, none⟩ : Addr).add i) = some u) := cell_three_new Y0 _ _ _ _
          refine hK'.out _ _ (SA.out _ HW.out.bel HW.out.km) (fun hS => ?_)
          clear hK' K' hb
          revert HW KB hS
          generalize Y0.alloc (.cells #[.int .i64 a.f, .int .i64 a.e, .int .i64 a.t] 75) = Y2
          generalize Y0.heap.size = pb
          intro HW KB hS
          refine wpAnyH_ready (rs := [8]) (by kernel_rfl) (by simp) ?_
          refine AllReadyH.cons rfl (fun K' hK' => ?_) AllReadyH.nil
          clear hS
          have ho := HW.out.oa
          have hB0 := HW.out.hB
          refine step_append_block rfl (.tmp 26) (.tmp 32) 23 rfl (w.heap.size + 1 + 1 + 1) 75 i0 _ 3 24 Tryd.underlying23 hi hz0 hz1 hz2 rfl (by decide) _ _ _ rfl ho ⟨pb, 0, none⟩ 1 1 [.int .i64 a.f, .int .i64 a.e, .int .i64 a.t] rfl rfl KB.out (by intro u hu; simp at hu; rcases hu with rfl | rfl | rfl <;> rfl) (by decide) (by unfold maxLen; omega) (by omega) hB0 ?_
          intro v9 Y3 o9 g9 n9
          have o9 : OwnA Y3 (w.heap.size + 1 + 1 + 1) v9 (cur ++ [a]) := own_snocA o9
          obtain ⟨kb, km2, kr2, kn2, hs2⟩ := LW.mid HW.out g9
          obtain ⟨va9, vc9, hv9, -⟩ := own_form2 o9
          rw [List.length_append, List.length_cons, List.length_nil, Nat.zero_add] at hv9
          subst hv9
          have O9 := Hid.of o9
          have KB2 := Hid.of kb
          have KM2 := Hid.of km2
          have KR2 := Hid.of kr2
          have KN2 := Hid.of kn2
          have HS2 := Hid.of hs2
          refine hK'.out _ _ (SA.out _ KB2.out KM2.out) (fun hS => ?_)
          clear hK' K' o9 g9 n9 ho hB0 kb km2 kr2 kn2 hs2 HW KB
          refine wpAnyH_take (i := 9) (v := .pointer (some ⟨w.heap.size + 1 + 1, 3, none⟩)) rfl (by kernel_rfl) (by kernel_rfl) (by kernel_rfl) (fun _ _ _ h => h) (Or.inl ⟨by kernel_rfl, fun w' hw' => by obtain ⟨q0, q1, q2, q3⟩ := hw'; go_simp⟩) hS ?_
          refine wpAnyH_ready (rs := [10]) (by kernel_rfl) (by simp) ?_
          refine AllReadyH.cons rfl (fun K' hK' => ?_) AllReadyH.nil
          clear hS
          have c3 := KN2.out.cell 3 rfl
          have fz := KN2.out.frozen
          go_simp
          have HWN := Hid.of (LW.store KB2.out KM2.out KR2.out KN2.out O9.out HS2.out)
          refine hK'.out _ _ (SA.out _ HWN.out.bel HWN.out.km) (fun hS => ?_)
          clear hK' K' c3 fz KB2 KM2 KR2 KN2 O9 HS2
          refine wpAnyH_done (by kernel_rfl) ?_ _
          clear hS SA
          go_wp2_with fail
          go_roundw
          case rel => exact ⟨j + 1, .slice va9 (cur.length + 1) vc9, by go_num, by omega, by rw [HNX.out]; exact HWN⟩
          case measure => simp [intOf]; omega
        · clear hS
          go_simp
          have hb : Below Y0.heap.size Y0 (Y0.alloc (.cells #[.int .i64 a.f, .int .i64 a.e, .int .i64 a.t] 75)) := (Below.refl _ _).alloc (Nat.le_refl _) _
          replace HW := Hid.of (HW.out.below hb)
          have KB : Hid (∀ i u, [.int .i64 a.f, .int .i64 a.e, .int .i64 a.t][i]? = some u → (Y0.alloc (.cells #[.int .i64 a.f, .int .i64 a.e, .int .i64 a.t] 75)).cell? ((⟨Y0.heap.size, 0, none⟩ : Addr).add i) = some u) := cell_three_new Y0 _ _ _ _
          refine hK'.out _ _ (SA.out _ HW.out.bel HW.out.km) (fun hS => ?_)
          clear hK' K' hb
          revert HW KB hS
          generalize Y0.alloc (.cells #[.int .i64 a.f, .int .i64 a.e, .int .i64 a.t] 75) = Y5
          generalize Y0.heap.size = pb
          intro HW KB hS
          refine wpAnyH_ready (rs := [1]) (by kernel_rfl) (by simp) ?_
          refine AllReadyH.cons rfl (fun K' hK' => ?_) AllReadyH.nil
          clear hS
          have c3 := HW.out.kn.cell 3 rfl
          go_simp
          refine hK'.out _ _ (SA.out _ HW.out.bel HW.out.km) (fun hS => ?_)
          clear hK' K' c3
          refine wpAnyH_ready (rs := [8]) (by kernel_rfl) (by simp) ?_
          refine AllReadyH.cons rfl (fun K' hK' => ?_) AllReadyH.nil
          clear hS
          have ho := HW.out.oa
          have hB0 := HW.out.hB
          refine step_append_block rfl (.tmp 26) (.tmp 32) 23 rfl (w.heap.size + 1 + 1 + 1) 75 i0 _ 3 24 Tryd.underlying23 hi hz0 hz1 hz2 rfl (by decide) _ _ _ rfl ho ⟨pb, 0, none⟩ 1 1 [.int .i64 a.f, .int .i64 a.e, .int .i64 a.t] rfl rfl KB.out (by intro u hu; simp at hu; rcases hu with rfl | rfl | rfl <;> rfl) (by decide) (by unfold maxLen; omega) (by omega) hB0 ?_
          intro v9 Y7 o9 g9 n9
          have o9 : OwnA Y7 (w.heap.size + 1 + 1 + 1) v9 (cur ++ [a]) := own_snocA o9
          obtain ⟨kb, km2, kr2, kn2, hs2⟩ := LW.mid HW.out g9
          obtain ⟨va9, vc9, hv9, -⟩ := own_form2 o9
          rw [List.length_append, List.length_cons, List.length_nil, Nat.zero_add] at hv9
          subst hv9
          have O9 := Hid.of o9
          have KB2 := Hid.of kb
          have KM2 := Hid.of km2
          have KR2 := Hid.of kr2
          have KN2 := Hid.of kn2
          have HS2 := Hid.of hs2
          refine hK'.out _ _ (SA.out _ KB2.out KM2.out) (fun hS => ?_)
          clear hK' K' o9 g9 n9 ho hB0 kb km2 kr2 kn2 hs2 HW KB
          refine wpAnyH_take (i := 9) (v := .pointer (some ⟨w.heap.size + 1 + 1, 3, none⟩)) rfl (by kernel_rfl) (by kernel_rfl) (by kernel_rfl) (fun _ _ _ h => h) (Or.inl ⟨by kernel_rfl, fun w' hw' => by obtain ⟨q0, q1, q2, q3⟩ := hw'; go_simp⟩) hS ?_
          refine wpAnyH_ready (rs := [10]) (by kernel_rfl) (by simp) ?_
          refine AllReadyH.cons rfl (fun K' hK' => ?_) AllReadyH.nil
          clear hS
          have c3 := KN2.out.cell 3 rfl
          have fz := KN2.out.frozen
          go_simp
          have HWN := Hid.of (LW.store KB2.out KM2.out KR2.out KN2.out O9.out HS2.out)
          refine hK'.out _ _ (SA.out _ HWN.out.bel HWN.out.km) (fun hS => ?_)
          clear hK' K' c3 fz KB2 KM2 KR2 KN2 O9 HS2
          refine wpAnyH_done (by kernel_rfl) ?_ _
          clear hS SA
          go_wp2_with fail
          go_roundw
          case rel => exact ⟨j + 1, .slice va9 (cur.length + 1) vc9, by go_num, by omega, by rw [HNX.out]; exact HWN⟩
          case measure => simp [intOf]; omega
    · have hjD : decide ((j : Int) < (ars.length : Int)) = false := by simp; omega
      have HE : Hid (cur = lowA ⟨st, ev, starts, ars, ends⟩ high) := by show _ = _; rw [HC.out, List.take_of_length_le (by omega)]; rfl
      have n0 := HW.out.kn.cell 0 rfl
      have n1 := HW.out.kn.cell 1 rfl
      have n2 := HW.out.kn.cell 2 rfl
      have n3 := HW.out.kn.cell 3 rfl
      have n4 := HW.out.kn.cell 4 rfl
      have rz := HW.out.kr.frozen
      have r0 := HW.out.kr.cell 0 rfl
      have r1 := HW.out.kr.cell 1 rfl
      have r2 := HW.out.kr.cell 2 rfl
      have r3 := HW.out.kr.cell 3 rfl
      have r4 := HW.out.kr.cell 4 rfl
      have RR := Hid.of (HW.out.kr.set5 (.int .i64 st) (.int .i64 ev) (.slice a1 starts.length c1) (.slice va cur.length vc) (.slice a3 ends.length c3))
      have BB := Hid.of (below_set5 HW.out.bel (b' := w.heap.size + 1) (by omega) (.int .i64 st) (.int .i64 ev) (.slice a1 starts.length c1) (.slice va cur.length vc) (.slice a3 ends.length c3))
      have OO := Hid.of (OwnA.set5 HW.out.oa (b := w.heap.size + 1) (by omega) (.int .i64 st) (.int .i64 ev) (.slice a1 starts.length c1) (.slice va cur.length vc) (.slice a3 ends.length c3))
      clear HW
      go_wp2_with fail
      clear n0 n1 n2 n3 n4 r0 r1 r2 r3 r4 rz x0 x1 x2 x3 x4
      revert RR BB OO
      generalize (((((wr.setCell ⟨w.heap.size + 1, 0, none⟩ (.int .i64 st)).setCell ⟨w.heap.size + 1, 1, none⟩ (.int .i64 ev)).setCell ⟨w.heap.size + 1, 2, none⟩ (.slice a1 starts.length c1)).setCell ⟨w.heap.size + 1, 3, none⟩ (.slice va cur.length vc)).setCell ⟨w.heap.size + 1, 4, none⟩ (.slice a3 ends.length c3)) = Z
      intro RR BB OO
      have r0 := RR.out.cell 0 rfl
      have r1 := RR.out.cell 1 rfl
      have r2 := RR.out.cell 2 rfl
      have r3 := RR.out.cell 3 rfl
      have r4 := RR.out.cell 4 rfl
      refine bodyPost_ret (v := .agg #[.int .i64 st, .int .i64 ev, .slice a1 starts.length c1, .slice va cur.length vc, .slice a3 ends.length c3]) (by simp [results, go_sem, r0, r1, r2, r3, r4]) rfl ⟨va, vc, ?_, ?_, BB.out⟩
      · rw [HE.out]
      · rw [← HE.out]; exact OwnA.low OO.out (by omega)

theorem rqlow_any (m : Mach) (l : ML) (ha : Option Addr) (hc : Nat) (high : List Int) (w : World) (hma : MAt w m l) (hh : At w ha high) (hhl : high.length ≤ maxLen) (hlen : m.arrows.length ≤ 4096) :
    Calls Tryd.prog 54 #[mval m l, .slice ha high.length hc] w fun e w' => ∃ va vc, e = .returned (mval (lowM m high) ⟨l.a1, l.c1, va, vc, l.a3, l.c3⟩) ∧ OwnA w' w.heap.size (.slice va (lowA m high).length vc) (lowA m high) ∧ Below w.heap.size w w' := by
  obtain ⟨st, ev, starts, ars, ends⟩ := m
  obtain ⟨a1, c1, a2, c2, a3, c3⟩ := l
  exact rqlow_go st ev starts ars ends a1 c1 a2 c2 a3 c3 ha hc high w (Hid.of hma) (Hid.of hh) (Hid.of hhl) hlen

end Go.Proofs.YtgebfkmfhpcdhaaDoor
namespace Go.Proofs.YtgebfkmfhpcdhaaDoor
open Go.RowKit
set_option linter.unusedVariables false

set_option maxHeartbeats 1000000 in
theorem refWord_some (m : Mach) (l : ML) (b off cap : Nat) (xs : List Int) (w : World) (hl : xs.length ≤ 9223372036854775807) (hb : b < w.heap.size) (hc : Cells w b off xs) :
    Calls Tryd.prog 19 #[mval m l, .slice (some ⟨b, off, none⟩) xs.length cap] w fun e w' => e = .returned (.bool (wordB m.ev xs)) ∧ Below w.heap.size w w' := by
  go_enter Tryd.func19, Tryd.ntmps19
  go_wp2
  go_loopw [5] (fun i wr => ∃ k : Nat, k ≤ xs.length ∧ i = .int .i64 k ∧ Below (w.heap.size + 1) (w.alloc (.cells (mcells m l) 25)) wr ∧ Hid (wordB m.ev xs = wordB m.ev (xs.drop k))) (fun i _ => xs.length - (intOf i).toNat)
  case atStart => exact ⟨0, Nat.zero_le _, rfl, Below.refl _ _, rfl⟩
  case round =>
    obtain ⟨k, hk, rfl, hbel, he⟩ := hrel
    have hold := below_box hbel
    by_cases hlt : k < xs.length
    · obtain ⟨x, HX, hcx0⟩ := hc.at hlt
      have hcx := (hold.cell (p := ⟨b, off + k, none⟩) hb).trans hcx0
      clear hcx0
      have hev := (box_cells hbel).2.1
      by_cases e1 : x < 0
      · have f1 : decide (x < 0) = true := by simpa using e1
        go_wp2
        go_quiet (fail)
        go_wp2
        go_ret
        exact ⟨ret_bool (word_no hlt HX he (.inl e1)), below_drewN hold _⟩
      · have f1 : decide (x < 0) = false := by simpa using e1
        by_cases e2 : m.ev ≤ x
        · have f2 : decide (m.ev ≤ x) = true := by simpa using e2
          go_wp2
          go_quiet (fail)
          go_wp2
          go_ret
          exact ⟨ret_bool (word_no hlt HX he (.inr e2)), below_drewN hold _⟩
        · have f2 : decide (m.ev ≤ x) = false := by simpa using e2
          go_wp2
          go_quiet (fail)
          go_wp2
          go_roundw
          case rel => exact ⟨k + 1, by omega, by go_num, below_drewN hbel _, word_yes hlt HX he (by omega)⟩
          case measure => simp [intOf]; omega
    · go_wp2
      go_ret
      exact ⟨ret_bool (word_end hlt he), hold⟩

set_option maxHeartbeats 400000 in
theorem refWord_nil (m : Mach) (l : ML) (a : Option Addr) (cap : Nat) (w : World) :
    Calls Tryd.prog 19 #[mval m l, .slice a 0 cap] w fun e w' => e = .returned (.bool true) ∧ Below w.heap.size w w' := by
  go_enter Tryd.func19, Tryd.ntmps19
  go_wp2
  refine wp_loop_rounds 1 ?_
  rw [rounds_succ]
  go_wp2
  go_ret
  exact ⟨rfl, (Below.refl _ _).alloc (Nat.le_refl _) _⟩

theorem refWord_any (m : Mach) (l : ML) (a : Option Addr) (cap : Nat) (xs : List Int) (w : World) (hs : At w a xs) (hl : xs.length ≤ maxLen) :
    Calls Tryd.prog 19 #[mval m l, .slice a xs.length cap] w fun e w' => e = .returned (.bool (wordB m.ev xs)) ∧ Below w.heap.size w w' := by
  rcases hs with rfl | ⟨b, off, rfl, hb, hc⟩
  · exact refWord_nil m l a cap w
  · exact refWord_some m l b off cap xs w hl hb hc

/-- What holds of the list at the head of each round of After. -/
def AR (wr : World) (ars : List Arr) (ss word : List Int) (k : Nat) (v : Value) : Prop := ∃ a c, v = .slice a (afterL ars ss (word.take k)).length c ∧ At wr a (afterL ars ss (word.take k)) ∧ (afterL ars ss (word.take k)).length ≤ maxLen

set_option maxHeartbeats 2000000 in
set_option maxRecDepth 100000 in
theorem refAfter_some (m : Mach) (l : ML) (sa : Option Addr) (sc : Nat) (ss : List Int) (b off wc : Nat) (word : List Int) (w : World) (ha : AtA w l.a2 m.arrows) (hlen : m.arrows.length ≤ 17592186044416) (hs : At w sa ss) (hsl : ss.length ≤ 17592186044416) (hn : Hid (sa = none → sc = 0)) (hb : b < w.heap.size) (hc : Cells w b off word) (hwl : word.length ≤ 9223372036854775807) :
    Calls Tryd.prog 21 #[mval m l, .slice sa ss.length sc, .slice (some ⟨b, off, none⟩) word.length wc] w fun e w' => Gives w (afterL m.arrows ss word) e w' := by
  obtain ⟨i0, hi, hz0, hz1, hz2⟩ := info_parts Tryd.infoInt
  have o0 : Own ((w.alloc (.cells (mcells m l) 25)).alloc (.cells #[] 3)) (w.alloc (.cells (mcells m l) 25)).heap.size (.slice (some ⟨(w.alloc (.cells (mcells m l) 25)).heap.size, 0, none⟩) 0 0) [] := own_empty _
  rw [World.size_alloc] at o0
  have b0 : Below (w.heap.size + 1) (w.alloc (.cells (mcells m l) 25)) ((w.alloc (.cells (mcells m l) 25)).alloc (.cells #[] 3)) := (Below.refl _ _).alloc (by simp) _
  have s0 : At ((w.alloc (.cells (mcells m l) 25)).alloc (.cells #[] 3)) sa ss := hs.below (below_box b0) (Nat.le_refl _)
  go_enter Tryd.func21, Tryd.ntmps21
  go_wp2_with (at_builtin; refine wpList_append_ints _ rfl _ _ 22 rfl (w.heap.size + 1) i0 Tryd.underlying22 hi hz0 hz1 hz2 _ [] rfl o0 sa sc ss rfl s0 hn.out (by simp only [List.length_nil]; omega) (by simp) ?_)
  intro v1 w1 o1 b1 z1
  have hbel1 := b0.trans b1
  clear o0 s0 b0 b1
  have hAR : AR w1 m.arrows ss word 0 v1 := by
    obtain ⟨a, c, rfl, h1, h2⟩ := o1.at
    exact ⟨a, c, rfl, h1, h2⟩
  clear o1
  go_wp2
  go_loopw [7, 8] (fun v i wr => ∃ k : Nat, k ≤ word.length ∧ i = .int .i64 k ∧ AR wr m.arrows ss word k v ∧ Below (w.heap.size + 1) (w.alloc (.cells (mcells m l) 25)) wr) (fun _ i _ => word.length - (intOf i).toNat)
  case atStart => exact ⟨0, Nat.zero_le _, rfl, hAR, hbel1⟩
  case round =>
    obtain ⟨k, hk, rfl, hr, hbel⟩ := hrel
    clear hAR hbel1 z1
    obtain ⟨av, cv, rfl, hat, hal⟩ := hr
    have hold := below_box hbel
    have hsz := hbel.size
    rw [World.size_alloc] at hsz
    by_cases hlt : k < word.length
    · obtain ⟨x, HX, hcx0⟩ := hc.at hlt
      have hcx := (hold.cell (p := ⟨b, off + k, none⟩) hb).trans hcx0
      clear hcx0
      obtain ⟨x0, x1, x2, x3, x4⟩ := box_cells hbel
      have har := ha.below hold (Nat.le_refl _)
      have HN : Hid (afterL m.arrows ss (word.take (k + 1)) = stepL m.arrows (afterL m.arrows ss (word.take k)) x) := afterL_take hlt HX
      generalize afterL m.arrows ss (word.take k) = L at *
      go_wp2
      go_region_with (go_at_call 63; refine (refStep_any m l av cv L x _ ?_ hlen ?_ hal).mono ?_; exact har; exact hat; rintro e w2 ⟨a2', c2', rfl, h2', l2', b2'⟩)
      all_goals
        go_wp2
        go_roundw
        case rel => exact ⟨k + 1, by omega, by go_num, by unfold AR; rw [HN.out]; exact ⟨a2', c2', rfl, h2', l2'⟩, hbel.drew.trans (b2'.mono (by simp; omega))⟩
        case measure => simp [intOf]; omega
    · rw [show word.take k = word from List.take_of_length_le (by omega)] at hat hal ⊢
      go_wp2
      go_ret
      exact ⟨av, cv, rfl, hat, hal, hold⟩

set_option maxHeartbeats 1000000 in
theorem refAfter_nil (m : Mach) (l : ML) (sa : Option Addr) (sc : Nat) (ss : List Int) (wa : Option Addr) (wc : Nat) (w : World) (hs : At w sa ss) (hsl : ss.length ≤ 17592186044416) (hn : Hid (sa = none → sc = 0)) :
    Calls Tryd.prog 21 #[mval m l, .slice sa ss.length sc, .slice wa 0 wc] w fun e w' => Gives w ss e w' := by
  obtain ⟨i0, hi, hz0, hz1, hz2⟩ := info_parts Tryd.infoInt
  have o0 : Own ((w.alloc (.cells (mcells m l) 25)).alloc (.cells #[] 3)) (w.alloc (.cells (mcells m l) 25)).heap.size (.slice (some ⟨(w.alloc (.cells (mcells m l) 25)).heap.size, 0, none⟩) 0 0) [] := own_empty _
  rw [World.size_alloc] at o0
  have b0 : Below (w.heap.size + 1) (w.alloc (.cells (mcells m l) 25)) ((w.alloc (.cells (mcells m l) 25)).alloc (.cells #[] 3)) := (Below.refl _ _).alloc (by simp) _
  have s0 : At ((w.alloc (.cells (mcells m l) 25)).alloc (.cells #[] 3)) sa ss := hs.below (below_box b0) (Nat.le_refl _)
  go_enter Tryd.func21, Tryd.ntmps21
  go_wp2_with (at_builtin; refine wpList_append_ints _ rfl _ _ 22 rfl (w.heap.size + 1) i0 Tryd.underlying22 hi hz0 hz1 hz2 _ [] rfl o0 sa sc ss rfl s0 hn.out (by simp only [List.length_nil]; omega) (by simp) ?_)
  intro v1 w1 o1 b1 z1
  have hbel1 := b0.trans b1
  clear o0 s0 b0 b1
  obtain ⟨a, c, rfl, h1, h2⟩ := o1.at
  clear o1
  go_wp2_with fail
  refine wp_loop_rounds 1 ?_
  rw [rounds_succ]
  go_wp2
  go_ret
  exact ⟨a, c, rfl, h1, h2, below_box hbel1⟩

theorem refAfter_any (m : Mach) (l : ML) (sa : Option Addr) (sc : Nat) (ss : List Int) (wa : Option Addr) (wc : Nat) (word : List Int) (w : World) (ha : AtA w l.a2 m.arrows) (hlen : m.arrows.length ≤ 17592186044416) (hs : At w sa ss) (hsl : ss.length ≤ 17592186044416) (hn : sa = none → sc = 0) (hw : At w wa word) (hwl : word.length ≤ maxLen) :
    Calls Tryd.prog 21 #[mval m l, .slice sa ss.length sc, .slice wa word.length wc] w fun e w' => Gives w (afterL m.arrows ss word) e w' := by
  rcases hw with rfl | ⟨b, off, rfl, hb, hc⟩
  · exact refAfter_nil m l sa sc ss wa wc w hs hsl hn
  · exact refAfter_some m l sa sc ss b off wc word w ha hlen hs hsl hn hb hc hwl

end Go.Proofs.YtgebfkmfhpcdhaaDoor
namespace Go.Proofs.YtgebfkmfhpcdhaaDoor
open Go.RowKit
set_option linter.unusedVariables false

set_option maxRecDepth 100000 in
set_option maxHeartbeats 8000000 in
theorem delh_any (m : Mach) (l : ML) (sa : Option Addr) (sc : Nat) (seen : List Int) (fa : Option Addr) (fc : Nat) (faults : List Int) (wa : Option Addr) (wc : Nat) (word : List Int) (w : World) (hT : Hid (Tab w)) (h : Hid (MAt w m l)) (hse : Hid (At w sa seen)) (hsl : Hid (seen.length ≤ maxLen)) (n5 : Hid (seen.length ≤ sc ∧ sc ≤ maxLen ∧ (sa = none → sc = 0))) (hfa : Hid (At w fa faults)) (hfl : Hid (faults.length ≤ maxLen)) (hwd : Hid (At w wa word)) (hwl : word.length ≤ 17592186044416) :
    Calls Tryd.prog 13 #[mval m l, .slice sa seen.length sc, .slice fa faults.length fc, .slice wa word.length wc] w fun e w' => e = .returned (.bool true) ∧ Below w.heap.size w w' := by
  have B : Hid (Below w.heap.size w (w.alloc (.cells (mcells m l) 25))) := (Below.refl _ _).alloc (Nat.le_refl _) _
  have KA : Hid (Blk (w.alloc (.cells (mcells m l) 25)) w.heap.size 25 (mcells m l)) := Blk.new w _ _
  go_enter Tryd.func13, Tryd.ntmps13
  obtain ⟨x0, x1, x2, x3, x4⟩ := mcell_at KA.out
  go_wp2_with fail
  clear x0 x1 x2 x3 x4
  revert B KA
  generalize (w.alloc (.cells (mcells m l) 25)) = V0
  intro B KA
  refine (refMay_any m l _ (h.out.below B.out (Nat.le_refl _))).mono ?_
  rintro e W1 ⟨rfl, hb⟩
  replace B := Hid.of (B.out.trans (hb.mono B.out.size))
  replace KA := Hid.of (KA.out.below hb KA.out.lt)
  clear hb
  cases hm : mayB m with
  | false =>
    go_wp2_with fail
    go_ret
    exact ⟨rfl, B.out⟩
  | true =>
    have HM := Hid.of hm
    clear hm
    by_cases z1 : m.st ≤ 6
    · have d2 : decide ((6 : Int) < m.st) = false := by simp; omega
      have Z1 := Hid.of z1
      clear z1
      obtain ⟨x0, x1, x2, x3, x4⟩ := mcell_at KA.out
      go_wp2_with fail
      clear x0 x1 x2 x3 x4
      refine (refIs_any sa sc seen m.ev _ (hse.out.below B.out (Nat.le_refl _)) hsl.out).mono ?_
      rintro e W2 ⟨rfl, qd, hqd⟩
      have hb : Below W1.heap.size W1 W2 := by rw [hqd]; exact below_drewN (Below.refl _ _) qd
      clear hqd
      replace B := Hid.of (B.out.trans (hb.mono B.out.size))
      replace KA := Hid.of (KA.out.below hb KA.out.lt)
      clear hb
      cases hr : rowB m.ev seen with
      | false =>
        go_wp2_with fail
        go_ret
        exact ⟨rfl, B.out⟩
      | true =>
        have HR := Hid.of hr
        clear hr
        obtain ⟨x0, x1, x2, x3, x4⟩ := mcell_at KA.out
        go_wp2_with fail
        clear x0 x1 x2 x3 x4
        refine (refIs_any fa fc faults m.ev _ (hfa.out.below B.out (Nat.le_refl _)) hfl.out).mono ?_
        rintro e W3 ⟨rfl, qd, hqd⟩
        have hb : Below W2.heap.size W2 W3 := by rw [hqd]; exact below_drewN (Below.refl _ _) qd
        clear hqd
        replace B := Hid.of (B.out.trans (hb.mono B.out.size))
        replace KA := Hid.of (KA.out.below hb KA.out.lt)
        clear hb
        cases hr : rowB m.ev faults with
        | false =>
          go_wp2_with fail
          go_ret
          exact ⟨rfl, B.out⟩
        | true =>
          have HF := Hid.of hr
          clear hr
          obtain ⟨x0, x1, x2, x3, x4⟩ := mcell_at KA.out
          go_wp2_with fail
          clear x0 x1 x2 x3 x4
          refine (refWord_any m l wa wc word _ (hwd.out.below B.out (Nat.le_refl _)) (Nat.le_trans hwl (by decide))).mono ?_
          rintro e W4 ⟨rfl, hb⟩
          replace B := Hid.of (B.out.trans (hb.mono B.out.size))
          replace KA := Hid.of (KA.out.below hb KA.out.lt)
          clear hb
          cases hr : wordB m.ev word with
          | false =>
            go_wp2_with fail
            go_ret
            exact ⟨rfl, B.out⟩
          | true =>
            clear hr
            obtain ⟨x0, x1, x2, x3, x4⟩ := mcell_at KA.out
            go_wp2_with fail
            clear x0 x1 x2 x3 x4
            obtain ⟨ld, le, lH⟩ : ∃ d e, Hid (delOut m seen faults = (d, e)) := ⟨_, _, rfl⟩
            refine (pDel_any m l sa sc seen fa fc faults _ (h.out.below B.out (Nat.le_refl _)) (hse.out.below B.out (Nat.le_refl _)) hsl.out (hfa.out.below B.out (Nat.le_refl _)) hfl.out (hT.out.below B.out hT.out.lt)).mono ?_
            intro e W5 hp
            unfold DelPost at hp
            rw [lH.out] at hp
            dsimp only at hp
            obtain ⟨rfl, hb⟩ := hp
            replace B := Hid.of (B.out.trans (hb.mono B.out.size))
            replace KA := Hid.of (KA.out.below hb KA.out.lt)
            clear hb
            have q1 := lH.out
            rw [delOut_ok HM.out HR.out HF.out Z1.out] at q1
            obtain ⟨D, HD⟩ : ∃ D, Hid (D = delD m seen faults) := ⟨_, rfl⟩
            rw [← HD.out] at q1
            obtain ⟨rfl, rfl⟩ : ld = D ∧ le = 0 := by cases q1; exact ⟨rfl, rfl⟩
            clear q1 lH
            have hlen : m.arrows.length ≤ 4096 ∧ m.starts.length ≤ 4096 := by
              have hz := mayB_size HM.out
              unfold sizeOk at hz
              have := nodup_len m.st.toNat m.starts (inc_nodup (may_starts HM.out).1) (fun x hx => by have := (may_starts HM.out).2 x hx; omega)
              omega
            have HLN := Hid.of hlen
            clear hlen
            have HDI : Hid (DlIs (UnfF m seen faults) ld) := by show DlIs _ _; rw [HD.out]; exact del_is HM.out Z1.out seen faults
            go_wp2_with fail
            go_loopw [11] (fun i wr => ∃ j : Nat, i = .int .i64 j ∧ j ≤ word.length ∧ wr = W5 ∧ Hid (∀ e ∈ word.take j, hasB faults e = false)) (fun i _ => word.length - (intOf i).toNat)
            case atStart => exact ⟨0, rfl, Nat.zero_le _, rfl, fun e he => by simp at he⟩
            case round =>
              obtain ⟨j, rfl, hj, rfl, HJ⟩ := hrel
              by_cases hjl : j < word.length
              · obtain ⟨x, HXJ⟩ : ∃ x, Hid (word[j]? = some x) := ⟨_, List.getElem?_eq_getElem hjl⟩
                obtain ⟨wb, wo, hwa, hwbl, -⟩ := hwd.out.cells_of13 (k := j) hjl
                subst hwa
                have x9 := (B.out.cell (p := ⟨wb, wo + j, none⟩) (at_cell13 hwd.out HXJ.out).1).trans (at_cell13 hwd.out HXJ.out).2
                have hjD : decide ((j : Int) < (word.length : Int)) = true := by simp; omega
                have KH := Hid.of (refHas_any fa fc faults x wr (hfa.out.below B.out (Nat.le_refl _)) hfl.out)
                clear hwbl
                go_wp2_with fail
                refine KH.out.mono ?_
                rintro e W6 ⟨rfl, rfl⟩
                clear KH
                cases hb : hasB faults x with
                | false =>
                  have HJ2 : Hid (∀ e ∈ word.take (j + 1), hasB faults e = false) := fun e he => by
                    rw [step_at HXJ.out] at he
                    rcases List.mem_append.1 he with q | q
                    · exact HJ.out e q
                    · rw [List.mem_singleton] at q; rw [q]; exact hb
                  clear hb
                  go_wp2_with fail
                  go_roundw
                  case rel => exact ⟨j + 1, by go_num, by omega, by trivial, HJ2⟩
                  case measure => simp [intOf]; omega
                | true =>
                  have HB := Hid.of hb
                  clear hb x9
                  obtain ⟨x0, x1, x2, x3, x4⟩ := mcell_at KA.out
                  go_wp2_with fail
                  clear x0 x1 x2 x3 x4
                  refine (refAfter_any m l l.a1 l.c1 m.starts (some ⟨wb, wo, none⟩) wc word _ (h.out.a.below B.out (Nat.le_refl _)) (by have := HLN.out.1; omega) (h.out.s.below B.out (Nat.le_refl _)) (by have := HLN.out.2; omega) h.out.s3 (hwd.out.below B.out (Nat.le_refl _)) (Nat.le_trans hwl (by decide))).mono ?_
                  rintro e W6 ⟨ta, tc, rfl, -, -, hb⟩
                  replace B := Hid.of (B.out.trans (hb.mono B.out.size))
                  replace KA := Hid.of (KA.out.below hb KA.out.lt)
                  clear hb
                  obtain ⟨to, HTO⟩ : ∃ to, Hid (to = afterL m.arrows m.starts word) := ⟨_, rfl⟩
                  rw [← HTO.out]
                  have g1 : ((j : Int) == (word.length : Int)) = false := by simp; omega
                  by_cases t0 : to.length = 0
                  · have g2 : ((to.length : Int) == 0) = true := beq_iff_eq.2 (by omega)
                    clear t0
                    go_wp2_with fail
                    go_ret
                    exact ⟨rfl, B.out⟩
                  · have g2 : ((to.length : Int) == 0) = false := beq_eq_false_iff_ne.2 (by omega)
                    have HT0 : Hid (afterL m.arrows m.starts word ≠ []) := fun q => t0 (by rw [HTO.out, q]; rfl)
                    clear t0
                    by_cases n0 : ld < 0
                    · have d5 : decide (ld < 0) = true := by simp [n0]
                      clear n0
                      go_wp2_with fail
                      go_ret
                      exact ⟨rfl, B.out⟩
                    · have d5 : decide (ld < 0) = false := by simp; omega
                      have n1 : 0 ≤ ld := by omega
                      clear n0
                      by_cases n2 : (word.length : Int) - (j : Int) - 1 < ld
                      · have d6 : decide ((word.length : Int) - (j : Int) - 1 < ld) = true := by simp [n2]
                        go_wp2_with fail
                        go_ret
                        exact ⟨rfl, B.out⟩
                      · have d6 : decide ((word.length : Int) - (j : Int) - 1 < ld) = false := by simp; omega
                        have HEST : Hid (estL ⟨rightM m faults, seen, []⟩ (seenL seen word) = []) := by
                          have hd := from_drop HJ.out (fun x hx => by rw [HXJ.out] at hx; cases hx; exact HB.out)
                          refine del_holds HM.out HDI.out n1 (by rw [hd]; intro q; have := congrArg List.length q; rw [List.length_drop] at this; simp at this; omega) HT0.out ?_
                          rw [beh_drop hd]; omega
                        have n3 : ld ≤ (word.length : Int) - (j : Int) - 1 := by omega
                        clear n2
                        obtain ⟨x0, x1, x2, x3, x4⟩ := mcell_at KA.out
                        go_wp2_with fail
                        clear x0 x1 x2 x3 x4
                        refine (rqlow_any m l fa fc faults _ (h.out.below B.out (Nat.le_refl _)) (hfa.out.below B.out (Nat.le_refl _)) hfl.out HLN.out.1).mono ?_
                        rintro e W7 ⟨va, vc, rfl, oa, hb⟩
                        replace B := Hid.of (B.out.trans (hb.mono B.out.size))
                        replace KA := Hid.of (KA.out.below hb KA.out.lt)
                        clear hb
                        obtain ⟨ra, rc, hra, rat, rl1, rl2, rl3⟩ := OwnA.at oa
                        cases hra
                        have RA := Hid.of rat
                        clear rat oa
                        have hb : Below W7.heap.size W7 ((W7.alloc (.cells #[.int .i64 m.st, .int .i64 m.ev, .slice l.a1 m.starts.length l.c1, .slice va (lowA m faults).length vc, .slice l.a3 m.ends.length l.c3] 25)).alloc (.cells #[.int .i64 m.st, .int .i64 m.ev, .slice l.a1 m.starts.length l.c1, .slice va (lowA m faults).length vc, .slice l.a3 m.ends.length l.c3, .slice sa seen.length sc, .slice none 0 0] 46)) := ((Below.refl _ _).alloc (Nat.le_refl _) _).alloc (by simp) _
                        replace B := Hid.of (B.out.trans (hb.mono B.out.size))
                        replace KA := Hid.of (KA.out.below hb KA.out.lt)
                        replace RA := Hid.of (RA.out.below hb (Nat.le_refl _))
                        clear hb
                        have km := Blk.new W7 25 #[.int .i64 m.st, .int .i64 m.ev, .slice l.a1 m.starts.length l.c1, .slice va (lowA m faults).length vc, .slice l.a3 m.ends.length l.c3]
                        have k0 := km.cell 0 rfl
                        have k1 := km.cell 1 rfl
                        have k2 := km.cell 2 rfl
                        have k3 := km.cell 3 rfl
                        have k4 := km.cell 4 rfl
                        clear km
                        have KP : Hid (Blk ((W7.alloc (.cells #[.int .i64 m.st, .int .i64 m.ev, .slice l.a1 m.starts.length l.c1, .slice va (lowA m faults).length vc, .slice l.a3 m.ends.length l.c3] 25)).alloc (.cells #[.int .i64 m.st, .int .i64 m.ev, .slice l.a1 m.starts.length l.c1, .slice va (lowA m faults).length vc, .slice l.a3 m.ends.length l.c3, .slice sa seen.length sc, .slice none 0 0] 46)) (W7.heap.size + 1) 46 (ptcells ⟨rightM m faults, seen, []⟩ ⟨⟨l.a1, l.c1, va, vc, l.a3, l.c3⟩, sa, sc, none, 0⟩)) := by
                          have := Blk.new (W7.alloc (.cells #[.int .i64 m.st, .int .i64 m.ev, .slice l.a1 m.starts.length l.c1, .slice va (lowA m faults).length vc, .slice l.a3 m.ends.length l.c3] 25)) 46 (ptcells ⟨rightM m faults, seen, []⟩ ⟨⟨l.a1, l.c1, va, vc, l.a3, l.c3⟩, sa, sc, none, 0⟩)
                          rwa [World.size_alloc] at this
                        go_wp2_with fail
                        clear k0 k1 k2 k3 k4
                        revert B KA RA KP
                        generalize (W7.alloc (.cells #[.int .i64 m.st, .int .i64 m.ev, .slice l.a1 m.starts.length l.c1, .slice va (lowA m faults).length vc, .slice l.a3 m.ends.length l.c3] 25)).alloc (.cells #[.int .i64 m.st, .int .i64 m.ev, .slice l.a1 m.starts.length l.c1, .slice va (lowA m faults).length vc, .slice l.a3 m.ends.length l.c3, .slice sa seen.length sc, .slice none 0 0] 46) = W8
                        generalize W7.heap.size = p7
                        intro B KA RA KP
                        refine (refSeen_any (some ⟨wb, wo, none⟩) sa wc sc word seen _ (hwd.out.below B.out (Nat.le_refl _)) hwl (hse.out.below B.out (Nat.le_refl _)) hsl.out).mono ?_
                        rintro e W9 ⟨qa, qc, rfl, qat, qln, hb⟩
                        replace B := Hid.of (B.out.trans (hb.mono B.out.size))
                        replace KA := Hid.of (KA.out.below hb KA.out.lt)
                        replace RA := Hid.of (RA.out.below hb (Nat.le_refl _))
                        replace KP := Hid.of (KP.out.below hb KP.out.lt)
                        clear hb
                        obtain ⟨list, HLI⟩ : ∃ list, Hid (list = seenL seen word) := ⟨_, rfl⟩
                        rw [← HLI.out] at qat qln HEST
                        rw [← HLI.out]
                        have QA := Hid.of qat
                        have QL := Hid.of qln
                        clear qat qln
                        obtain ⟨x0, x1, x2, x3, x4, x5, x6⟩ := ptcell_at KP.out
                        dsimp only at x0 x1 x2 x3 x4 x5 x6
                        go_wp2_with fail
                        clear x0 x1 x2 x3 x4 x5 x6
                        refine (rEst_any ⟨rightM m faults, seen, []⟩ ⟨⟨l.a1, l.c1, va, vc, l.a3, l.c3⟩, sa, sc, none, 0⟩ qa qc list W9 ⟨⟨h.out.s.below B.out (Nat.le_refl _), RA.out, h.out.e.below B.out (Nat.le_refl _), h.out.s1, h.out.s2, h.out.s3, rl1, rl2, rl3, h.out.e1, h.out.e2, h.out.e3⟩, ⟨hse.out.below B.out (Nat.le_refl _), n5.out.1, n5.out.2.1, n5.out.2.2⟩, ⟨.inl rfl, Nat.le_refl _, Nat.zero_le _, fun _ => rfl⟩⟩ (may_right HM.out faults) QA.out QL.out).mono ?_
                        rintro e W10 ⟨ev, rfl, eo, hb⟩
                        rw [HEST.out] at eo
                        obtain ⟨xa, xc, hxa, -⟩ := own_form2 eo
                        subst hxa
                        clear eo
                        replace B := Hid.of (B.out.trans (hb.mono B.out.size))
                        replace KA := Hid.of (KA.out.below hb KA.out.lt)
                        replace RA := Hid.of (RA.out.below hb (Nat.le_refl _))
                        replace KP := Hid.of (KP.out.below hb KP.out.lt)
                        clear hb
                        dsimp only [List.length_nil]
                        go_wp2_with fail
                        go_ret
                        exact ⟨rfl, B.out⟩
              · have hjD : decide ((j : Int) < (word.length : Int)) = false := by simp; omega
                have hjE : word.length ≤ j := by omega
                clear hjl
                obtain ⟨x0, x1, x2, x3, x4⟩ := mcell_at KA.out
                go_wp2_with fail
                clear x0 x1 x2 x3 x4
                refine (refAfter_any m l l.a1 l.c1 m.starts wa wc word _ (h.out.a.below B.out (Nat.le_refl _)) (by have := HLN.out.1; omega) (h.out.s.below B.out (Nat.le_refl _)) (by have := HLN.out.2; omega) h.out.s3 (hwd.out.below B.out (Nat.le_refl _)) (Nat.le_trans hwl (by decide))).mono ?_
                rintro e W6 ⟨ta, tc, rfl, -, -, hb⟩
                replace B := Hid.of (B.out.trans (hb.mono B.out.size))
                replace KA := Hid.of (KA.out.below hb KA.out.lt)
                clear hb
                obtain ⟨to, HTO⟩ : ∃ to, Hid (to = afterL m.arrows m.starts word) := ⟨_, rfl⟩
                rw [← HTO.out]
                have g1 : ((j : Int) == (word.length : Int)) = true := by simp; omega
                go_wp2_with fail
                go_ret
                exact ⟨rfl, B.out⟩
    · have d2 : decide ((6 : Int) < m.st) = true := by simp; omega
      clear z1
      obtain ⟨x0, x1, x2, x3, x4⟩ := mcell_at KA.out
      go_wp2_with fail
      clear x0 x1 x2 x3 x4
      go_ret
      exact ⟨rfl, B.out⟩

end Go.Proofs.YtgebfkmfhpcdhaaDoor
