/-
  The walk of current.Leak.
  The walk of jalousieref15.Plain.
  The walk of jalousietop.all.
  The walk of the law TopOne.
-/
import Derived.Test.YtgebfkmfhpcdhaaDoorG47
import Derived.Test.YtgebfkmfhpcdhaaDoorG30
import Derived.Test.YtgebfkmfhpcdhaaDoorG23
import Derived.Test.YtgebfkmfhpcdhaaDoorG10
import Derived.Test.YtgebfkmfhpcdhaaDoorG33
import Derived.Test.YtgebfkmfhpcdhaaDoorG14
import Derived.Test.YtgebfkmfhpcdhaaDoorCCEss
import Derived.Test.YtgebfkmfhpcdhaaDoorG36
import Derived.Test.YtgebfkmfhpcdhaaDoorG06
import Derived.Test.YtgebfkmfhpcdhaaDoorCPairM
import Derived.Test.YtgebfkmfhpcdhaaDoorG04
import Derived.Test.YtgebfkmfhpcdhaaDoorCPSec
import Derived.Test.YtgebfkmfhpcdhaaDoorG31
namespace Go.Proofs.YtgebfkmfhpcdhaaDoor
open Go.RowKit
set_option linter.unusedVariables false

theorem mayP_secret {p : Plant} (hp : mayP p = true) : (∀ x ∈ p.secret, 0 ≤ x ∧ x < 256) ∧ Rep (ofS p.secret) p.secret := by
  obtain ⟨hm, z6, -, hr⟩ := (mayP_iff p).1 hp
  have hz := mayB_size hm
  unfold sizeOk at hz
  have h1 : ∀ x ∈ p.secret, 0 ≤ x ∧ x < 256 := fun x hx => by
    have := ((rowB_iff _ (by omega) _).1 hr).2 x hx
    omega
  have := rep_of h1 p.secret.length
  rw [List.take_of_length_le (Nat.le_refl _)] at this
  exact ⟨h1, this⟩

set_option maxRecDepth 100000 in
set_option maxHeartbeats 4000000 in
theorem leakC_bad (p : Plant) (P : PTL) (w : World) (h : Hid (PAt w p P)) (hp : Hid (mayP p = false)) :
    Calls Tryd.prog 35 #[ptval p P] w fun e w' => LeakPost w (leakOut p (outC p)) e w' := by
  have B : Hid (Below w.heap.size w (w.alloc (.cells (ptcells p P) 46))) := (Below.refl _ _).alloc (Nat.le_refl _) _
  have KP : Hid (Blk (w.alloc (.cells (ptcells p P) 46)) w.heap.size 46 (ptcells p P)) := Blk.new w _ _
  go_enter Tryd.func35, Tryd.ntmps35
  obtain ⟨x0, x1, x2, x3, x4, x5, x6⟩ := ptcell_at KP.out
  go_wp2_with fail
  clear x0 x1 x2 x3 x4 x5 x6
  revert B KP
  generalize (w.alloc (.cells (ptcells p P) 46)) = V0
  intro B KP
  refine (ests_bad p P V0 (Hid.of (h.out.below B.out (Nat.le_refl _))) hp).mono ?_
  rintro e V1 ⟨rfl, hb⟩
  replace B := Hid.of (B.out.trans (hb.mono B.out.size))
  clear hb KP
  go_wp2_with fail
  refine bodyPost_ret (v := .tuple #[.bool false, .slice none 0 0, .int .i64 2]) (by simp [results, go_sem]) rfl ?_
  rw [leakOut_bad hp.out]
  exact ⟨none, 0, rfl, .inl rfl, Nat.zero_le _, B.out⟩

set_option maxRecDepth 100000 in
set_option maxHeartbeats 16000000 in
theorem leakC_ok (p : Plant) (Pl : ML) (sa : Option Addr) (sc : Nat) (ta : Option Addr) (tc : Nat) (w : World) (h : Hid (PAt w p ⟨Pl, sa, sc, ta, tc⟩)) (hT : Hid (Tab w)) (hp : Hid (mayP p = true)) :
    Calls Tryd.prog 35 #[ptval p ⟨Pl, sa, sc, ta, tc⟩] w fun e w' => LeakPost w (leakOut p (outC p)) e w' := by
  have sbd : Hid (∀ x ∈ p.secret, 0 ≤ x ∧ x < 256) := (mayP_secret hp.out).1
  have HRT : Hid (Rep (ofS p.secret) p.secret) := (mayP_secret hp.out).2
  have B : Hid (Below w.heap.size w (w.alloc (.cells (ptcells p ⟨Pl, sa, sc, ta, tc⟩) 46))) := (Below.refl _ _).alloc (Nat.le_refl _) _
  have KP : Hid (Blk (w.alloc (.cells (ptcells p ⟨Pl, sa, sc, ta, tc⟩) 46)) w.heap.size 46 (ptcells p ⟨Pl, sa, sc, ta, tc⟩)) := Blk.new w _ _
  go_enter Tryd.func35, Tryd.ntmps35
  obtain ⟨x0, x1, x2, x3, x4, x5, x6⟩ := ptcell_at KP.out
  go_wp2_with fail
  clear x0 x1 x2 x3 x4 x5 x6
  revert B KP
  generalize (w.alloc (.cells (ptcells p ⟨Pl, sa, sc, ta, tc⟩) 46)) = V0
  intro B KP
  refine (ests_ok p Pl sa sc ta tc V0 (Hid.of (h.out.below B.out (Nat.le_refl _))) (Hid.of (hT.out.below B.out hT.out.lt)) hp).mono ?_
  rintro e V1 ⟨v, L, rfl, pls, hb⟩
  replace B := Hid.of (B.out.trans (hb.mono B.out.size))
  replace KP := Hid.of (KP.out.below hb KP.out.lt)
  obtain ⟨ra, rc, hv, rd, rl, -⟩ := pls.ow.rd
  subst hv
  have HRD := Hid.of rd
  have HIN : Hid (∀ q ∈ L, InnW 0 V1 q.v q.word) := pls.inn
  have HRP : Hid (RepCL L (fwdL p)) := pls.rep
  have HWD : Hid (WdC p.seen L (fwdL p)) := pls.wd
  have hll : L.length ≤ 64 := by
    obtain ⟨hm, z, -, -⟩ := (mayP_iff p).1 hp.out
    rw [pls.rep.len]
    exact fwd_bound hm z (fwd_all hm z)
  clear hb pls rd rl
  have x6 : V1.cell? ⟨w.heap.size, 6, none⟩ = some (.slice ta p.secret.length tc) := KP.out.cell 6 rfl
  go_wp2_with fail
  clear x6
  refine (of_any ta tc p.secret V1 (h.out.t.at_.below B.out (Nat.le_refl _)) h.out.t.len sbd.out).mono ?_
  rintro e V2 ⟨rfl, hb⟩
  obtain ⟨T, HT⟩ : ∃ T, Hid (T = ofS p.secret) := ⟨_, rfl⟩
  rw [← HT.out] at HRT
  rw [← HT.out]
  have hb2 : Below V2.heap.size V2 (V2.alloc (.cells (scells T) 79)) := (Below.refl _ _).alloc (Nat.le_refl _) _
  have hb3 := hb.trans (hb2.mono hb.size)
  replace B := Hid.of (B.out.trans (hb3.mono B.out.size))
  replace HRD := Hid.of (HRD.out.below hb3)
  replace HIN : Hid (∀ q ∈ L, InnW 0 (V2.alloc (.cells (scells T) 79)) q.v q.word) := fun q hq => (HIN.out q hq).below hb3 (Nat.zero_le _)
  have KT : Hid (SB (V2.alloc (.cells (scells T) 79)) V2.heap.size T) := Blk.new V2 _ _
  clear hb hb2 hb3 KP
  go_wp2_with fail
  revert B HRD HIN KT
  generalize V2.alloc (.cells (scells T) 79) = V
  generalize V2.heap.size = pt
  intro B HRD HIN KT
  have HN0 : Hid (∀ (j : Nat) (y : List Int × List Int), j < 0 → (fwdL p)[j]? = some y → leakB p.secret y.1 = false) := fun j y hj => absurd hj (Nat.not_lt_zero _)
  have B0 : Hid (Below V.heap.size V V) := Below.refl _ _
  go_loopw [23] (fun i wr => ∃ k : Nat, i = .int .i64 k ∧ k ≤ L.length ∧ Hid (Below V.heap.size V wr) ∧ Hid (∀ (j : Nat) (y : List Int × List Int), j < k → (fwdL p)[j]? = some y → leakB p.secret y.1 = false)) (fun i _ => L.length - (intOf i).toNat)
  case atStart => exact ⟨0, rfl, Nat.zero_le _, B0, HN0⟩
  case round =>
    clear B0 HN0
    obtain ⟨k, rfl, hk, HB, HN⟩ := hrel
    by_cases hlt : k < L.length
    · obtain ⟨q, HQ⟩ : ∃ q, Hid (L[k]? = some q) := ⟨_, List.getElem?_eq_getElem hlt⟩
      obtain ⟨x, hx, hrx⟩ := HRP.out.rep k q HQ.out
      have HX := Hid.of hx
      have HRX := Hid.of hrx.1
      have HWX : Hid (q.word = wordS p.seen x.2) := HWD.out k q x HQ.out hx
      obtain ⟨za, zc, hzv, hat, hzl, -⟩ := (HIN.out q (List.mem_of_getElem? HQ.out)).at
      have HAT := Hid.of hat
      have HZL := Hid.of hzl
      rcases HRD.out with h0 | ⟨g, o, hra, hg, hc⟩
      · rw [h0] at hlt; simp at hlt
      subst hra
      obtain ⟨qs, qv, qw⟩ := q
      dsimp only at hzv HAT HZL HWX HRX
      subst hzv
      obtain ⟨d0, d1, d2, d3, d4⟩ := rdc_cells (hc k _ HQ.out)
      have c0 := (HB.out.cell (p := ⟨g, o + k * 5, none⟩) hg).trans d0
      have c1 := (HB.out.cell (p := ⟨g, o + k * 5 + 1, none⟩) hg).trans d1
      have c2 := (HB.out.cell (p := ⟨g, o + k * 5 + 2, none⟩) hg).trans d2
      have c3 := (HB.out.cell (p := ⟨g, o + k * 5 + 3, none⟩) hg).trans d3
      have c4 := (HB.out.cell (p := ⟨g, o + k * 5 + 4, none⟩) hg).trans d4
      dsimp only at c0 c1 c2 c3 c4
      have N1 : Hid (Blk (wr.alloc (.cells (pcarr ⟨qs, .slice za qw.length zc, qw⟩) 118)) wr.heap.size 118 (pcarr ⟨qs, .slice za qw.length zc, qw⟩)) := Blk.new wr _ _
      have B1 : Hid (Below V.heap.size V (wr.alloc (.cells (pcarr ⟨qs, .slice za qw.length zc, qw⟩) 118))) := HB.out.alloc HB.out.size _
      obtain ⟨n0, n1, n2, n3, n4⟩ := PCk.cells N1.out
      obtain ⟨y0, y1, y2, y3⟩ := SB.cells (KT.out.below B1.out KT.out.lt)
      have hltI : (k : Int) < (L.length : Int) := by omega
      clear hx hrx hat hzl hc d0 d1 d2 d3 d4
      go_wp2_with fail
      clear c0 c1 c2 c3 c4 n0 n1 n2 n3 n4 y0 y1 y2 y3 hltI HB
      revert N1 B1
      generalize wr.alloc (.cells (pcarr ⟨qs, .slice za qw.length zc, qw⟩) 118) = W1
      generalize wr.heap.size = pq
      intro N1 B1
      have HOUT : Hid (onlyS qs T = leakB p.secret x.1) := only_set HRX.out HRT.out
      refine (onlyIn_any qs T HRX.out.ok HRT.out.ok W1).mono ?_
      rintro e W2 ⟨rfl, hb⟩
      have N2 := Hid.of (N1.out.below hb N1.out.lt)
      have B2 := Hid.of (B1.out.trans (hb.mono B1.out.size))
      clear hb N1 B1
      cases hout : onlyS qs T with
      | true =>
        have HW : Hid (outC p = some qw) := by
          show _ = _
          rw [HWX.out]
          exact fwd_found HN.out HX.out (by rw [← HOUT.out]; exact hout)
        clear hout HOUT
        go_wp2_with fail
        refine wp_region_held_drew (S := fun w' => w'.cell? ⟨pq, 4, none⟩ = some (.slice za qw.length zc)) (by kernel_rfl) ((Blk.drew N2.out).cell 4 rfl) (fun hS => ?_)
        refine wpAnyH_take (i := 0) (v := .pointer (some ⟨pq, 4, none⟩)) rfl (by kernel_rfl) (by kernel_rfl) (by kernel_rfl) (fun _ _ _ h => h) (Or.inl ⟨by kernel_rfl, fun w' hw' => by go_simp⟩) hS ?_
        refine wpAnyH_take (i := 1) (v := .slice za qw.length zc) rfl (by kernel_rfl) (by kernel_rfl) (by kernel_rfl) (fun _ _ _ h => h) (Or.inl ⟨by kernel_rfl, fun w' hw' => by go_simp⟩) hS ?_
        refine wpAnyH_take (i := 2) (v := .bool true) rfl (by kernel_rfl) (by kernel_rfl) (by kernel_rfl) (fun _ _ _ h => h) (Or.inl ⟨by kernel_rfl, fun w' hw' => by go_simp⟩) hS ?_
        refine wpAnyH_take (i := 3) (v := .slice za qw.length zc) rfl (by kernel_rfl) (by kernel_rfl) (by kernel_rfl) (fun _ _ _ h => h) (Or.inl ⟨by kernel_rfl, fun w' hw' => by go_simp⟩) hS ?_
        refine wpAnyH_take (i := 4) (v := .int .i64 0) rfl (by kernel_rfl) (by kernel_rfl) (by kernel_rfl) (fun _ _ _ h => h) (Or.inl ⟨by kernel_rfl, fun w' hw' => by go_simp⟩) hS ?_
        refine wpAnyH_done (by kernel_rfl) ?_ _
        clear hS
        go_wp2_with fail
        refine bodyPost_ret (v := .tuple #[.bool true, .slice za qw.length zc, .int .i64 0]) (by simp [results, go_sem]) rfl ?_
        rw [leakOut_ok hp.out, HW.out]
        exact ⟨za, zc, rfl, HAT.out.below B2.out.drew (Nat.le_refl _), HZL.out, B.out.trans (B2.out.drew.mono B.out.size)⟩
      | false =>
        have HNN : Hid (∀ (j : Nat) (y : List Int × List Int), j < k + 1 → (fwdL p)[j]? = some y → leakB p.secret y.1 = false) := no_more HN.out HX.out (by rw [← HOUT.out]; exact hout)
        clear hout HOUT
        go_wp2_with fail
        go_roundw
        case rel => exact ⟨k + 1, by go_num, by omega, B2, HNN⟩
        case measure => simp [intOf]; omega
    · have hkl : k = L.length := by omega
      subst hkl
      have HW : Hid (outC p = none) := fwd_not HN.out (by rw [HRP.out.len]; exact Nat.le_refl _)
      clear hlt
      go_wp2_with fail
      refine bodyPost_ret (v := .tuple #[.bool false, .slice none 0 0, .int .i64 0]) (by simp [results, go_sem]) rfl ?_
      rw [leakOut_ok hp.out, HW.out]
      exact ⟨none, 0, rfl, .inl rfl, Nat.zero_le _, B.out.trans (HB.out.mono B.out.size)⟩

theorem pLeakC_any (p : Plant) (P : PTL) (w : World) (h : PAt w p P) (hT : Tab w) :
    Calls Tryd.prog 35 #[ptval p P] w fun e w' => LeakPost w (leakOut p (outC p)) e w' := by
  cases hp : mayP p with
  | false => exact leakC_bad p P w (Hid.of h) (Hid.of hp)
  | true =>
    obtain ⟨Pl, sa, sc, ta, tc⟩ := P
    exact leakC_ok p Pl sa sc ta tc w (Hid.of h) (Hid.of hT) (Hid.of hp)

end Go.Proofs.YtgebfkmfhpcdhaaDoor
namespace Go.Proofs.YtgebfkmfhpcdhaaDoor
open Go.RowKit
set_option linter.unusedVariables false

/-- At the states below a, and at those events of a below b, at most one arrow each. -/
def plTo1 (m : Mach) (a b : Nat) : Prop := ∀ x e : Nat, (x < a ∧ (e : Int) < m.ev) ∨ (x = a ∧ e < b) → (stepL m.arrows [(x : Int)] (e : Int)).length ≤ 1
theorem pl_next {m : Mach} {a b : Nat} (h : plTo1 m a b) (h1 : (stepL m.arrows [(a : Int)] (b : Int)).length ≤ 1) : plTo1 m a (b + 1) := fun x e hx => by
  rcases hx with hx | ⟨rfl, hx⟩
  · exact h x e (.inl hx)
  · by_cases q : e < b
    · exact h x e (.inr ⟨rfl, q⟩)
    · have : e = b := by omega
      subst this; exact h1
theorem pl_row {m : Mach} {a b : Nat} (h : plTo1 m a b) (hb : m.ev ≤ (b : Int)) : plTo1 m (a + 1) 0 := fun x e hx => by
  rcases hx with ⟨h1, h2⟩ | ⟨-, h2⟩
  · by_cases q : x < a
    · exact h x e (.inl ⟨q, h2⟩)
    · exact h x e (.inr ⟨by omega, by omega⟩)
  · omega
theorem pl_all {m : Mach} {a : Nat} (h : plTo1 m a 0) (ha : m.st ≤ (a : Int)) (hs : m.starts.length ≤ 1) : plainM m := ⟨hs, fun x e h1 h2 h3 h4 => by
  have := h x.toNat e.toNat (.inl ⟨by omega, by omega⟩)
  rwa [Int.toNat_of_nonneg h1, Int.toNat_of_nonneg h3] at this⟩

set_option maxRecDepth 100000 in
set_option maxHeartbeats 4000000 in
theorem rplain_go (st ev : Nat) (starts : List Int) (ars : List Arr) (ends seen secret : List Int) (P : PTL) (w : World) (h : Hid (PAt w ⟨⟨(st : Int), (ev : Int), starts, ars, ends⟩, seen, secret⟩ P)) (hst : st ≤ 256) (hev : ev ≤ 8) (hlen : Hid (ars.length ≤ 17592186044416)) :
    Calls Tryd.prog 49 #[ptval ⟨⟨(st : Int), (ev : Int), starts, ars, ends⟩, seen, secret⟩ P] w fun e w' => ∃ b : Bool, e = .returned (.bool b) ∧ (b = true → plainM ⟨(st : Int), (ev : Int), starts, ars, ends⟩) ∧ (b = false → ¬ plainM ⟨(st : Int), (ev : Int), starts, ars, ends⟩) ∧ Below w.heap.size w w' := by
  have B : Hid (Below w.heap.size w (w.alloc (.cells (ptcells ⟨⟨(st : Int), (ev : Int), starts, ars, ends⟩, seen, secret⟩ P) 46))) := (Below.refl _ _).alloc (Nat.le_refl _) _
  have KP : Hid (Blk (w.alloc (.cells (ptcells ⟨⟨(st : Int), (ev : Int), starts, ars, ends⟩, seen, secret⟩ P) 46)) w.heap.size 46 (ptcells ⟨⟨(st : Int), (ev : Int), starts, ars, ends⟩, seen, secret⟩ P)) := Blk.new w _ _
  have hsl : starts.length ≤ 9223372036854775807 := Nat.le_trans h.out.m.s1 h.out.m.s2
  go_enter Tryd.func49, Tryd.ntmps49
  obtain ⟨x0, x1, x2, x3, x4, x5, x6⟩ := ptcell_at KP.out
  dsimp only at x0 x1 x2 x3 x4 x5 x6
  by_cases hs : starts.length ≤ 1
  · have d1 : decide ((1 : Int) < (starts.length : Int)) = false := by rw [decide_eq_false_iff_not]; omega
    have HS := Hid.of hs
    clear hs
    go_wp2_with fail
    clear x0 x1 x2 x3 x4 x5 x6
    revert B KP
    show Hid (Below w.heap.size w (w.alloc (.cells #[.int .i64 st, .int .i64 ev, .slice P.l.a1 starts.length P.l.c1, .slice P.l.a2 ars.length P.l.c2, .slice P.l.a3 ends.length P.l.c3, .slice P.sa seen.length P.sc, .slice P.ta secret.length P.tc] 46))) → _
    generalize w.alloc (.cells #[.int .i64 st, .int .i64 ev, .slice P.l.a1 starts.length P.l.c1, .slice P.l.a2 ars.length P.l.c2, .slice P.l.a3 ends.length P.l.c3, .slice P.sa seen.length P.sc, .slice P.ta secret.length P.tc] 46) = V0
    intro B KP
    go_loopw [3] (fun i wr => ∃ a : Nat, i = .int .i64 a ∧ a ≤ st ∧ Hid (plTo1 ⟨(st : Int), (ev : Int), starts, ars, ends⟩ a 0) ∧ Hid (Below w.heap.size w wr) ∧ Hid (Blk wr w.heap.size 46 (ptcells ⟨⟨(st : Int), (ev : Int), starts, ars, ends⟩, seen, secret⟩ P))) (fun i _ => st - (intOf i).toNat)
    case atStart => exact ⟨0, rfl, Nat.zero_le _, fun x e hx => by omega, B, KP⟩
    case round =>
      clear B KP
      obtain ⟨a, rfl, ha, HP, B, KP⟩ := hrel
      obtain ⟨x0, x1, x2, x3, x4, x5, x6⟩ := ptcell_at KP.out
      dsimp only at x0 x1 x2 x3 x4 x5 x6
      by_cases hal : a < st
      · have haD : decide ((a : Int) < (st : Int)) = true := by simp; omega
        go_wp2_with fail
        clear x0 x1 x2 x3 x4 x5 x6
        go_loopw [4] (fun i wr => ∃ b : Nat, i = .int .i64 b ∧ b ≤ ev ∧ Hid (plTo1 ⟨(st : Int), (ev : Int), starts, ars, ends⟩ a b) ∧ Hid (Below w.heap.size w wr) ∧ Hid (Blk wr w.heap.size 46 (ptcells ⟨⟨(st : Int), (ev : Int), starts, ars, ends⟩, seen, secret⟩ P))) (fun i _ => ev - (intOf i).toNat)
        case atStart => exact ⟨0, rfl, Nat.zero_le _, HP, B, KP⟩
        case round =>
          clear B KP HP
          obtain ⟨b, rfl, hb0, HP, B, KP⟩ := hrel
          by_cases hbl : b < ev
          · have hbD : decide ((b : Int) < (ev : Int)) = true := by simp; omega
            have bA : Below wr.heap.size wr (wr.alloc (.cells #[.int .i64 (a : Int)] 3)) := (Below.refl _ _).alloc (Nat.le_refl _) _
            have B1 := Hid.of (B.out.trans (bA.mono B.out.size))
            have KP1 := Hid.of (KP.out.below bA KP.out.lt)
            have A1 := Hid.of (at_onew wr (a : Int))
            clear bA
            obtain ⟨x0, x1, x2, x3, x4, x5, x6⟩ := ptcell_at KP.out
            dsimp only at x0 x1 x2 x3 x4 x5 x6
            go_wp2_with fail
            clear x0 x1 x2 x3 x4 x5 x6 B KP
            revert B1 KP1 A1
            generalize wr.alloc (.cells #[.int .i64 (a : Int)] 3) = W1
            generalize wr.heap.size = pa
            intro B1 KP1 A1
            refine (refStep_own ⟨(st : Int), (ev : Int), starts, ars, ends⟩ P.l (some ⟨pa, 0, none⟩) 1 [(a : Int)] (b : Int) W1 (h.out.m.a.below B1.out (Nat.le_refl _)) hlen.out A1.out (show 1 ≤ maxLen by decide)).mono ?_
            rintro e W2 ⟨z, rfl, oz, hb⟩
            replace B1 := Hid.of (B1.out.trans (hb.mono B1.out.size))
            replace KP1 := Hid.of (KP1.out.below hb KP1.out.lt)
            obtain ⟨t, HT⟩ : ∃ t, Hid (t = stepL ars [(a : Int)] (b : Int)) := ⟨_, rfl⟩
            replace oz : Own W2 W1.heap.size z t := by rw [HT.out]; exact oz
            obtain ⟨za, zc, hz, hzl, hzm, -⟩ := own_form2 oz
            subst hz
            have htl : t.length ≤ 9223372036854775807 := Nat.le_trans hzl hzm
            clear oz hb hzl hzm A1
            by_cases ht : t.length ≤ 1
            · have d2 : decide ((1 : Int) < (t.length : Int)) = false := by rw [decide_eq_false_iff_not]; omega
              have HPN : Hid (plTo1 ⟨(st : Int), (ev : Int), starts, ars, ends⟩ a (b + 1)) := pl_next HP.out (by show (stepL ars [(a : Int)] (b : Int)).length ≤ 1; rw [← HT.out]; exact ht)
              clear ht
              go_wp2_with fail
              go_roundw
              case rel => exact ⟨b + 1, by go_num, by omega, HPN, B1, KP1⟩
              case measure => simp [intOf]; omega
            · have d2 : decide ((1 : Int) < (t.length : Int)) = true := by rw [decide_eq_true_eq]; omega
              have HN : Hid (¬ plainM ⟨(st : Int), (ev : Int), starts, ars, ends⟩) := fun hp => by
                have := hp.2 (a : Int) (b : Int) (by omega) (by show (a : Int) < (st : Int); omega) (by omega) (by show (b : Int) < (ev : Int); omega)
                rw [show stepL (Mach.mk (st : Int) (ev : Int) starts ars ends).arrows [(a : Int)] (b : Int) = t from HT.out.symm] at this
                exact ht this
              clear ht
              go_wp2_with fail
              go_ret
              exact ⟨false, rfl, (fun h => by cases h), (fun _ => HN.out), B1.out⟩
          · have hbD : decide ((b : Int) < (ev : Int)) = false := by simp; omega
            have HPN : Hid (plTo1 ⟨(st : Int), (ev : Int), starts, ars, ends⟩ (a + 1) 0) := pl_row HP.out (by show (ev : Int) ≤ (b : Int); omega)
            obtain ⟨x0, x1, x2, x3, x4, x5, x6⟩ := ptcell_at KP.out
            dsimp only at x0 x1 x2 x3 x4 x5 x6
            go_wp2_with fail
            go_roundw
            case rel => exact ⟨a + 1, by go_num, by omega, HPN, B, KP⟩
            case measure => simp [intOf]; omega
      · have haD : decide ((a : Int) < (st : Int)) = false := by simp; omega
        have HY : Hid (plainM ⟨(st : Int), (ev : Int), starts, ars, ends⟩) := pl_all HP.out (by show (st : Int) ≤ (a : Int); omega) HS.out
        go_wp2_with fail
        go_ret
        exact ⟨true, rfl, (fun _ => HY.out), (fun h => by cases h), B.out⟩
  · have d1 : decide ((1 : Int) < (starts.length : Int)) = true := by rw [decide_eq_true_eq]; omega
    have HN : Hid (¬ plainM ⟨(st : Int), (ev : Int), starts, ars, ends⟩) := fun hp => hs hp.1
    clear hs
    go_wp2_with fail
    go_ret
    exact ⟨false, rfl, (fun h => by cases h), (fun _ => HN.out), B.out⟩

theorem rplain_any (p : Plant) (P : PTL) (w : World) (h : PAt w p P) (hm : mayB p.m = true) :
    Calls Tryd.prog 49 #[ptval p P] w fun e w' => ∃ b : Bool, e = .returned (.bool b) ∧ (b = true → plainM p.m) ∧ (b = false → ¬ plainM p.m) ∧ Below w.heap.size w w' := by
  have hz := mayB_size hm
  unfold sizeOk at hz
  obtain ⟨⟨st, ev, starts, ars, ends⟩, seen, secret⟩ := p
  dsimp only at hz
  obtain ⟨st', rfl⟩ : ∃ n : Nat, st = (n : Int) := ⟨st.toNat, by omega⟩
  obtain ⟨ev', rfl⟩ : ∃ n : Nat, ev = (n : Int) := ⟨ev.toNat, by omega⟩
  exact rplain_go st' ev' starts ars ends seen secret P w (Hid.of h) (by omega) (by omega) (show _ ≤ _ by omega)

end Go.Proofs.YtgebfkmfhpcdhaaDoor
namespace Go.Proofs.YtgebfkmfhpcdhaaDoor
open Go.RowKit
set_option linter.unusedVariables false

/-! jalousietop.all -/
set_option maxHeartbeats 2000000 in
theorem allT_any (v : Nat) (hv : v ≤ 8) (w : World) : Calls Tryd.prog 50 #[.int .i64 (v : Int)] w fun e w' => GivesO w (rngI v) e w' := by
  obtain ⟨k0, ki, kz0, kz1, kz2⟩ := info_parts Tryd.infoInt
  go_enter Tryd.func50, Tryd.ntmps50
  go_wp2
  go_loopw [3, 4] (fun x i wr => ∃ k : Nat, i = .int .i64 k ∧ k ≤ v ∧ Hid (Own wr w.heap.size x (rngI k)) ∧ Hid (Below w.heap.size w wr)) (fun _ i _ => v - (intOf i).toNat)
  case atStart => exact ⟨0, rfl, Nat.zero_le _, own_nil _ _, Below.refl _ _⟩
  case round =>
    obtain ⟨k, rfl, hk, HO, HB⟩ := hrel
    have hl := rngI_len k
    have hsz := HB.out.size
    by_cases hlt : k < v
    · go_wp2_with (at_builtin; refine wpList_append_ints _ rfl (.tmp 10) (.tmp 12) 22 rfl w.heap.size k0 Tryd.underlying22 ki kz0 kz1 kz2 _ (rngI k) rfl (World.ownsRow.alloc HO.out _) (some ⟨wr.heap.size, 0, none⟩) 1 [(k : Int)] rfl (at_onew wr (k : Int)) (fun h => by cases h) (by rw [hl]; simp only [List.length_cons, List.length_nil]; omega) (by simp; omega) ?_)
      intro v1 u1 o1 b1 s1
      have O1 : Hid (Own u1 w.heap.size v1 (rngI (k + 1))) := by show Own _ _ _ _; rw [rngI_succ]; exact o1
      have B1 : Hid (Below w.heap.size w u1) := (HB.out.alloc hsz _).trans b1
      clear o1 b1 s1 HO HB hl hsz
      go_wp2
      go_roundw
      case rel => exact ⟨k + 1, by go_num, by omega, O1, B1⟩
      case measure => simp [intOf]; omega
    · have : k = v := by omega
      subst this
      clear hl hsz
      go_wp2
      go_ret
      exact ⟨_, rfl, HO.out, HB.out⟩

end Go.Proofs.YtgebfkmfhpcdhaaDoor
namespace Go.Proofs.YtgebfkmfhpcdhaaDoor
open Go.RowKit
set_option linter.unusedVariables false

/-- The same machine with other ends may be. -/
theorem may_other {m : Mach} (hm : mayB m = true) {en : List Int} (h : rowB m.st en = true) : mayB ⟨m.st, m.ev, m.starts, m.arrows, en⟩ = true := by
  have hz := mayB_size hm
  have h1 := may_starts hm
  have hs : rowB m.st m.starts = true := by
    unfold sizeOk at hz
    exact (rowB_iff _ (by omega) _).2 ⟨h1.1, h1.2⟩
  have ha := mayB_arrs hm
  rw [mayB_go (m := ⟨m.st, m.ev, m.starts, m.arrows, en⟩) hz hs h]
  exact ha

theorem own_setC {W : World} {B b : Nat} {v : Value} {xs : List Int} (h : Own W B v xs) (hb : b < B) (j : Nat) (u : Value) : Own (W.setCell ⟨b, j, none⟩ u) B v xs := own_same h (fun k hk => by
  obtain ⟨cs, hc⟩ := own_type h hk
  have hk2 := (World.ownsRow.lt h k hk).1
  have : Blk W k 3 cs := hc
  exact (Blk.other this (j := j) (Nat.ne_of_gt (by omega)) u).trans hc.symm)

set_option maxRecDepth 100000 in
set_option maxHeartbeats 8000000 in
theorem tone_go (st : Nat) (ev : Int) (starts : List Int) (ars : List Arr) (ends seen secret : List Int) (a1 : Option Addr) (c1 : Nat) (a2 : Option Addr) (c2 : Nat) (a3 : Option Addr) (c3 : Nat) (sa : Option Addr) (sc : Nat) (ta : Option Addr) (tc : Nat) (w : World) (hT : Hid (Tab w)) (h : Hid (PAt w ⟨⟨(st : Int), ev, starts, ars, ends⟩, seen, secret⟩ ⟨⟨a1, c1, a2, c2, a3, c3⟩, sa, sc, ta, tc⟩)) (HMP : Hid (mayP ⟨⟨(st : Int), ev, starts, ars, ends⟩, seen, secret⟩ = true)) :
    Calls Tryd.prog 11 #[ptval ⟨⟨(st : Int), ev, starts, ars, ends⟩, seen, secret⟩ ⟨⟨a1, c1, a2, c2, a3, c3⟩, sa, sc, ta, tc⟩] w fun e w' => e = .returned (.bool true) ∧ Below w.heap.size w w' := by
  obtain ⟨hm, z6, hrs, hrt⟩ := (mayP_iff _).1 HMP.out
  dsimp only at hm z6 hrs hrt
  have HM := Hid.of hm
  have HRS := Hid.of hrs
  have HRT := Hid.of hrt
  have hst6 : st ≤ 6 := by omega
  clear hm hrs hrt z6
  have B : Hid (Below w.heap.size w (w.alloc (.cells (ptcells ⟨⟨(st : Int), ev, starts, ars, ends⟩, seen, secret⟩ ⟨⟨a1, c1, a2, c2, a3, c3⟩, sa, sc, ta, tc⟩) 46))) := (Below.refl _ _).alloc (Nat.le_refl _) _
  have KP : Hid (Blk (w.alloc (.cells (ptcells ⟨⟨(st : Int), ev, starts, ars, ends⟩, seen, secret⟩ ⟨⟨a1, c1, a2, c2, a3, c3⟩, sa, sc, ta, tc⟩) 46)) w.heap.size 46 (ptcells ⟨⟨(st : Int), ev, starts, ars, ends⟩, seen, secret⟩ ⟨⟨a1, c1, a2, c2, a3, c3⟩, sa, sc, ta, tc⟩)) := Blk.new w _ _
  go_enter Tryd.func11, Tryd.ntmps11
  obtain ⟨x0, x1, x2, x3, x4, x5, x6⟩ := ptcell_at KP.out
  dsimp only at x0 x1 x2 x3 x4 x5 x6
  go_wp2_with fail
  clear x0 x1 x2 x3 x4 x5 x6
  revert B KP
  show Hid (Below w.heap.size w (w.alloc (.cells #[.int .i64 st, .int .i64 ev, .slice a1 starts.length c1, .slice a2 ars.length c2, .slice a3 ends.length c3, .slice sa seen.length sc, .slice ta secret.length tc] 46))) → _
  generalize w.alloc (.cells #[.int .i64 st, .int .i64 ev, .slice a1 starts.length c1, .slice a2 ars.length c2, .slice a3 ends.length c3, .slice sa seen.length sc, .slice ta secret.length tc] 46) = V0
  intro B KP
  refine (rMayP_any ⟨⟨(st : Int), ev, starts, ars, ends⟩, seen, secret⟩ ⟨⟨a1, c1, a2, c2, a3, c3⟩, sa, sc, ta, tc⟩ V0 (Hid.of (h.out.below B.out (Nat.le_refl _)))).mono ?_
  rintro e W1 ⟨rfl, hb⟩
  replace B := Hid.of (B.out.trans (hb.mono B.out.size))
  replace KP := Hid.of (KP.out.below hb KP.out.lt)
  clear hb
  rw [HMP.out]
  obtain ⟨x0, x1, x2, x3, x4, x5, x6⟩ := ptcell_at KP.out
  dsimp only at x0 x1 x2 x3 x4 x5 x6
  by_cases z4 : st ≤ 4
  · have d1 : decide ((4 : Int) < (st : Int)) = false := by rw [decide_eq_false_iff_not]; omega
    go_wp2_with fail
    clear x0 x1 x2 x3 x4 x5 x6
    refine (rplain_any ⟨⟨(st : Int), ev, starts, ars, ends⟩, seen, secret⟩ ⟨⟨a1, c1, a2, c2, a3, c3⟩, sa, sc, ta, tc⟩ W1 (h.out.below B.out (Nat.le_refl _)) HM.out).mono ?_
    rintro e W2 ⟨b, rfl, hpl, -, hb⟩
    replace B := Hid.of (B.out.trans (hb.mono B.out.size))
    replace KP := Hid.of (KP.out.below hb KP.out.lt)
    clear hb
    cases b with
    | false =>
      go_wp2_with fail
      go_ret
      exact ⟨rfl, B.out⟩
    | true =>
      have HPL := Hid.of (hpl rfl)
      clear hpl
      have bA : Below W2.heap.size W2 (W2.alloc (.cells #[.int .i64 st, .int .i64 ev, .slice a1 starts.length c1, .slice a2 ars.length c2, .slice a3 ends.length c3] 25)) := (Below.refl _ _).alloc (Nat.le_refl _) _
      have B1 := Hid.of (B.out.trans (bA.mono B.out.size))
      have KP1 := Hid.of (KP.out.below bA KP.out.lt)
      have KM := Hid.of (Blk.new W2 25 #[.int .i64 st, .int .i64 ev, .slice a1 starts.length c1, .slice a2 ars.length c2, .slice a3 ends.length c3])
      have NP : Hid (w.heap.size < W2.heap.size) := KP.out.lt
      clear bA
      obtain ⟨x0, x1, x2, x3, x4, x5, x6⟩ := ptcell_at KP.out
      dsimp only at x0 x1 x2 x3 x4 x5 x6
      have y0 := KM.out.cell 0 rfl
      go_wp2_with fail
      clear x0 x1 x2 x3 x4 x5 x6 y0 B KP
      revert B1 KP1 KM NP
      generalize W2.alloc (.cells #[.int .i64 st, .int .i64 ev, .slice a1 starts.length c1, .slice a2 ars.length c2, .slice a3 ends.length c3] 25) = W3
      generalize W2.heap.size = pm
      intro B KP KM NP
      have NB : Hid (pm < W3.heap.size) := KM.out.lt
      refine (allT_any st (by omega) W3).mono ?_
      rintro e W4 ⟨v, rfl, ov, hb⟩
      replace B := Hid.of (B.out.trans (hb.mono B.out.size))
      replace KP := Hid.of (KP.out.below hb KP.out.lt)
      replace KM := Hid.of (KM.out.below hb KM.out.lt)
      clear hb
      obtain ⟨na, nc, hv, nat1, nl1, nl2, nn⟩ := Own.at2 ov
      rw [rngI_len] at hv
      subst hv
      have OV := Hid.of ov
      have NL1 := Hid.of nl1
      have NL2 := Hid.of nl2
      have NN := Hid.of nn
      clear ov nat1 nl1 nl2 nn
      have B2 : Hid (Below w.heap.size w (W4.setCell ⟨pm, 4, none⟩ (.slice na st nc))) := B.out.setCell (p := ⟨pm, 4, none⟩) (Nat.le_of_lt NP.out) _
      have KP2 : Hid (Blk (W4.setCell ⟨pm, 4, none⟩ (.slice na st nc)) w.heap.size 46 (ptcells ⟨⟨(st : Int), ev, starts, ars, ends⟩, seen, secret⟩ ⟨⟨a1, c1, a2, c2, a3, c3⟩, sa, sc, ta, tc⟩)) := KP.out.other (j := 4) (Nat.ne_of_lt NP.out) _
      have KM2 : Hid (Blk (W4.setCell ⟨pm, 4, none⟩ (.slice na st nc)) pm 25 #[.int .i64 st, .int .i64 ev, .slice a1 starts.length c1, .slice a2 ars.length c2, .slice na st nc]) := KM.out.set 4 (.slice na st nc)
      have OV2 : Hid (Own (W4.setCell ⟨pm, 4, none⟩ (.slice na st nc)) W3.heap.size (.slice na st nc) (rngI st)) := own_setC OV.out NB.out _ _
      have kz := KM.out.frozen
      have k0 := KM.out.cell 0 rfl
      have k4 := KM.out.cell 4 rfl
      obtain ⟨x0, x1, x2, x3, x4, x5, x6⟩ := ptcell_at KP2.out
      dsimp only at x0 x1 x2 x3 x4 x5 x6
      have bC : Below (W4.setCell ⟨pm, 4, none⟩ (.slice na st nc)).heap.size (W4.setCell ⟨pm, 4, none⟩ (.slice na st nc)) ((W4.setCell ⟨pm, 4, none⟩ (.slice na st nc)).alloc (.cells #[.int .i64 st, .int .i64 ev, .slice a1 starts.length c1, .slice a2 ars.length c2, .slice ta secret.length tc] 25)) := (Below.refl _ _).alloc (Nat.le_refl _) _
      have B3 := Hid.of (B2.out.trans (bC.mono B2.out.size))
      have KP3 := Hid.of (KP2.out.below bC KP2.out.lt)
      have KM3 := Hid.of (KM2.out.below bC KM2.out.lt)
      have OV3 := Hid.of (own_same OV2.out (fun k hk => bC.block k (World.ownsRow.lt OV2.out k hk).2))
      have KS3 : Hid (Blk ((W4.setCell ⟨pm, 4, none⟩ (.slice na st nc)).alloc (.cells #[.int .i64 st, .int .i64 ev, .slice a1 starts.length c1, .slice a2 ars.length c2, .slice ta secret.length tc] 25)) W4.heap.size 25 #[.int .i64 st, .int .i64 ev, .slice a1 starts.length c1, .slice a2 ars.length c2, .slice ta secret.length tc]) := by
        have h1 := Blk.new (W4.setCell ⟨pm, 4, none⟩ (.slice na st nc)) 25 #[.int .i64 st, .int .i64 ev, .slice a1 starts.length c1, .slice a2 ars.length c2, .slice ta secret.length tc]
        have h2 : (W4.setCell ⟨pm, 4, none⟩ (.slice na st nc)).heap.size = W4.heap.size := by simp [World.setCell]
        rw [h2] at h1
        exact h1
      clear bC
      obtain ⟨u0, u1, u2, u3, u4, u5, u6⟩ := ptcell_at KP3.out
      dsimp only at u0 u1 u2 u3 u4 u5 u6
      have v6 : ((W4.setCell ⟨pm, 4, none⟩ (.slice na st nc)).alloc (.cells #[.int .i64 st, .int .i64 ev, .slice a1 starts.length c1, .slice a2 ars.length c2, .slice a3 ends.length c3] 25)).cell? ⟨w.heap.size, 6, none⟩ = some (.slice ta secret.length tc) := (((Below.refl _ _).alloc (Nat.le_refl _) _ : Below (W4.setCell ⟨pm, 4, none⟩ (.slice na st nc)).heap.size _ _).cell (p := ⟨w.heap.size, 6, none⟩) KP2.out.lt).trans x6
      go_wp2_with fail
      clear x0 x1 x2 x3 x4 x5 x6 u0 u1 u2 u3 u4 u5 u6 v6 k0 k4 kz B2 KP2 KM2 OV2 B KP KM OV
      revert B3 KP3 KM3 OV3 KS3
      generalize ((W4.setCell ⟨pm, 4, none⟩ (.slice na st nc)).alloc (.cells #[.int .i64 st, .int .i64 ev, .slice a1 starts.length c1, .slice a2 ars.length c2, .slice ta secret.length tc] 25)) = W6
      generalize W4.heap.size = ps
      intro B3 KP3 KM3 OV3 KS3
      refine (pLeakC_any ⟨⟨(st : Int), ev, starts, ars, ends⟩, seen, secret⟩ ⟨⟨a1, c1, a2, c2, a3, c3⟩, sa, sc, ta, tc⟩ W6 (h.out.below B3.out (Nat.le_refl _)) (hT.out.below B3.out hT.out.lt)).mono ?_
      intro e W7 hp
      unfold LeakPost at hp
      rw [leakOut_ok HMP.out] at hp
      obtain ⟨oc, HOC⟩ : ∃ oc, Hid (oc = outC ⟨⟨(st : Int), ev, starts, ars, ends⟩, seen, secret⟩) := ⟨_, rfl⟩
      rw [← HOC.out] at hp
      dsimp only at hp
      obtain ⟨bo, HBO⟩ : ∃ bo, Hid (bo = oc.isSome) := ⟨_, rfl⟩
      obtain ⟨wo, HWO⟩ : ∃ wo, Hid (wo = oc.getD []) := ⟨_, rfl⟩
      rw [← HBO.out, ← HWO.out] at hp
      obtain ⟨la, lk, rfl, lat, lln, hb⟩ := hp
      replace B3 := Hid.of (B3.out.trans (hb.mono B3.out.size))
      replace KP3 := Hid.of (KP3.out.below hb KP3.out.lt)
      replace KM3 := Hid.of (KM3.out.below hb KM3.out.lt)
      replace OV3 := Hid.of (own_same OV3.out (fun k hk => hb.block k (World.ownsRow.lt OV3.out k hk).2))
      replace KS3 := Hid.of (KS3.out.below hb KS3.out.lt)
      clear hb
      have lA := Hid.of lat
      have lL := Hid.of lln
      clear lat lln
      have HZ0 := Hid.of HM.out
      have H1 : Hid (mayB ⟨(st : Int), ev, starts, ars, rngI st⟩ = true) := may_other HM.out ((rowB_iff _ (by dsimp only; omega) _).2 ⟨inc_rng9 st, fun x hx => (mem_rng9 st x).1 hx⟩)
      have H2 : Hid (mayB ⟨(st : Int), ev, starts, ars, secret⟩ = true) := may_other HM.out HRT.out
      have HOQ : Hid (outQ ⟨(st : Int), ev, starts, ars, rngI st⟩ ⟨(st : Int), ev, starts, ars, secret⟩ seen = some oc) := by
        show _ = _
        rw [HOC.out]
        exact top_one (p := ⟨⟨(st : Int), ev, starts, ars, ends⟩, seen, secret⟩) HMP.out (by dsimp only; omega) HPL.out (fun x h1 h2 => (mem_rng9 st x).2 ⟨h1, h2⟩) H1.out H2.out
      have HSO : Hid (secOut ⟨(st : Int), ev, starts, ars, rngI st⟩ ⟨(st : Int), ev, starts, ars, secret⟩ seen = (bo, wo, 0)) := by
        show _ = _
        rw [secOut_ok (secErr_ok H1.out H2.out rfl HRS.out (by dsimp only; omega) (by dsimp only; omega)) HOQ.out, HBO.out, HWO.out]
      have MT1 : Hid (MAt W7 ⟨(st : Int), ev, starts, ars, rngI st⟩ ⟨a1, c1, a2, c2, na, nc⟩) := by
        have hp0 := (h.out.below B3.out (Nat.le_refl _)).m
        obtain ⟨na', nc', hv', nat', -⟩ := Own.at (show Own W7 W3.heap.size (.slice na st nc) (rngI st) from OV3.out)
        rw [rngI_len] at hv'
        cases hv'
        exact ⟨hp0.s, hp0.a, nat', hp0.s1, hp0.s2, hp0.s3, hp0.a1, hp0.a2, hp0.a3, NL1.out, NL2.out, NN.out⟩
      have MT2 : Hid (MAt W7 ⟨(st : Int), ev, starts, ars, secret⟩ ⟨a1, c1, a2, c2, ta, tc⟩) := by
        have hp0 := h.out.below B3.out (Nat.le_refl _)
        exact ⟨hp0.m.s, hp0.m.a, hp0.t.at_, hp0.m.s1, hp0.m.s2, hp0.m.s3, hp0.m.a1, hp0.m.a2, hp0.m.a3, hp0.t.le, hp0.t.max, hp0.t.nil⟩
      have KEY : Hid (Calls Tryd.prog 42 #[.agg #[.int .i64 st, .int .i64 ev, .slice a1 starts.length c1, .slice a2 ars.length c2, .slice na st nc], mval ⟨(st : Int), ev, starts, ars, secret⟩ ⟨a1, c1, a2, c2, ta, tc⟩, .slice sa seen.length sc] W7 fun e w' => LeakPost W7 (bo, wo, 0) e w') := by
        have := pSec_any ⟨(st : Int), ev, starts, ars, rngI st⟩ ⟨(st : Int), ev, starts, ars, secret⟩ ⟨a1, c1, a2, c2, na, nc⟩ ⟨a1, c1, a2, c2, ta, tc⟩ sa sc seen W7 MT1.out MT2.out (h.out.below B3.out (Nat.le_refl _)).s.at_ h.out.s.len (hT.out.below B3.out hT.out.lt)
        rw [HSO.out] at this
        have e1 : mval ⟨(st : Int), ev, starts, ars, rngI st⟩ ⟨a1, c1, a2, c2, na, nc⟩ = .agg #[.int .i64 st, .int .i64 ev, .slice a1 starts.length c1, .slice a2 ars.length c2, .slice na st nc] := by
          show Value.agg #[_, _, _, _, .slice na (rngI st).length nc] = _
          rw [rngI_len]
        rw [e1] at this
        exact this
      clear MT1 MT2 H1 H2 HZ0 OV3
      obtain ⟨x0, x1, x2, x3, x4, x5, x6⟩ := ptcell_at KP3.out
      dsimp only at x0 x1 x2 x3 x4 x5 x6
      have m0 := KM3.out.cell 0 rfl
      have m1 := KM3.out.cell 1 rfl
      have m2 := KM3.out.cell 2 rfl
      have m3 := KM3.out.cell 3 rfl
      have m4 := KM3.out.cell 4 rfl
      have s0 := KS3.out.cell 0 rfl
      have s1 := KS3.out.cell 1 rfl
      have s2 := KS3.out.cell 2 rfl
      have s3 := KS3.out.cell 3 rfl
      have s4 := KS3.out.cell 4 rfl
      go_wp2_with fail
      clear x0 x1 x2 x3 x4 x5 x6 m0 m1 m2 m3 m4 s0 s1 s2 s3 s4
      refine KEY.out.mono ?_
      intro e W8 hp
      unfold LeakPost at hp
      dsimp only at hp
      obtain ⟨xa, xk, rfl, xat, xln, hb⟩ := hp
      replace B3 := Hid.of (B3.out.trans (hb.mono B3.out.size))
      replace KP3 := Hid.of (KP3.out.below hb KP3.out.lt)
      replace lA := Hid.of (lA.out.below hb (Nat.le_refl _))
      clear hb
      have xA := Hid.of xat
      clear xat xln KEY KM3 KS3
      have d4 : (bo == bo) = true := by simp
      have KS := Hid.of (same_any la xa lk xk wo wo W8 lA.out xA.out lL.out lL.out)
      have HSS : Hid (sameB wo wo = true) := by show _ = _; simp [sameB]
      rw [HSS.out] at KS
      go_wp2_with fail
      refine KS.out.mono ?_
      rintro e W9 ⟨rfl, qd, hqd⟩
      have hb : Below W8.heap.size W8 W9 := by rw [hqd]; exact below_drewN (Below.refl _ _) qd
      replace B3 := Hid.of (B3.out.trans (hb.mono B3.out.size))
      replace KP3 := Hid.of (KP3.out.below hb KP3.out.lt)
      clear hb
      clear KS hqd
      obtain ⟨x0, x1, x2, x3, x4, x5, x6⟩ := ptcell_at KP3.out
      dsimp only at x0 x1 x2 x3 x4 x5 x6
      go_wp2_with fail
      clear x0 x1 x2 x3 x4 x5 x6
      refine (pCurMay_any ⟨⟨(st : Int), ev, starts, ars, ends⟩, seen, secret⟩ ⟨⟨a1, c1, a2, c2, a3, c3⟩, sa, sc, ta, tc⟩ W9 (h.out.below B3.out (Nat.le_refl _))).mono ?_
      rintro e W10 ⟨rfl, hb⟩
      replace B3 := Hid.of (B3.out.trans (hb.mono B3.out.size))
      clear hb
      rw [HMP.out]
      go_wp2_with fail
      go_ret
      exact ⟨rfl, B3.out⟩
  · have d1 : decide ((4 : Int) < (st : Int)) = true := by rw [decide_eq_true_eq]; omega
    go_wp2_with fail
    go_ret
    exact ⟨rfl, B.out⟩

set_option maxRecDepth 100000 in
set_option maxHeartbeats 4000000 in
theorem tone_bad (p : Plant) (P : PTL) (w : World) (h : Hid (PAt w p P)) (HMP : Hid (mayP p = false)) :
    Calls Tryd.prog 11 #[ptval p P] w fun e w' => e = .returned (.bool true) ∧ Below w.heap.size w w' := by
  have B : Hid (Below w.heap.size w (w.alloc (.cells (ptcells p P) 46))) := (Below.refl _ _).alloc (Nat.le_refl _) _
  have KP : Hid (Blk (w.alloc (.cells (ptcells p P) 46)) w.heap.size 46 (ptcells p P)) := Blk.new w _ _
  go_enter Tryd.func11, Tryd.ntmps11
  obtain ⟨x0, x1, x2, x3, x4, x5, x6⟩ := ptcell_at KP.out
  go_wp2_with fail
  clear x0 x1 x2 x3 x4 x5 x6
  revert B KP
  generalize (w.alloc (.cells (ptcells p P) 46)) = V0
  intro B KP
  refine (rMayP_any p P V0 (Hid.of (h.out.below B.out (Nat.le_refl _)))).mono ?_
  rintro e W1 ⟨rfl, hb⟩
  replace B := Hid.of (B.out.trans (hb.mono B.out.size))
  clear hb KP
  rw [HMP.out]
  go_wp2_with fail
  go_ret
  exact ⟨rfl, B.out⟩

theorem tone_any (p : Plant) (P : PTL) (w : World) (hT : Hid (Tab w)) (h : Hid (PAt w p P)) :
    Calls Tryd.prog 11 #[ptval p P] w fun e w' => e = .returned (.bool true) ∧ Below w.heap.size w w' := by
  cases hp : mayP p with
  | false => exact tone_bad p P w h (Hid.of hp)
  | true =>
    obtain ⟨hm, -, -, -⟩ := (mayP_iff p).1 hp
    have hz := mayB_size hm
    unfold sizeOk at hz
    obtain ⟨⟨st, ev, starts, ars, ends⟩, seen, secret⟩ := p
    obtain ⟨⟨a1, c1, a2, c2, a3, c3⟩, sa, sc, ta, tc⟩ := P
    dsimp only at hz
    obtain ⟨st', rfl⟩ : ∃ n : Nat, st = (n : Int) := ⟨st.toNat, by omega⟩
    exact tone_go st' ev starts ars ends seen secret a1 c1 a2 c2 a3 c3 sa sc ta tc w hT h (Hid.of hp)

end Go.Proofs.YtgebfkmfhpcdhaaDoor
