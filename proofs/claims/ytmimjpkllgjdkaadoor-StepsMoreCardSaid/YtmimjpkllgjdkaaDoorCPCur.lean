/-
  The walk of current.Leak.
-/
import Derived.Test.YtmimjpkllgjdkaaDoorG30
import Derived.Test.YtmimjpkllgjdkaaDoorCCEss
import Derived.Test.YtmimjpkllgjdkaaDoorG27
import Derived.Test.YtmimjpkllgjdkaaDoorG26
namespace Go.Proofs.YtmimjpkllgjdkaaDoor
open Go.RowKit
set_option linter.unusedVariables false

theorem mayP_secret {p : Plant} (hp : mayP p = true) : (∀ x ∈ p.secret, 0 ≤ x ∧ x < 256) ∧ Rep (ofS p.secret) p.secret := by
  obtain ⟨hm, z6, -, hr⟩ := (mayP_iff p).1 hp
  have hz := mayB_size hm
  unfold sizeOk at hz
  have h1 : ∀ x ∈ p.secret, 0 ≤ x ∧ x < 256 := fun x hx => by
    have := ((rowB_iff _ (by omega) _).1 hr).2 x hx
    omega
  have := rep_of h1 p.secret.length
  rw [List.take_of_length_le (Nat.le_refl _)] at this
  exact ⟨h1, this⟩

set_option maxRecDepth 100000 in
set_option maxHeartbeats 4000000 in
theorem leakC_bad (p : Plant) (P : PTL) (w : World) (h : Hid (PAt w p P)) (hp : Hid (mayP p = false)) :
    Calls Tryd.prog 32 #[ptval p P] w fun e w' => LeakPost w (leakOut p (outC p)) e w' := by
  have B : Hid (Below w.heap.size w (w.alloc (.cells (ptcells p P) 44))) := (Below.refl _ _).alloc (Nat.le_refl _) _
  have KP : Hid (Blk (w.alloc (.cells (ptcells p P) 44)) w.heap.size 44 (ptcells p P)) := Blk.new w _ _
  go_enter Tryd.func32, Tryd.ntmps32
  obtain ⟨x0, x1, x2, x3, x4, x5, x6⟩ := ptcell_at KP.out
  go_wp2_with fail
  clear x0 x1 x2 x3 x4 x5 x6
  revert B KP
  generalize (w.alloc (.cells (ptcells p P) 44)) = V0
  intro B KP
  refine (ests_bad p P V0 (Hid.of (h.out.below B.out (Nat.le_refl _))) hp).mono ?_
  rintro e V1 ⟨rfl, hb⟩
  replace B := Hid.of (B.out.trans (hb.mono B.out.size))
  clear hb KP
  go_wp2_with fail
  refine bodyPost_ret (v := .tuple #[.bool false, .slice none 0 0, .int .i64 2]) (by simp [results, go_sem]) rfl ?_
  rw [leakOut_bad hp.out]
  exact ⟨none, 0, rfl, .inl rfl, Nat.zero_le _, B.out⟩

set_option maxRecDepth 100000 in
set_option maxHeartbeats 16000000 in
theorem leakC_ok (p : Plant) (Pl : ML) (sa : Option Addr) (sc : Nat) (ta : Option Addr) (tc : Nat) (w : World) (h : Hid (PAt w p ⟨Pl, sa, sc, ta, tc⟩)) (hT : Hid (Tab w)) (hp : Hid (mayP p = true)) :
    Calls Tryd.prog 32 #[ptval p ⟨Pl, sa, sc, ta, tc⟩] w fun e w' => LeakPost w (leakOut p (outC p)) e w' := by
  have sbd : Hid (∀ x ∈ p.secret, 0 ≤ x ∧ x < 256) := (mayP_secret hp.out).1
  have HRT : Hid (Rep (ofS p.secret) p.secret) := (mayP_secret hp.out).2
  have B : Hid (Below w.heap.size w (w.alloc (.cells (ptcells p ⟨Pl, sa, sc, ta, tc⟩) 44))) := (Below.refl _ _).alloc (Nat.le_refl _) _
  have KP : Hid (Blk (w.alloc (.cells (ptcells p ⟨Pl, sa, sc, ta, tc⟩) 44)) w.heap.size 44 (ptcells p ⟨Pl, sa, sc, ta, tc⟩)) := Blk.new w _ _
  go_enter Tryd.func32, Tryd.ntmps32
  obtain ⟨x0, x1, x2, x3, x4, x5, x6⟩ := ptcell_at KP.out
  go_wp2_with fail
  clear x0 x1 x2 x3 x4 x5 x6
  revert B KP
  generalize (w.alloc (.cells (ptcells p ⟨Pl, sa, sc, ta, tc⟩) 44)) = V0
  intro B KP
  refine (ests_ok p Pl sa sc ta tc V0 (Hid.of (h.out.below B.out (Nat.le_refl _))) (Hid.of (hT.out.below B.out hT.out.lt)) hp).mono ?_
  rintro e V1 ⟨v, L, rfl, pls, hb⟩
  replace B := Hid.of (B.out.trans (hb.mono B.out.size))
  replace KP := Hid.of (KP.out.below hb KP.out.lt)
  obtain ⟨ra, rc, hv, rd, rl, -⟩ := pls.ow.rd
  subst hv
  have HRD := Hid.of rd
  have HIN : Hid (∀ q ∈ L, InnW 0 V1 q.v q.word) := pls.inn
  have HRP : Hid (RepCL L (fwdL p)) := pls.rep
  have HWD : Hid (WdC p.seen L (fwdL p)) := pls.wd
  have hll : L.length ≤ 64 := by
    obtain ⟨hm, z, -, -⟩ := (mayP_iff p).1 hp.out
    rw [pls.rep.len]
    exact fwd_bound hm z (fwd_all hm z)
  clear hb pls rd rl
  have x6 : V1.cell? ⟨w.heap.size, 6, none⟩ = some (.slice ta p.secret.length tc) := KP.out.cell 6 rfl
  go_wp2_with fail
  clear x6
  refine (of_any ta tc p.secret V1 (h.out.t.at_.below B.out (Nat.le_refl _)) h.out.t.len sbd.out).mono ?_
  rintro e V2 ⟨rfl, hb⟩
  obtain ⟨T, HT⟩ : ∃ T, Hid (T = ofS p.secret) := ⟨_, rfl⟩
  rw [← HT.out] at HRT
  rw [← HT.out]
  have hb2 : Below V2.heap.size V2 (V2.alloc (.cells (scells T) 69)) := (Below.refl _ _).alloc (Nat.le_refl _) _
  have hb3 := hb.trans (hb2.mono hb.size)
  replace B := Hid.of (B.out.trans (hb3.mono B.out.size))
  replace HRD := Hid.of (HRD.out.below hb3)
  replace HIN : Hid (∀ q ∈ L, InnW 0 (V2.alloc (.cells (scells T) 69)) q.v q.word) := fun q hq => (HIN.out q hq).below hb3 (Nat.zero_le _)
  have KT : Hid (SB (V2.alloc (.cells (scells T) 69)) V2.heap.size T) := Blk.new V2 _ _
  clear hb hb2 hb3 KP
  go_wp2_with fail
  revert B HRD HIN KT
  generalize V2.alloc (.cells (scells T) 69) = V
  generalize V2.heap.size = pt
  intro B HRD HIN KT
  have HN0 : Hid (∀ (j : Nat) (y : List Int × List Int), j < 0 → (fwdL p)[j]? = some y → leakB p.secret y.1 = false) := fun j y hj => absurd hj (Nat.not_lt_zero _)
  have B0 : Hid (Below V.heap.size V V) := Below.refl _ _
  go_loopw [23] (fun i wr => ∃ k : Nat, i = .int .i64 k ∧ k ≤ L.length ∧ Hid (Below V.heap.size V wr) ∧ Hid (∀ (j : Nat) (y : List Int × List Int), j < k → (fwdL p)[j]? = some y → leakB p.secret y.1 = false)) (fun i _ => L.length - (intOf i).toNat)
  case atStart => exact ⟨0, rfl, Nat.zero_le _, B0, HN0⟩
  case round =>
    clear B0 HN0
    obtain ⟨k, rfl, hk, HB, HN⟩ := hrel
    by_cases hlt : k < L.length
    · obtain ⟨q, HQ⟩ : ∃ q, Hid (L[k]? = some q) := ⟨_, List.getElem?_eq_getElem hlt⟩
      obtain ⟨x, hx, hrx⟩ := HRP.out.rep k q HQ.out
      have HX := Hid.of hx
      have HRX := Hid.of hrx.1
      have HWX : Hid (q.word = wordS p.seen x.2) := HWD.out k q x HQ.out hx
      obtain ⟨za, zc, hzv, hat, hzl, -⟩ := (HIN.out q (List.mem_of_getElem? HQ.out)).at
      have HAT := Hid.of hat
      have HZL := Hid.of hzl
      rcases HRD.out with h0 | ⟨g, o, hra, hg, hc⟩
      · rw [h0] at hlt; simp at hlt
      subst hra
      obtain ⟨qs, qv, qw⟩ := q
      dsimp only at hzv HAT HZL HWX HRX
      subst hzv
      obtain ⟨d0, d1, d2, d3, d4⟩ := rdc_cells (hc k _ HQ.out)
      have c0 := (HB.out.cell (p := ⟨g, o + k * 5, none⟩) hg).trans d0
      have c1 := (HB.out.cell (p := ⟨g, o + k * 5 + 1, none⟩) hg).trans d1
      have c2 := (HB.out.cell (p := ⟨g, o + k * 5 + 2, none⟩) hg).trans d2
      have c3 := (HB.out.cell (p := ⟨g, o + k * 5 + 3, none⟩) hg).trans d3
      have c4 := (HB.out.cell (p := ⟨g, o + k * 5 + 4, none⟩) hg).trans d4
      dsimp only at c0 c1 c2 c3 c4
      have N1 : Hid (Blk (wr.alloc (.cells (pcarr ⟨qs, .slice za qw.length zc, qw⟩) 99)) wr.heap.size 99 (pcarr ⟨qs, .slice za qw.length zc, qw⟩)) := Blk.new wr _ _
      have B1 : Hid (Below V.heap.size V (wr.alloc (.cells (pcarr ⟨qs, .slice za qw.length zc, qw⟩) 99))) := HB.out.alloc HB.out.size _
      obtain ⟨n0, n1, n2, n3, n4⟩ := PCk.cells N1.out
      obtain ⟨y0, y1, y2, y3⟩ := SB.cells (KT.out.below B1.out KT.out.lt)
      have hltI : (k : Int) < (L.length : Int) := by omega
      clear hx hrx hat hzl hc d0 d1 d2 d3 d4
      go_wp2_with fail
      clear c0 c1 c2 c3 c4 n0 n1 n2 n3 n4 y0 y1 y2 y3 hltI HB
      revert N1 B1
      generalize wr.alloc (.cells (pcarr ⟨qs, .slice za qw.length zc, qw⟩) 99) = W1
      generalize wr.heap.size = pq
      intro N1 B1
      have HOUT : Hid (onlyS qs T = leakB p.secret x.1) := only_set HRX.out HRT.out
      refine (onlyIn_any qs T HRX.out.ok HRT.out.ok W1).mono ?_
      rintro e W2 ⟨rfl, hb⟩
      have N2 := Hid.of (N1.out.below hb N1.out.lt)
      have B2 := Hid.of (B1.out.trans (hb.mono B1.out.size))
      clear hb N1 B1
      cases hout : onlyS qs T with
      | true =>
        have HW : Hid (outC p = some qw) := by
          show _ = _
          rw [HWX.out]
          exact fwd_found HN.out HX.out (by rw [← HOUT.out]; exact hout)
        clear hout HOUT
        go_wp2_with fail
        refine wp_region_held_drew (S := fun w' => w'.cell? ⟨pq, 4, none⟩ = some (.slice za qw.length zc)) (by kernel_rfl) ((Blk.drew N2.out).cell 4 rfl) (fun hS => ?_)
        refine wpAnyH_take (i := 0) (v := .pointer (some ⟨pq, 4, none⟩)) rfl (by kernel_rfl) (by kernel_rfl) (by kernel_rfl) (fun _ _ _ h => h) (Or.inl ⟨by kernel_rfl, fun w' hw' => by go_simp⟩) hS ?_
        refine wpAnyH_take (i := 1) (v := .slice za qw.length zc) rfl (by kernel_rfl) (by kernel_rfl) (by kernel_rfl) (fun _ _ _ h => h) (Or.inl ⟨by kernel_rfl, fun w' hw' => by go_simp⟩) hS ?_
        refine wpAnyH_take (i := 2) (v := .bool true) rfl (by kernel_rfl) (by kernel_rfl) (by kernel_rfl) (fun _ _ _ h => h) (Or.inl ⟨by kernel_rfl, fun w' hw' => by go_simp⟩) hS ?_
        refine wpAnyH_take (i := 3) (v := .slice za qw.length zc) rfl (by kernel_rfl) (by kernel_rfl) (by kernel_rfl) (fun _ _ _ h => h) (Or.inl ⟨by kernel_rfl, fun w' hw' => by go_simp⟩) hS ?_
        refine wpAnyH_take (i := 4) (v := .int .i64 0) rfl (by kernel_rfl) (by kernel_rfl) (by kernel_rfl) (fun _ _ _ h => h) (Or.inl ⟨by kernel_rfl, fun w' hw' => by go_simp⟩) hS ?_
        refine wpAnyH_done (by kernel_rfl) ?_ _
        clear hS
        go_wp2_with fail
        refine bodyPost_ret (v := .tuple #[.bool true, .slice za qw.length zc, .int .i64 0]) (by simp [results, go_sem]) rfl ?_
        rw [leakOut_ok hp.out, HW.out]
        exact ⟨za, zc, rfl, HAT.out.below B2.out.drew (Nat.le_refl _), HZL.out, B.out.trans (B2.out.drew.mono B.out.size)⟩
      | false =>
        have HNN : Hid (∀ (j : Nat) (y : List Int × List Int), j < k + 1 → (fwdL p)[j]? = some y → leakB p.secret y.1 = false) := no_more HN.out HX.out (by rw [← HOUT.out]; exact hout)
        clear hout HOUT
        go_wp2_with fail
        go_roundw
        case rel => exact ⟨k + 1, by go_num, by omega, B2, HNN⟩
        case measure => simp [intOf]; omega
    · have hkl : k = L.length := by omega
      subst hkl
      have HW : Hid (outC p = none) := fwd_not HN.out (by rw [HRP.out.len]; exact Nat.le_refl _)
      clear hlt
      go_wp2_with fail
      refine bodyPost_ret (v := .tuple #[.bool false, .slice none 0 0, .int .i64 0]) (by simp [results, go_sem]) rfl ?_
      rw [leakOut_ok hp.out, HW.out]
      exact ⟨none, 0, rfl, .inl rfl, Nat.zero_le _, B.out.trans (HB.out.mono B.out.size)⟩

theorem pLeakC_any (p : Plant) (P : PTL) (w : World) (h : PAt w p P) (hT : Tab w) :
    Calls Tryd.prog 32 #[ptval p P] w fun e w' => LeakPost w (leakOut p (outC p)) e w' := by
  cases hp : mayP p with
  | false => exact leakC_bad p P w (Hid.of h) (Hid.of hp)
  | true =>
    obtain ⟨Pl, sa, sc, ta, tc⟩ := P
    exact leakC_ok p Pl sa sc ta tc w (Hid.of h) (Hid.of hT) (Hid.of hp)

end Go.Proofs.YtmimjpkllgjdkaaDoor
