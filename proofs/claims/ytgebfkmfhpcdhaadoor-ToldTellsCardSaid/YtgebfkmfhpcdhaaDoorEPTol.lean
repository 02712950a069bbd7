/-
  The walk of secret.Told.
-/
import Derived.Test.YtgebfkmfhpcdhaaDoorI34
import Derived.Test.YtgebfkmfhpcdhaaDoorEHHidX
import Derived.Test.YtgebfkmfhpcdhaaDoorI26
import Derived.Test.YtgebfkmfhpcdhaaDoorEPWith
import Derived.Test.YtgebfkmfhpcdhaaDoorI08
namespace Go.Proofs.YtgebfkmfhpcdhaaDoor
open Go.RowKit
set_option linter.unusedVariables false

theorem Own.at3 {W : World} {B : Nat} {a : Option Addr} {c : Nat} {us : List Int} (h : Own W B (.slice a us.length c) us) : At W a us ∧ us.length ≤ c ∧ c ≤ maxLen ∧ (a = none → c = 0) := by
  obtain ⟨a', c', e, h1, h2, h3, h4⟩ := h.at2
  cases e; exact ⟨h1, h2, h3, h4⟩
theorem OwnA.at3 {W : World} {B : Nat} {a : Option Addr} {c n : Nat} {us : List Arr} (h : OwnA W B (.slice a n c) us) : AtA W a us ∧ us.length ≤ c ∧ c ≤ maxLen ∧ (a = none → c = 0) := by
  obtain ⟨a', c', e, h1, h2, h3, h4⟩ := h.at
  cases e; exact ⟨h1, h2, h3, h4⟩

set_option maxRecDepth 100000 in
set_option maxHeartbeats 4000000 in
theorem tol_m (m : Mach) (l : ML) (ha : Option Addr) (hc : Nat) (high : List Int) (w : World) (h : Hid (MAt w m l)) (hh : Hid (At w ha high)) (hhl : Hid (high.length ≤ maxLen)) (hm : Hid (mayB m = false)) :
    Calls Tryd.prog 47 #[mval m l, .slice ha high.length hc] w fun e w' => LeakPost w (tolOut m high) e w' := by
  have HO : Hid (tolOut m high = (false, [], 2)) := tolOut_m hm.out high
  have B0 : Hid (Below w.heap.size w (w.alloc (.cells (mcells m l) 25))) := (Below.refl _ _).alloc (Nat.le_refl _) _
  have KM : Hid (Blk (w.alloc (.cells (mcells m l) 25)) w.heap.size 25 (mcells m l)) := Blk.new w _ _
  go_enter Tryd.func47, Tryd.ntmps47
  obtain ⟨x0, x1, x2, x3, x4⟩ := mcell_at KM.out
  go_wp2_with fail
  clear x0 x1 x2 x3 x4
  revert B0 KM
  generalize w.alloc (.cells (mcells m l) 25) = V0
  intro B0 KM
  refine (pMay_any m l _ (h.out.below B0.out (Nat.le_refl _))).mono ?_
  rintro e V1 ⟨rfl, hb⟩
  replace B0 := Hid.of (B0.out.trans (hb.mono B0.out.size))
  replace KM := Hid.of (KM.out.below hb KM.out.lt)
  clear hb
  rw [hm.out]
  go_wp2_with fail
  refine bodyPost_ret (v := .tuple #[.bool false, .slice none 0 0, .int .i64 2]) (by simp [results, go_sem]) rfl ?_
  rw [HO.out]
  exact ⟨none, 0, rfl, .inl rfl, Nat.zero_le _, B0.out⟩

set_option maxRecDepth 100000 in
set_option maxHeartbeats 4000000 in
theorem tol_r (m : Mach) (l : ML) (ha : Option Addr) (hc : Nat) (high : List Int) (w : World) (h : Hid (MAt w m l)) (hh : Hid (At w ha high)) (hhl : Hid (high.length ≤ maxLen)) (hm : Hid (mayB m = true)) (hr : Hid (rowB m.ev high = false)) :
    Calls Tryd.prog 47 #[mval m l, .slice ha high.length hc] w fun e w' => LeakPost w (tolOut m high) e w' := by
  have HO : Hid (tolOut m high = (false, [], 2)) := tolOut_r hr.out
  have B0 : Hid (Below w.heap.size w (w.alloc (.cells (mcells m l) 25))) := (Below.refl _ _).alloc (Nat.le_refl _) _
  have KM : Hid (Blk (w.alloc (.cells (mcells m l) 25)) w.heap.size 25 (mcells m l)) := Blk.new w _ _
  go_enter Tryd.func47, Tryd.ntmps47
  obtain ⟨x0, x1, x2, x3, x4⟩ := mcell_at KM.out
  go_wp2_with fail
  clear x0 x1 x2 x3 x4
  revert B0 KM
  generalize w.alloc (.cells (mcells m l) 25) = V0
  intro B0 KM
  refine (pMay_any m l _ (h.out.below B0.out (Nat.le_refl _))).mono ?_
  rintro e V1 ⟨rfl, hb⟩
  replace B0 := Hid.of (B0.out.trans (hb.mono B0.out.size))
  replace KM := Hid.of (KM.out.below hb KM.out.lt)
  clear hb
  obtain ⟨st, ev, starts, ars, ends⟩ := m
  obtain ⟨a1, c1, a2, c2, a3, c3⟩ := l
  rw [hm.out]
  obtain ⟨x0, x1, x2, x3, x4⟩ := mcell_at KM.out
  dsimp only at x0 x1 x2 x3 x4
  go_wp2_with fail
  clear x0 x1 x2 x3 x4
  refine (rowIs_any ha hc high ev V1 (hh.out.below B0.out (Nat.le_refl _)) hhl.out).mono ?_
  rintro e V2 ⟨rfl, rfl⟩
  rw [show rowB ev high = false from hr.out]
  go_wp2_with fail
  refine bodyPost_ret (v := .tuple #[.bool false, .slice none 0 0, .int .i64 2]) (by simp [results, go_sem]) rfl ?_
  rw [HO.out]
  exact ⟨none, 0, rfl, .inl rfl, Nat.zero_le _, B0.out⟩

set_option maxRecDepth 100000 in
set_option maxHeartbeats 4000000 in
theorem tol_z (m : Mach) (l : ML) (ha : Option Addr) (hc : Nat) (high : List Int) (w : World) (h : Hid (MAt w m l)) (hh : Hid (At w ha high)) (hhl : Hid (high.length ≤ maxLen)) (hm : Hid (mayB m = true)) (hr : Hid (rowB m.ev high = true)) (hz : ¬ m.st ≤ 6) :
    Calls Tryd.prog 47 #[mval m l, .slice ha high.length hc] w fun e w' => LeakPost w (tolOut m high) e w' := by
  have HO : Hid (tolOut m high = (false, [], 1)) := tolOut_z hm.out hr.out hz
  have B0 : Hid (Below w.heap.size w (w.alloc (.cells (mcells m l) 25))) := (Below.refl _ _).alloc (Nat.le_refl _) _
  have KM : Hid (Blk (w.alloc (.cells (mcells m l) 25)) w.heap.size 25 (mcells m l)) := Blk.new w _ _
  go_enter Tryd.func47, Tryd.ntmps47
  obtain ⟨x0, x1, x2, x3, x4⟩ := mcell_at KM.out
  go_wp2_with fail
  clear x0 x1 x2 x3 x4
  revert B0 KM
  generalize w.alloc (.cells (mcells m l) 25) = V0
  intro B0 KM
  refine (pMay_any m l _ (h.out.below B0.out (Nat.le_refl _))).mono ?_
  rintro e V1 ⟨rfl, hb⟩
  replace B0 := Hid.of (B0.out.trans (hb.mono B0.out.size))
  replace KM := Hid.of (KM.out.below hb KM.out.lt)
  clear hb
  obtain ⟨st, ev, starts, ars, ends⟩ := m
  obtain ⟨a1, c1, a2, c2, a3, c3⟩ := l
  rw [hm.out]
  obtain ⟨x0, x1, x2, x3, x4⟩ := mcell_at KM.out
  dsimp only at x0 x1 x2 x3 x4
  go_wp2_with fail
  clear x0 x1 x2 x3 x4
  refine (rowIs_any ha hc high ev V1 (hh.out.below B0.out (Nat.le_refl _)) hhl.out).mono ?_
  rintro e V2 ⟨rfl, rfl⟩
  rw [show rowB ev high = true from hr.out]
  have d6 : decide ((6 : Int) < st) = true := by simp; omega
  obtain ⟨x0, x1, x2, x3, x4⟩ := mcell_at KM.out
  dsimp only at x0 x1 x2 x3 x4
  clear hz
  go_wp2_with fail
  refine bodyPost_ret (v := .tuple #[.bool false, .slice none 0 0, .int .i64 1]) (by simp [results, go_sem]) rfl ?_
  rw [HO.out]
  exact ⟨none, 0, rfl, .inl rfl, Nat.zero_le _, B0.out⟩

set_option maxRecDepth 100000 in
set_option maxHeartbeats 16000000 in
theorem tol_ok (st ev : Nat) (starts : List Int) (ars : List Arr) (ends : List Int) (a1 : Option Addr) (c1 : Nat) (a2 : Option Addr) (c2 : Nat) (a3 : Option Addr) (c3 : Nat) (ha : Option Addr) (hc : Nat) (high : List Int) (hma : Hid (mayB ⟨(st : Int), (ev : Int), starts, ars, ends⟩ = true)) (z6 : st ≤ 6) (hhr : Hid (rowB (ev : Int) high = true)) (w : World) (hT : Hid (Tab w)) (h : Hid (MAt w ⟨(st : Int), (ev : Int), starts, ars, ends⟩ ⟨a1, c1, a2, c2, a3, c3⟩)) (hh : Hid (At w ha high)) (hhl : Hid (high.length ≤ maxLen)) :
    Calls Tryd.prog 47 #[mval ⟨(st : Int), (ev : Int), starts, ars, ends⟩ ⟨a1, c1, a2, c2, a3, c3⟩, .slice ha high.length hc] w fun e w' => LeakPost w (tolOut ⟨(st : Int), (ev : Int), starts, ars, ends⟩ high) e w' := by
  have zm : Hid ((⟨(st : Int), (ev : Int), starts, ars, ends⟩ : Mach).st ≤ 6) := by show (st : Int) ≤ 6; omega
  have hz := mayB_size hma.out
  unfold sizeOk at hz
  dsimp only at hz
  have hev : ev ≤ 8 := by omega
  clear hz
  have d6 : decide ((6 : Int) < (st : Int)) = false := by simp; omega
  obtain ⟨low, HLW⟩ : ∃ low, Hid (low = seenH ⟨(st : Int), (ev : Int), starts, ars, ends⟩ high) := ⟨_, rfl⟩
  have HLR : Hid (rowB (ev : Int) low = true) := by rw [HLW.out]; exact low_row hma.out high
  have hll : low.length ≤ 8 := by have := row_short (by omega) (by omega) HLR.out; omega
  have HAS : Hid ((hAll ⟨(st : Int), (ev : Int), starts, ars, ends⟩ low st).length ≤ 4096) := by
    have := hide_small (m := ⟨(st : Int), (ev : Int), starts, ars, ends⟩) hma.out zm.out HLR.out
    exact this
  obtain ⟨NA, HNA⟩ : ∃ NA, Hid (NA = hAll ⟨(st : Int), (ev : Int), starts, ars, ends⟩ low st) := ⟨_, rfl⟩
  obtain ⟨NS, HNS⟩ : ∃ NS, Hid (NS = wideL ars low starts) := ⟨_, rfl⟩
  have hNA : NA.length ≤ 4096 := by rw [HNA.out]; exact HAS.out
  have HNE : Hid (∀ a ∈ NA, 0 ≤ a.e ∧ a.e < (low.length : Int)) := by rw [HNA.out]; exact fun a h => hide_ev _ h
  have HLN0 : Hid (renM low (ev : Int) ⟨(st : Int), (low.length : Int), NS, NA, ends⟩ = lowN ⟨(st : Int), (ev : Int), starts, ars, ends⟩ high) := by
    show _ = _
    rw [HNA.out, HNS.out, HLW.out]; rfl
  have BW : Hid (Below w.heap.size w (w.alloc (.cells (mcells ⟨(st : Int), (ev : Int), starts, ars, ends⟩ ⟨a1, c1, a2, c2, a3, c3⟩) 25))) := (Below.refl _ _).alloc (Nat.le_refl _) _
  have KM : Hid (Blk (w.alloc (.cells (mcells ⟨(st : Int), (ev : Int), starts, ars, ends⟩ ⟨a1, c1, a2, c2, a3, c3⟩) 25)) w.heap.size 25 (mcells ⟨(st : Int), (ev : Int), starts, ars, ends⟩ ⟨a1, c1, a2, c2, a3, c3⟩)) := Blk.new w _ _
  go_enter Tryd.func47, Tryd.ntmps47
  obtain ⟨x0, x1, x2, x3, x4⟩ := mcell_at KM.out
  dsimp only at x0 x1 x2 x3 x4
  go_wp2_with fail
  clear x0 x1 x2 x3 x4
  revert BW KM
  generalize (w.alloc (.cells (mcells ⟨(st : Int), (ev : Int), starts, ars, ends⟩ ⟨a1, c1, a2, c2, a3, c3⟩) 25)) = V0
  intro BW KM
  refine (pMay_any ⟨(st : Int), (ev : Int), starts, ars, ends⟩ ⟨a1, c1, a2, c2, a3, c3⟩ _ (h.out.below BW.out (Nat.le_refl _))).mono ?_
  rintro e V1 ⟨rfl, hb⟩
  replace BW := Hid.of (BW.out.trans (hb.mono BW.out.size))
  replace KM := Hid.of (KM.out.below hb KM.out.lt)
  clear hb
  rw [hma.out]
  obtain ⟨x0, x1, x2, x3, x4⟩ := mcell_at KM.out
  dsimp only at x0 x1 x2 x3 x4
  go_wp2_with fail
  clear x0 x1 x2 x3 x4
  refine (rowIs_any ha hc high ev V1 (hh.out.below BW.out (Nat.le_refl _)) hhl.out).mono ?_
  rintro e V2 ⟨rfl, rfl⟩
  rw [hhr.out]
  obtain ⟨x0, x1, x2, x3, x4⟩ := mcell_at KM.out
  dsimp only at x0 x1 x2 x3 x4
  go_wp2_with fail
  clear x0 x1 x2 x3 x4
  refine (others_any ev ha hc high V2 hev (hh.out.below BW.out (Nat.le_refl _)) hhl.out).mono ?_
  rintro e V3 ⟨v, rfl, ov, hb⟩
  have HOT : Hid (othL ev high = low) := by show _ = _; rw [HLW.out]; exact oth_seen ⟨(st : Int), (ev : Int), starts, ars, ends⟩ high
  rw [HOT.out] at ov
  have HB0 : Hid (w.heap.size < V2.heap.size) := KM.out.lt
  obtain ⟨la, lc, rfl, -, -, -, -⟩ := ov.at2
  have OL := Hid.of ov
  replace BW := Hid.of (BW.out.trans (hb.mono BW.out.size))
  replace KM := Hid.of (KM.out.below hb KM.out.lt)
  have HBS : Hid (V2.heap.size ≤ V3.heap.size) := hb.size
  clear hb ov
  generalize V2.heap.size = B0 at *
  obtain ⟨x0, x1, x2, x3, x4⟩ := mcell_at KM.out
  dsimp only at x0 x1 x2 x3 x4
  go_wp2_with fail
  clear x0 x1 x2 x3 x4
  refine (hide_okx st ev starts ars ends a1 c1 a2 c2 a3 c3 la lc low V3 (Hid.of (h.out.below BW.out (Nat.le_refl _))) (Hid.of OL.out.at3.1) (Hid.of (Nat.le_trans OL.out.at3.2.1 OL.out.at3.2.2.1)) hma HLR (Hid.of (hT.out.below BW.out hT.out.lt))).mono ?_
  intro e V4 hp
  rw [if_pos HAS.out] at hp
  obtain ⟨L, rfl, -, hb, oA, oS, oE⟩ := hp
  obtain ⟨n1, d1, n2, d2, n3, d3⟩ := L
  have OA : Hid (OwnA V4 B0 (.slice n2 NA.length d2) NA) := by show OwnA _ _ _ _; rw [HNA.out]; exact own_lowX oA HBS.out
  have OS : Hid (Own V4 B0 (.slice n1 NS.length d1) NS) := by show Own _ _ _ _; rw [HNS.out]; exact own_lowX oS HBS.out
  have OE : Hid (Own V4 B0 (.slice n3 ends.length d3) ends) := own_lowX oE HBS.out
  have HMV : Hid (mval (hideM ⟨(st : Int), (ev : Int), starts, ars, ends⟩ low) ⟨n1, d1, n2, d2, n3, d3⟩ = mval ⟨(st : Int), (low.length : Int), NS, NA, ends⟩ ⟨n1, d1, n2, d2, n3, d3⟩) := by show _ = _; rw [HNA.out, HNS.out]; rfl
  rw [HMV.out]
  replace BW := Hid.of (BW.out.trans (hb.mono BW.out.size))
  replace KM := Hid.of (KM.out.below hb KM.out.lt)
  replace OL := Hid.of (own_same OL.out (fun k hk => hb.block k (World.ownsRow.lt OL.out k hk).2))
  replace HBS := Hid.of (Nat.le_trans HBS.out hb.size)
  clear hb oA oS oE HMV
  have hb : Below V4.heap.size V4 (V4.alloc (.cells (mcells ⟨(st : Int), (low.length : Int), NS, NA, ends⟩ ⟨n1, d1, n2, d2, n3, d3⟩) 25)) := (Below.refl _ _).alloc (Nat.le_refl _) _
  have K8 := Hid.of (Blk.new V4 25 (mcells ⟨(st : Int), (low.length : Int), NS, NA, ends⟩ ⟨n1, d1, n2, d2, n3, d3⟩))
  replace BW := Hid.of (BW.out.trans (hb.mono BW.out.size))
  replace KM := Hid.of (KM.out.below hb KM.out.lt)
  replace OL := Hid.of (own_same OL.out (fun k hk => hb.block k (World.ownsRow.lt OL.out k hk).2))
  replace OA := Hid.of (own_same OA.out (fun k hk => hb.block k (World.ownsRow.lt OA.out k hk).2))
  replace OS := Hid.of (own_same OS.out (fun k hk => hb.block k (World.ownsRow.lt OS.out k hk).2))
  replace OE := Hid.of (own_same OE.out (fun k hk => hb.block k (World.ownsRow.lt OE.out k hk).2))
  replace HBS := Hid.of (Nat.le_trans HBS.out hb.size)
  clear hb
  go_wp2_with fail
  revert K8 BW KM OL OA OS OE HBS
  generalize V4.alloc (.cells (mcells ⟨(st : Int), (low.length : Int), NS, NA, ends⟩ ⟨n1, d1, n2, d2, n3, d3⟩) 25) = V5
  generalize V4.heap.size = p8
  intro K8 BW KM OL OA OS OE HBS
  have SA : Hid (∀ W, Blk W w.heap.size 25 (mcells ⟨(st : Int), (ev : Int), starts, ars, ends⟩ ⟨a1, c1, a2, c2, a3, c3⟩) → Blk W p8 25 (mcells ⟨(st : Int), (low.length : Int), NS, NA, ends⟩ ⟨n1, d1, n2, d2, n3, d3⟩) → W.cell? ⟨w.heap.size, 0, none⟩ = some (.int .i64 st) ∧ W.cell? ⟨w.heap.size, 1, none⟩ = some (.int .i64 ev) ∧ W.cell? ⟨w.heap.size, 2, none⟩ = some (.slice a1 starts.length c1) ∧ W.cell? ⟨w.heap.size, 3, none⟩ = some (.slice a2 ars.length c2) ∧ W.cell? ⟨w.heap.size, 4, none⟩ = some (.slice a3 ends.length c3) ∧ W.cell? ⟨p8, 0, none⟩ = some (.int .i64 st) ∧ W.cell? ⟨p8, 1, none⟩ = some (.int .i64 low.length) ∧ W.cell? ⟨p8, 2, none⟩ = some (.slice n1 NS.length d1) ∧ W.cell? ⟨p8, 3, none⟩ = some (.slice n2 NA.length d2) ∧ W.cell? ⟨p8, 4, none⟩ = some (.slice n3 ends.length d3)) := fun W h1 h2 => by
    obtain ⟨x0, x1, x2, x3, x4⟩ := mcell_at h1
    obtain ⟨y0, y1, y2, y3, y4⟩ := mcell_at h2
    exact ⟨x0, x1, x2, x3, x4, y0, y1, y2, y3, y4⟩
  have HWI : Hid (∀ Y, Own Y B0 (.slice n1 NS.length d1) NS → OwnA Y B0 (.slice n2 NA.length d2) (NA.map (renA low)) → Own Y B0 (.slice n3 ends.length d3) ends → Below w.heap.size w Y → Calls Tryd.prog 31 #[mval (renM low (ev : Int) ⟨(st : Int), (low.length : Int), NS, NA, ends⟩) ⟨n1, d1, n2, d2, n3, d3⟩, mval ⟨(st : Int), (ev : Int), starts, ars, ends⟩ ⟨a1, c1, a2, c2, a3, c3⟩] Y fun e W' => ∃ (ob : Bool) (oa : Option Addr) (oc : Nat) (ol : List Int), e = .returned (.tuple #[.bool ob, .slice oa ol.length oc, .int .i64 0]) ∧ (ob = (outT ⟨(st : Int), (ev : Int), starts, ars, ends⟩ high).isNone ∧ ol = (outT ⟨(st : Int), (ev : Int), starts, ars, ends⟩ high).getD []) ∧ At W' oa ol ∧ ol.length ≤ maxLen ∧ Below Y.heap.size Y W') := fun Y h1 h2 h3 hb => by
    obtain ⟨s1, s2, s3, s4⟩ := h1.at3
    obtain ⟨t1, t2, t3, t4⟩ := h2.at3
    obtain ⟨u1, u2, u3, u4⟩ := h3.at3
    have mt : MAt Y (renM low (ev : Int) ⟨(st : Int), (low.length : Int), NS, NA, ends⟩) ⟨n1, d1, n2, d2, n3, d3⟩ := ⟨s1, t1, u1, s2, s3, s4, t2, t3, t4, u2, u3, u4⟩
    refine (pWith_any _ ⟨(st : Int), (ev : Int), starts, ars, ends⟩ _ ⟨a1, c1, a2, c2, a3, c3⟩ Y mt (h.out.below hb (Nat.le_refl _)) (hT.out.below hb hT.out.lt)).mono ?_
    intro e W' hp
    unfold WithPost at hp
    have hW : withOut (renM low (ev : Int) ⟨(st : Int), (low.length : Int), NS, NA, ends⟩) ⟨(st : Int), (ev : Int), starts, ars, ends⟩ = ((outT ⟨(st : Int), (ev : Int), starts, ars, ends⟩ high).isNone, (outT ⟨(st : Int), (ev : Int), starts, ars, ends⟩ high).getD [], 0) := by
      have hz' : (hAll ⟨(st : Int), (ev : Int), starts, ars, ends⟩ (seenH ⟨(st : Int), (ev : Int), starts, ars, ends⟩ high) ((⟨(st : Int), (ev : Int), starts, ars, ends⟩ : Mach).st).toNat).length ≤ 4096 := by rw [← HLW.out]; exact HAS.out
      have hmL := may_low (m := ⟨(st : Int), (ev : Int), starts, ars, ends⟩) hma.out hz'
      unfold withOut
      rw [HLN0.out, if_pos ⟨hmL, hma.out⟩, if_pos (show (lowN ⟨(st : Int), (ev : Int), starts, ars, ends⟩ high).ev = (⟨(st : Int), (ev : Int), starts, ars, ends⟩ : Mach).ev from rfl), if_pos ⟨(show (lowN ⟨(st : Int), (ev : Int), starts, ars, ends⟩ high).st ≤ 6 from zm.out), zm.out⟩, told_out hma.out zm.out high hz']
    rw [hW] at hp
    dsimp only at hp
    obtain ⟨va, vc, rfl, g1, g2, g3⟩ := hp
    exact ⟨_, va, vc, _, rfl, ⟨rfl, rfl⟩, g1, g2, g3⟩
  refine wp_region_held_drew (S := fun w' => w'.cell? ⟨w.heap.size, 0, none⟩ = some (.int .i64 st) ∧ w'.cell? ⟨w.heap.size, 1, none⟩ = some (.int .i64 ev) ∧ w'.cell? ⟨w.heap.size, 2, none⟩ = some (.slice a1 starts.length c1) ∧ w'.cell? ⟨w.heap.size, 3, none⟩ = some (.slice a2 ars.length c2) ∧ w'.cell? ⟨w.heap.size, 4, none⟩ = some (.slice a3 ends.length c3) ∧ w'.cell? ⟨p8, 0, none⟩ = some (.int .i64 st) ∧ w'.cell? ⟨p8, 1, none⟩ = some (.int .i64 low.length) ∧ w'.cell? ⟨p8, 2, none⟩ = some (.slice n1 NS.length d1) ∧ w'.cell? ⟨p8, 3, none⟩ = some (.slice n2 NA.length d2) ∧ w'.cell? ⟨p8, 4, none⟩ = some (.slice n3 ends.length d3)) (by kernel_rfl) (SA.out _ (Blk.drew KM.out) (Blk.drew K8.out)) (fun hS => ?_)
  replace K8 := Hid.of (Blk.drew K8.out)
  replace KM := Hid.of (Blk.drew KM.out)
  replace BW : Hid (Below w.heap.size w V5.drew) := BW.out.drew
  replace OL : Hid (Own V5.drew B0 (.slice la low.length lc) low) := OL.out
  replace OA : Hid (OwnA V5.drew B0 (.slice n2 NA.length d2) NA) := OA.out
  replace OS : Hid (Own V5.drew B0 (.slice n1 NS.length d1) NS) := OS.out
  replace OE : Hid (Own V5.drew B0 (.slice n3 ends.length d3) ends) := OE.out
  replace HBS : Hid (B0 ≤ V5.drew.heap.size) := HBS.out
  revert hS K8 KM BW OL OA OS OE HBS
  generalize V5.drew = Y0
  intro hS K8 KM BW OL OA OS OE HBS
  refine wpAnyH_take (i := 0) (v := .agg #[.int .i64 st, .int .i64 low.length, .slice n1 NS.length d1, .slice n2 NA.length d2, .slice n3 ends.length d3]) rfl (by kernel_rfl) (by kernel_rfl) (by kernel_rfl) (fun _ _ _ h => h) (Or.inl ⟨by kernel_rfl, fun w' hw' => by obtain ⟨q0, q1, q2, q3, q4, q5, q6, q7, q8, q9⟩ := hw'; go_simp⟩) hS ?_
  refine wpAnyH_take (i := 1) (v := .slice la low.length lc) rfl (by kernel_rfl) (by kernel_rfl) (by kernel_rfl) (fun _ _ _ h => h) (Or.inl ⟨by kernel_rfl, fun w' hw' => by obtain ⟨q0, q1, q2, q3, q4, q5, q6, q7, q8, q9⟩ := hw'; go_simp⟩) hS ?_
  refine wpAnyH_take (i := 2) (v := .pointer (some ⟨w.heap.size, 1, none⟩)) rfl (by kernel_rfl) (by kernel_rfl) (by kernel_rfl) (fun _ _ _ h => h) (Or.inl ⟨by kernel_rfl, fun w' hw' => by obtain ⟨q0, q1, q2, q3, q4, q5, q6, q7, q8, q9⟩ := hw'; go_simp⟩) hS ?_
  refine wpAnyH_take (i := 3) (v := .int .i64 ev) rfl (by kernel_rfl) (by kernel_rfl) (by kernel_rfl) (fun _ _ _ h => h) (Or.inl ⟨by kernel_rfl, fun w' hw' => by obtain ⟨q0, q1, q2, q3, q4, q5, q6, q7, q8, q9⟩ := hw'; go_simp⟩) hS ?_
  refine wpAnyH_take (i := 5) (v := .agg #[.int .i64 st, .int .i64 ev, .slice a1 starts.length c1, .slice a2 ars.length c2, .slice a3 ends.length c3]) rfl (by kernel_rfl) (by kernel_rfl) (by kernel_rfl) (fun _ _ _ h => h) (Or.inl ⟨by kernel_rfl, fun w' hw' => by obtain ⟨q0, q1, q2, q3, q4, q5, q6, q7, q8, q9⟩ := hw'; go_simp⟩) hS ?_
  simp only [Act.put, List.setIfInBounds_toArray]
  refine wpAnyH_ready (rs := [4]) (by kernel_rfl) (by simp) ?_
  refine AllReadyH.cons rfl (fun K' hK' => ?_) AllReadyH.nil
  clear hS
  go_simp
  refine (renum_go st low.length NS NA ends n1 d1 n2 d2 n3 d3 low la lc ev B0 B0 Y0 hNA hll OA OL HNE).mono ?_
  rintro e1 Y1 ⟨rfl, oa2, gr⟩
  have HGE : Hid (∀ k, (Value.slice n2 NA.length d2).ownBlock = some k → B0 ≤ k) := fun k hk => (World.ownsRow.lt OA.out k hk).1
  have HBY : Hid (B0 ≤ Y0.heap.size) := HBS.out
  replace KM : Hid (Blk Y1 w.heap.size 25 (mcells ⟨(st : Int), (ev : Int), starts, ars, ends⟩ ⟨a1, c1, a2, c2, a3, c3⟩)) := (gr.block _ KM.out.lt (fun e => by have := HGE.out _ e.symm; have := HB0.out; omega)).trans KM.out
  replace K8 : Hid (Blk Y1 p8 25 (mcells ⟨(st : Int), (low.length : Int), NS, NA, ends⟩ ⟨n1, d1, n2, d2, n3, d3⟩)) := (gr.block _ K8.out.lt (fun e => by obtain ⟨cs, h2⟩ := own_type OA.out e.symm; rw [show Y0.heap[p8]? = _ from K8.out] at h2; cases h2)).trans K8.out
  have OS2 : Hid (Own Y1 B0 (.slice n1 NS.length d1) NS) := own_same OS.out (fun k hk => gr.block k (World.ownsRow.lt OS.out k hk).2 (fun e => by obtain ⟨cs, h2⟩ := own_type OA.out e.symm; obtain ⟨cs3, h3⟩ := own_type OS.out hk; rw [h3] at h2; cases h2))
  have OE2 : Hid (Own Y1 B0 (.slice n3 ends.length d3) ends) := own_same OE.out (fun k hk => gr.block k (World.ownsRow.lt OE.out k hk).2 (fun e => by obtain ⟨cs, h2⟩ := own_type OA.out e.symm; obtain ⟨cs3, h3⟩ := own_type OE.out hk; rw [h3] at h2; cases h2))
  have BW2 : Hid (Below w.heap.size w Y1) := BW.out.grown gr BW.out.size (fun k hk => Nat.le_trans (Nat.le_of_lt HB0.out) (HGE.out k hk))
  have OA2 := Hid.of oa2
  refine hK'.out _ _ (SA.out _ KM.out K8.out) (fun hS => ?_)
  clear hK' K' oa2 gr
  refine wpAnyH_ready (rs := [6]) (by kernel_rfl) (by simp) ?_
  refine AllReadyH.cons rfl (fun K' hK' => ?_) AllReadyH.nil
  clear hS
  go_simp
  refine (HWI.out Y1 OS2.out OA2.out OE2.out BW2.out).mono ?_
  rintro e Y2 ⟨ob, oa, oc, ol, rfl, hob, hat, hln, hb⟩
  replace KM := Hid.of (KM.out.below hb KM.out.lt)
  replace K8 := Hid.of (K8.out.below hb K8.out.lt)
  have HOB := Hid.of hob
  have HAT := Hid.of hat
  have HLN := Hid.of hln
  have BW3 := Hid.of (BW2.out.trans (hb.mono BW2.out.size))
  refine hK'.out _ _ (SA.out _ KM.out K8.out) (fun hS => ?_)
  clear hK' K' hb hob hat hln
  refine wpAnyH_take (i := 7) (v := .tuple #[.bool ob, .slice oa ol.length oc, .int .i64 0]) rfl (by kernel_rfl) (by kernel_rfl) (by kernel_rfl) (fun _ _ _ h => h) (Or.inl ⟨by kernel_rfl, fun w' hw' => by obtain ⟨q0, q1, q2, q3, q4, q5, q6, q7, q8, q9⟩ := hw'; go_simp⟩) hS ?_
  refine wpAnyH_take (i := 8) (v := .bool ob) rfl (by kernel_rfl) (by kernel_rfl) (by kernel_rfl) (fun _ _ _ h => h) (Or.inl ⟨by kernel_rfl, fun w' hw' => by obtain ⟨q0, q1, q2, q3, q4, q5, q6, q7, q8, q9⟩ := hw'; go_simp⟩) hS ?_
  refine wpAnyH_take (i := 9) (v := .slice oa ol.length oc) rfl (by kernel_rfl) (by kernel_rfl) (by kernel_rfl) (fun _ _ _ h => h) (Or.inl ⟨by kernel_rfl, fun w' hw' => by obtain ⟨q0, q1, q2, q3, q4, q5, q6, q7, q8, q9⟩ := hw'; go_simp⟩) hS ?_
  refine wpAnyH_take (i := 10) (v := .int .i64 0) rfl (by kernel_rfl) (by kernel_rfl) (by kernel_rfl) (fun _ _ _ h => h) (Or.inl ⟨by kernel_rfl, fun w' hw' => by obtain ⟨q0, q1, q2, q3, q4, q5, q6, q7, q8, q9⟩ := hw'; go_simp⟩) hS ?_
  refine wpAnyH_take (i := 11) (v := .bool ob) rfl (by kernel_rfl) (by kernel_rfl) (by kernel_rfl) (fun _ _ _ h => h) (Or.inl ⟨by kernel_rfl, fun w' hw' => by obtain ⟨q0, q1, q2, q3, q4, q5, q6, q7, q8, q9⟩ := hw'; go_simp⟩) hS ?_
  refine wpAnyH_take (i := 12) (v := .slice oa ol.length oc) rfl (by kernel_rfl) (by kernel_rfl) (by kernel_rfl) (fun _ _ _ h => h) (Or.inl ⟨by kernel_rfl, fun w' hw' => by obtain ⟨q0, q1, q2, q3, q4, q5, q6, q7, q8, q9⟩ := hw'; go_simp⟩) hS ?_
  refine wpAnyH_take (i := 13) (v := .int .i64 0) rfl (by kernel_rfl) (by kernel_rfl) (by kernel_rfl) (fun _ _ _ h => h) (Or.inl ⟨by kernel_rfl, fun w' hw' => by obtain ⟨q0, q1, q2, q3, q4, q5, q6, q7, q8, q9⟩ := hw'; go_simp⟩) hS ?_
  refine wpAnyH_done (by kernel_rfl) ?_ _
  clear hS
  have h0 : ((0 : Int) == 0) = true := rfl
  go_wp2_with fail
  refine bodyPost_ret (v := .tuple #[.bool (!ob), .slice oa ol.length oc, .int .i64 0]) (by simp [results, go_sem]) rfl ?_
  rw [tolOut_ok hma.out hhr.out zm.out]
  have e1 : (!ob) = (outT ⟨(st : Int), (ev : Int), starts, ars, ends⟩ high).isSome := by rw [HOB.out.1]; cases outT ⟨(st : Int), (ev : Int), starts, ars, ends⟩ high <;> rfl
  rw [e1, HOB.out.2]
  rw [HOB.out.2] at HAT HLN
  exact ⟨oa, oc, rfl, HAT.out, HLN.out, BW3.out⟩

theorem pTol_any (m : Mach) (l : ML) (ha : Option Addr) (hc : Nat) (high : List Int) (w : World) (h : MAt w m l) (hh : At w ha high) (hhl : high.length ≤ maxLen) (hT : Tab w) :
    Calls Tryd.prog 47 #[mval m l, .slice ha high.length hc] w fun e w' => LeakPost w (tolOut m high) e w' := by
  cases hm : mayB m with
  | false => exact tol_m m l ha hc high w (Hid.of h) (Hid.of hh) (Hid.of hhl) (Hid.of hm)
  | true =>
    cases hr : rowB m.ev high with
    | false => exact tol_r m l ha hc high w (Hid.of h) (Hid.of hh) (Hid.of hhl) (Hid.of hm) (Hid.of hr)
    | true =>
      by_cases hz : m.st ≤ 6
      · have hzz := mayB_size hm
        unfold sizeOk at hzz
        obtain ⟨st, ev, starts, ars, ends⟩ := m
        obtain ⟨a1, c1, a2, c2, a3, c3⟩ := l
        dsimp only at hz hzz hr
        obtain ⟨s, rfl⟩ : ∃ s : Nat, st = (s : Int) := ⟨st.toNat, by omega⟩
        obtain ⟨e, rfl⟩ : ∃ e : Nat, ev = (e : Int) := ⟨ev.toNat, by omega⟩
        exact tol_ok s e starts ars ends a1 c1 a2 c2 a3 c3 ha hc high (Hid.of hm) (by omega) (Hid.of hr) w (Hid.of hT) (Hid.of h) (Hid.of hh) (Hid.of hhl)
      · exact tol_z m l ha hc high w (Hid.of h) (Hid.of hh) (Hid.of hhl) (Hid.of hm) (Hid.of hr) hz

end Go.Proofs.YtgebfkmfhpcdhaaDoor
