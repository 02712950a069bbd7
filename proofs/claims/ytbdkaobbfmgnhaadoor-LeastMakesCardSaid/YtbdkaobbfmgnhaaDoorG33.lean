/-
  The walk of jalousieref8.Least.
  The walk of the law LeastMakes.
-/
import Derived.Test.YtbdkaobbfmgnhaaDoorG23
import Derived.Test.YtbdkaobbfmgnhaaDoorG24
import Derived.Test.YtbdkaobbfmgnhaaDoorCRMake
import Derived.Test.YtbdkaobbfmgnhaaDoorCPLeast
import Derived.Test.YtbdkaobbfmgnhaaDoorCRefMay
namespace Go.Proofs.YtbdkaobbfmgnhaaDoor
open Go.RowKit
set_option linter.unusedVariables false

/-- What the reference's Least leaves. -/
def RLeaPost (w : World) (m : Mach) (e : Ending) (w' : World) : Prop := ∃ M L, e = .returned (mval M L) ∧ IsLeast m M ∧ MAt w' M L ∧ Below w.heap.size w w'

/-- The machine that was made, copied into another block. -/
theorem lleaf {w X : World} {M : Mach} {L : ML} (hb : Below w.heap.size w X) (hr : Blk X (w.heap.size + 1) 25 zcells) (hM : MAt X M L) (hF : FrM (w.heap.size + 2) M L) :
    Blk (((((X.setCell ⟨w.heap.size + 1, 0, none⟩ (.int .i64 M.st)).setCell ⟨w.heap.size + 1, 1, none⟩ (.int .i64 M.ev)).setCell ⟨w.heap.size + 1, 2, none⟩ (.slice L.a1 M.starts.length L.c1)).setCell ⟨w.heap.size + 1, 3, none⟩ (.slice L.a2 M.arrows.length L.c2)).setCell ⟨w.heap.size + 1, 4, none⟩ (.slice L.a3 M.ends.length L.c3)) (w.heap.size + 1) 25 (mcells M L)
    ∧ MAt (((((X.setCell ⟨w.heap.size + 1, 0, none⟩ (.int .i64 M.st)).setCell ⟨w.heap.size + 1, 1, none⟩ (.int .i64 M.ev)).setCell ⟨w.heap.size + 1, 2, none⟩ (.slice L.a1 M.starts.length L.c1)).setCell ⟨w.heap.size + 1, 3, none⟩ (.slice L.a2 M.arrows.length L.c2)).setCell ⟨w.heap.size + 1, 4, none⟩ (.slice L.a3 M.ends.length L.c3)) M L
    ∧ Below w.heap.size w (((((X.setCell ⟨w.heap.size + 1, 0, none⟩ (.int .i64 M.st)).setCell ⟨w.heap.size + 1, 1, none⟩ (.int .i64 M.ev)).setCell ⟨w.heap.size + 1, 2, none⟩ (.slice L.a1 M.starts.length L.c1)).setCell ⟨w.heap.size + 1, 3, none⟩ (.slice L.a2 M.arrows.length L.c2)).setCell ⟨w.heap.size + 1, 4, none⟩ (.slice L.a3 M.ends.length L.c3)) :=
  ⟨hr.set5 _ _ _ _ _, hM.set5 hF (by omega) _ _ _ _ _, below_set5 hb (b' := w.heap.size + 1) (by omega) _ _ _ _ _⟩

set_option maxRecDepth 100000 in
set_option maxHeartbeats 16000000 in
theorem rlea_go (st ev : Nat) (starts : List Int) (ars : List Arr) (ends : List Int) (a1 : Option Addr) (c1 : Nat) (a2 : Option Addr) (c2 : Nat) (a3 : Option Addr) (c3 : Nat) (w : World) (h : Hid (MAt w ⟨(st : Int), (ev : Int), starts, ars, ends⟩ ⟨a1, c1, a2, c2, a3, c3⟩)) (hm : Hid (mayB ⟨(st : Int), (ev : Int), starts, ars, ends⟩ = true)) (z : st ≤ 6) :
    Calls Tryd.prog 42 #[mval ⟨(st : Int), (ev : Int), starts, ars, ends⟩ ⟨a1, c1, a2, c2, a3, c3⟩] w fun e w' => RLeaPost w ⟨(st : Int), (ev : Int), starts, ars, ends⟩ e w' := by
  have hz := mayB_size hm.out
  unfold sizeOk at hz
  dsimp only at hz
  have hev : ev ≤ 8 := by omega
  clear hz
  obtain ⟨s, hds, hs64⟩ := det_small hm.out (show (st : Int) ≤ 6 by omega)
  have HDS := Hid.of hds
  have HDO := Hid.of (detOut_some hm.out hds)
  have HDD := Hid.of (det_det hm.out hds)
  have HDL := Hid.of (det_lang hm.out hds)
  have HLR : Hid (∀ [DecidableEq Lang] (ap : Int → Int → Bool), (∀ x y : Int, 0 ≤ x → x < (detM ⟨(st : Int), (ev : Int), starts, ars, ends⟩ s).st → 0 ≤ y → y < (detM ⟨(st : Int), (ev : Int), starts, ars, ends⟩ s).st → (ap x y = true ↔ langS (detM ⟨(st : Int), (ev : Int), starts, ars, ends⟩ s) [x] ≠ langS (detM ⟨(st : Int), (ev : Int), starts, ars, ends⟩ s) [y])) → leastR (detM ⟨(st : Int), (ev : Int), starts, ars, ends⟩ s) ap = leastM (langM ⟨(st : Int), (ev : Int), starts, ars, ends⟩) (ev : Int).toNat) := fun ap hap => leastR_det hm.out hds hap
  have B0 : Hid (Below w.heap.size w ((w.alloc (.cells (mcells ⟨(st : Int), (ev : Int), starts, ars, ends⟩ ⟨a1, c1, a2, c2, a3, c3⟩) 25)).alloc (.cells zcells 25))) := ((Below.refl _ _).alloc (Nat.le_refl _) _).alloc (by simp) _
  have K0 : Hid (Blk ((w.alloc (.cells (mcells ⟨(st : Int), (ev : Int), starts, ars, ends⟩ ⟨a1, c1, a2, c2, a3, c3⟩) 25)).alloc (.cells zcells 25)) w.heap.size 25 (mcells ⟨(st : Int), (ev : Int), starts, ars, ends⟩ ⟨a1, c1, a2, c2, a3, c3⟩)) := (Blk.new w _ _).alloc _
  have R0 : Hid (Blk ((w.alloc (.cells (mcells ⟨(st : Int), (ev : Int), starts, ars, ends⟩ ⟨a1, c1, a2, c2, a3, c3⟩) 25)).alloc (.cells zcells 25)) (w.heap.size + 1) 25 zcells) := by
    have := Blk.new (w.alloc (.cells (mcells ⟨(st : Int), (ev : Int), starts, ars, ends⟩ ⟨a1, c1, a2, c2, a3, c3⟩) 25)) 25 zcells
    rwa [World.size_alloc] at this
  clear hds
  go_enter Tryd.func42, Tryd.ntmps42
  go_wp2_with fail
  revert B0 K0 R0
  generalize ((w.alloc (.cells (mcells ⟨(st : Int), (ev : Int), starts, ars, ends⟩ ⟨a1, c1, a2, c2, a3, c3⟩) 25)).alloc (.cells zcells 25)) = V0
  intro B0 K0 R0
  refine (rMake_any ⟨(st : Int), (ev : Int), starts, ars, ends⟩ ⟨a1, c1, a2, c2, a3, c3⟩ V0 (h.out.below B0.out (Nat.le_refl _))).mono ?_
  rintro e V1 ⟨L, va, vc, rfl, hMD, -, -, hb1⟩
  rw [HDO.out] at hMD ⊢
  dsimp only at hMD ⊢
  obtain ⟨D, HD⟩ : ∃ D, Hid (D = detM ⟨(st : Int), (ev : Int), starts, ars, ends⟩ s) := ⟨_, rfl⟩
  have HDf : Hid (D.st = (s.sets.length : Int) ∧ D.ev = (ev : Int) ∧ D.starts = [0]) := by show _ ∧ _; rw [HD.out]; exact ⟨rfl, rfl, rfl⟩
  rw [← HD.out] at hMD HDD HDL HLR ⊢
  obtain ⟨dst, dev, dstarts, dar, dends⟩ := D
  obtain ⟨f1, f2, f3⟩ := HDf.out
  dsimp only at f1 f2 f3
  obtain ⟨n, HN⟩ : ∃ n, Hid (n = s.sets.length) := ⟨_, rfl⟩
  rw [← HN.out] at f1 hs64
  subst f1; subst f2; subst f3
  obtain ⟨d1, e1, d2, e2, d3, e3⟩ := L
  have HMD := Hid.of hMD
  have B1 := Hid.of (B0.out.trans (hb1.mono B0.out.size))
  have R1 := Hid.of (R0.out.below hb1 R0.out.lt)
  clear hMD hb1 B0 K0 R0 HDf HDO
  obtain ⟨u, hu⟩ : ∃ u : Nat, u = s.sets.length := ⟨_, rfl⟩
  rw [← hu]
  go_wp2_with fail
  have hb2 : Below V1.heap.size V1 (V1.alloc (.cells (mcells ⟨(n : Int), (ev : Int), [0], dar, dends⟩ ⟨d1, e1, d2, e2, d3, e3⟩) 25)) := (Below.refl _ _).alloc (Nat.le_refl _) _
  have B2 := Hid.of (B1.out.trans (hb2.mono B1.out.size))
  have R2 := Hid.of (R1.out.below hb2 R1.out.lt)
  have M2 := Hid.of (HMD.out.below hb2 (Nat.le_refl _))
  have KD2 := Hid.of (Blk.new V1 25 (mcells ⟨(n : Int), (ev : Int), [0], dar, dends⟩ ⟨d1, e1, d2, e2, d3, e3⟩))
  have P2 : Hid (w.heap.size + 1 < V1.heap.size) := R1.out.lt
  clear hb2 B1 R1 HMD
  revert B2 R2 M2 KD2 P2
  generalize V1.alloc (.cells (mcells ⟨(n : Int), (ev : Int), [0], dar, dends⟩ ⟨d1, e1, d2, e2, d3, e3⟩) 25) = V2
  generalize V1.heap.size = bd
  intro B2 R2 M2 KD2 P2
  refine (apart_any n ev [0] dar dends d1 e1 d2 e2 d3 e3 V2 M2 HDD (by omega) hev).mono ?_
  rintro e V3 ⟨q, T, vv, Ld, rfl, hAT, hT⟩
  have hb3 := hAT.bel
  have B3 := Hid.of (B2.out.trans (hb3.mono B2.out.size))
  have R3 := Hid.of (R2.out.below hb3 R2.out.lt)
  have M3 := Hid.of (M2.out.below hb3 (Nat.le_refl _))
  have KD3 := Hid.of (KD2.out.below hb3 KD2.out.lt)
  have HAT := Hid.of hAT
  have HAP : Hid (∀ x y : Int, 0 ≤ x → x < (n : Int) → 0 ≤ y → y < (n : Int) → ((fun x y => T x.toNat y.toNat) x y = true ↔ langS ⟨(n : Int), (ev : Int), [0], dar, dends⟩ [x] ≠ langS ⟨(n : Int), (ev : Int), [0], dar, dends⟩ [y])) := fun x y x0 x1 y0 y1 => by
    have := hT x.toNat y.toNat (by omega) (by omega)
    rw [Int.toNat_of_nonneg x0, Int.toNat_of_nonneg y0] at this
    exact this
  have PA : Hid (V2.heap.size + 1 < V3.heap.size) := hAT.pa.lt
  clear hb3 B2 R2 M2 KD2 hAT hT
  -- the new machine, and the states found
  have bX : Below V3.heap.size V3 (((V3.alloc (.cells #[.int .i64 0] 3)).alloc (.cells (rcells 0 (ev : Int) V3.heap.size (.slice none 0 0) (.slice none 0 0)) 25)).alloc (.cells #[.int .i64 0] 3)) := (((Below.refl _ _).alloc (Nat.le_refl _) _).alloc (by simp) _).alloc (by simp; omega) _
  have HX : Hid (LN V3 (((V3.alloc (.cells #[.int .i64 0] 3)).alloc (.cells (rcells 0 (ev : Int) V3.heap.size (.slice none 0 0) (.slice none 0 0)) 25)).alloc (.cells #[.int .i64 0] 3)) V3.heap.size (ev : Int) (.slice (some ⟨V3.heap.size + 1 + 1, 0, none⟩) 1 1) (.slice none 0 0) (.slice none 0 0) [0] [] []) := by
    refine ⟨bX, ((Blk.new V3 _ _).alloc _).alloc _, ?_, ?_, ownA_nil _ _, own_nil _ _, (fun g h1 h2 => by cases h2), by simp⟩
    · have := (Blk.new (V3.alloc (.cells #[.int .i64 0] 3)) 25 (rcells 0 (ev : Int) V3.heap.size (.slice none 0 0) (.slice none 0 0))).alloc (.cells #[.int .i64 0] 3)
      rwa [World.size_alloc] at this
    · have := World.ownsRow_lit ((V3.alloc (.cells #[.int .i64 0] 3)).alloc (.cells (rcells 0 (ev : Int) V3.heap.size (.slice none 0 0) (.slice none 0 0)) 25)) (base := V3.heap.size + 2) (e := 3) (size := 1) #[.int .i64 0] 1 (by simp) (by decide) rfl
      rwa [World.size_alloc, World.size_alloc] at this
  have hXz : (((V3.alloc (.cells #[.int .i64 0] 3)).alloc (.cells (rcells 0 (ev : Int) V3.heap.size (.slice none 0 0) (.slice none 0 0)) 25)).alloc (.cells #[.int .i64 0] 3)).heap.size = V3.heap.size + 3 := by simp
  obtain ⟨y0, y1, y2, y3, y4⟩ := mcell_at KD3.out
  dsimp only at y0 y1 y2 y3 y4
  clear bX
  go_wp2_with fail
  clear y0 y1 y2 y3 y4 hXz
  revert HX
  generalize (((V3.alloc (.cells #[.int .i64 0] 3)).alloc (.cells (rcells 0 (ev : Int) V3.heap.size (.slice none 0 0) (.slice none 0 0)) 25)).alloc (.cells #[.int .i64 0] 3)) = X
  intro HX
  have HLX0 : Hid (LX ⟨(st : Int), (ev : Int), starts, ars, ends⟩ ⟨(n : Int), (ev : Int), [0], dar, dends⟩ ev (0 * ev) ⟨[0], []⟩) := by
    refine LX.start ?_ ?_
    · rw [← HDL.out]
      funext u
      unfold langM langS acceptsB acceptsL
      rfl
    · have hmd : mayB ⟨(n : Int), (ev : Int), [0], dar, dends⟩ = true := by have := HDD.out; unfold detB at this; rw [Bool.and_eq_true] at this; exact this.1
      have := mayB_size hmd
      unfold sizeOk at this
      omega
  go_loopw [8, 9] (fun v8 i wr => ∃ (k : Nat) (s : LS) (va ve : Value), i = .int .i64 k ∧ k ≤ s.fd.length ∧ s.fd.length ≤ 64 ∧ Hid (LN V3 wr V3.heap.size (ev : Int) v8 va ve s.fd s.ar (endsG (fun x => hasB dends x) 0 (s.fd.take k))) ∧ Hid (LX ⟨(st : Int), (ev : Int), starts, ars, ends⟩ ⟨(n : Int), (ev : Int), [0], dar, dends⟩ ev (k * ev) s) ∧ Hid (lGo dar (fun x y => T x.toNat y.toNat) ev 65 0 ⟨[0], []⟩ = lGo dar (fun x y => T x.toNat y.toNat) ev (65 - k) k s)) (fun _ i _ => 65 - (intOf i).toNat)
  case atStart => exact ⟨0, ⟨[0], []⟩, .slice none 0 0, .slice none 0 0, rfl, Nat.zero_le _, by simp, HX, HLX0, rfl⟩
  case round =>
    clear HX HLX0
    obtain ⟨k, s, va, ve, rfl, hk, h64, HLN, HLX, HE⟩ := hrel
    obtain ⟨fa, fc, hfa, -, -, -⟩ := own_form2 HLN.out.fd
    subst hfa
    have KDr := Hid.of (KD3.out.below HLN.out.low KD3.out.lt)
    by_cases hlt : k < s.fd.length
    · obtain ⟨xi, hxi⟩ : ∃ xi, Hid (s.fd[k]? = some xi) := ⟨_, List.getElem?_eq_getElem hlt⟩
      have hxb := HLX.out.bd xi (List.mem_of_getElem? hxi.out)
      dsimp only at hxb
      obtain ⟨x, HXN⟩ : ∃ x : Nat, Hid (xi = (x : Int)) := ⟨xi.toNat, by show _ = _; omega⟩
      have hxn : x < n := by have := HXN.out; omega
      have HXX : Hid (s.fd[k]? = some (x : Int)) := by show _ = _; rw [hxi.out, HXN.out]
      clear hxi HXN hxb
      rcases Own.cells_of HLN.out.fd with ⟨-, hnil⟩ | ⟨g, cap, hv8, hg1, hg2, hcl, -⟩
      · rw [hnil] at hlt; simp at hlt
      cases hv8
      have cx : wr.cell? ⟨g, k, none⟩ = some (.int .i64 (x : Int)) := by
        have := hcl k hlt
        rw [Nat.zero_add] at this
        rw [this]
        have e1 := HXX.out
        rw [List.getD_eq_getElem?_getD, e1]; rfl
      obtain ⟨y0, y1, y2, y3, y4⟩ := mcell_at KDr.out
      dsimp only at y0 y1 y2 y3 y4
      have hltI : (k : Int) < (s.fd.length : Int) := by omega
      have hltD : decide ((k : Int) < (s.fd.length : Int)) = true := by simpa using hltI
      clear hcl
      go_wp2_with fail
      have KDd : Hid (Blk wr.drew bd 25 (mcells ⟨(n : Int), (ev : Int), [0], dar, dends⟩ ⟨d1, e1, d2, e2, d3, e3⟩)) := Blk.drew KDr.out
      have HLd := Hid.of (HLN.out.below (Below.refl _ wr).drew)
      refine wp_region_held_drew (S := fun w' => w'.cell? ⟨bd, 0, none⟩ = some (.int .i64 n) ∧ w'.cell? ⟨bd, 1, none⟩ = some (.int .i64 ev) ∧ w'.cell? ⟨bd, 2, none⟩ = some (.slice d1 1 e1) ∧ w'.cell? ⟨bd, 3, none⟩ = some (.slice d2 dar.length e2) ∧ w'.cell? ⟨bd, 4, none⟩ = some (.slice d3 dends.length e3) ∧ w'.cell? ⟨g, k, none⟩ = some (.int .i64 (x : Int))) (by kernel_rfl) ⟨y0, y1, y2, y3, y4, cx⟩ (fun hS => ?_)
      clear y0 y1 y2 y3 y4 cx KDr HLN hg2
      revert hS KDd HLd
      generalize wr.drew = Y
      intro KDd HLd hS
      refine wpAnyH_take (i := 0) (v := .pointer (some ⟨bd, 4, none⟩)) rfl (by kernel_rfl) (by kernel_rfl) (by kernel_rfl) (fun _ _ _ h => h) (Or.inl ⟨by kernel_rfl, fun w' hw' => by obtain ⟨q0, q1, q2, q3, q4, q5⟩ := hw'; go_simp⟩) hS ?_
      refine wpAnyH_take (i := 1) (v := .slice d3 dends.length e3) rfl (by kernel_rfl) (by kernel_rfl) (by kernel_rfl) (fun _ _ _ h => h) (Or.inl ⟨by kernel_rfl, fun w' hw' => by obtain ⟨q0, q1, q2, q3, q4, q5⟩ := hw'; go_simp⟩) hS ?_
      refine wpAnyH_take (i := 2) (v := .slice (some ⟨g, 0, none⟩) s.fd.length fc) rfl (by kernel_rfl) (by kernel_rfl) (by kernel_rfl) (fun _ _ _ h => h) (Or.inl ⟨by kernel_rfl, fun w' hw' => by obtain ⟨q0, q1, q2, q3, q4, q5⟩ := hw'; go_simp⟩) hS ?_
      refine wpAnyH_take (i := 3) (v := .int .i64 k) rfl (by kernel_rfl) (by kernel_rfl) (by kernel_rfl) (fun _ _ _ h => h) (Or.inl ⟨by kernel_rfl, fun w' hw' => by obtain ⟨q0, q1, q2, q3, q4, q5⟩ := hw'; go_simp⟩) hS ?_
      refine wpAnyH_take (i := 4) (v := .pointer (some ⟨g, k, none⟩)) rfl (by kernel_rfl) (by kernel_rfl) (by kernel_rfl) (fun _ _ _ h => h) (Or.inl ⟨by kernel_rfl, fun w' hw' => by obtain ⟨q0, q1, q2, q3, q4, q5⟩ := hw'; go_simp⟩) hS ?_
      refine wpAnyH_take (i := 5) (v := .int .i64 (x : Int)) rfl (by kernel_rfl) (by kernel_rfl) (by kernel_rfl) (fun _ _ _ h => h) (Or.inl ⟨by kernel_rfl, fun w' hw' => by obtain ⟨q0, q1, q2, q3, q4, q5⟩ := hw'; go_simp⟩) hS ?_
      simp only [Act.put, List.setIfInBounds_toArray]
      refine wpAnyH_ready (rs := [6]) (by kernel_rfl) (by simp) ?_
      refine AllReadyH.cons rfl (fun K' hK' => ?_) AllReadyH.nil
      go_simp
      refine (refHas_any d3 e3 dends (x : Int) Y (M3.out.e.below HLd.out.low (Nat.le_refl _)) (Nat.le_trans M3.out.e1 M3.out.e2)).mono ?_
      rintro r Y' ⟨rfl, rfl⟩
      refine hK'.out _ _ hS (fun hS1 => ?_)
      clear hK' K' hS hS1
      refine wpAnyH_done (by kernel_rfl) ?_ _
      have HTK := Hid.of (endsG_take (fun x => hasB dends x) s.fd 0 k HXX.out)
      obtain ⟨j0, ji, jz0, jz1, jz2⟩ := info_parts Tryd.infoInt
      cases hhas : hasB dends (x : Int) with
      | true =>
        have HTK2 : Hid (endsG (fun x => hasB dends x) 0 (s.fd.take (k + 1)) = endsG (fun x => hasB dends x) 0 (s.fd.take k) ++ [(k : Int)]) := by
          have := HTK.out
          show _ = _
          rw [this, if_pos hhas, Nat.zero_add]
        have hel : (endsG (fun x => hasB dends x) 0 (s.fd.take k)).length ≤ 64 := Nat.le_trans (endsG_len _ _ _) (by rw [List.length_take]; omega)
        have hB1 := HLd.out.hB
        obtain ⟨ga, gc, hga, -, -, -⟩ := own_form2 HLd.out.en
        subst hga
        have z4 : Y'.cell? ⟨V3.heap.size + 1, 4, none⟩ = some (.slice ga (endsG (fun x => hasB dends x) 0 (s.fd.take k)).length gc) := HLd.out.nb.cell 4 rfl
        revert HTK2 HLd hel z4
        generalize endsG (fun x => hasB dends x) 0 (s.fd.take k) = E0
        intro HTK2 hel HLd z4
        clear HTK hhas
        go_wp2_with (at_builtin; refine wpList_append_block _ rfl (.tmp 40) (.tmp 42) 22 rfl (V3.heap.size + 2) 3 j0 (.int .i64 0) 1 8 Tryd.underlying22 ji jz0 jz1 jz2 rfl (by decide) _ _ _ rfl (World.ownsRow.alloc HLd.out.en _) ⟨Y'.heap.size, 0, none⟩ 1 1 [.int .i64 (k : Int)] rfl rfl (cell_one_new _ _ _) (by intro u hu; simp at hu; subst hu; rfl) (by decide) (by unfold maxLen; omega) (by omega) (by simp; omega) ?_)
        intro v9 w9 o9 g9 n9
        have o9' : Own w9 (V3.heap.size + 2) v9 (E0 ++ [(k : Int)]) := by unfold Own; rw [List.length_append, List.map_append]; exact o9
        obtain ⟨nb2, ln2⟩ := LN.pushE HLd.out ((Below.refl _ _).alloc (Nat.le_refl _) _) o9' g9 (by rw [World.size_alloc]; exact n9)
        obtain ⟨pa, pc, hp9, -, -, -⟩ := own_form2 o9
        subst hp9
        have c4 := nb2.cell 4 rfl
        have c4f := nb2.frozen 4
        rw [← HTK2.out] at ln2
        have HLN := Hid.of ln2
        clear o9 o9' g9 n9 ln2 z4 HLd nb2
        go_wp2_with fail
        clear c4 c4f
        go_loopw [8, 10] (fun v8 i wr' => ∃ (e : Nat) (va : Value), i = .int .i64 e ∧ e ≤ ev ∧ Hid (LN V3 wr' V3.heap.size (ev : Int) v8 va (.slice pa (E0.length + 1) pc) (lRow dar (fun x y => T x.toNat y.toNat) k s e).fd (lRow dar (fun x y => T x.toNat y.toNat) k s e).ar (endsG (fun x => hasB dends x) 0 (s.fd.take (k + 1))))) (fun _ i _ => ev - (intOf i).toNat)
        case atStart => exact ⟨0, va, rfl, Nat.zero_le _, HLN⟩
        case round =>
          clear HLN
          obtain ⟨e, va, rfl, hee, HLN⟩ := hrel
          have HXe := Hid.of (LX.row HDD.out HAP.out rfl HLX.out hlt e hee)
          have HSuc : Hid (lRow dar (fun x y => T x.toNat y.toNat) k s (e + 1) = lStp dar (fun x y => T x.toNat y.toNat) k (lRow dar (fun x y => T x.toNat y.toNat) k s e) e) := lRow_succ _ _ _ _ _
          have HXk : Hid ((lRow dar (fun x y => T x.toNat y.toNat) k s e).fd[k]? = some (x : Int)) := by
            letI : DecidableEq Lang := fun a b => Classical.propDecidable _
            obtain ⟨t, ht⟩ := lRow_pre (ap := (fun x y => T x.toNat y.toNat)) dar k s e
            show _ = _
            rw [ht, List.getElem?_append_left hlt]
            exact HXX.out
          obtain ⟨s1, HS1⟩ : ∃ s1, Hid (s1 = lRow dar (fun x y => T x.toNat y.toNat) k s e) := ⟨_, rfl⟩
          rw [← HS1.out] at HLN HXe HSuc HXk
          have hl1 : s1.fd.length ≤ 64 := LX.len hm.out (show (st : Int) ≤ 6 by omega) rfl HXe.out
          have hk1 : k < s1.fd.length := (List.getElem?_eq_some_iff.1 HXk.out).1
          have harl : s1.ar.length ≤ 1024 := by
            rw [HXe.out.al]
            have : k * ev ≤ 64 * 8 := Nat.mul_le_mul (by omega) hev
            omega
          have KDr := Hid.of (KD3.out.below HLN.out.low KD3.out.lt)
          obtain ⟨y0, y1, y2, y3, y4⟩ := mcell_at KDr.out
          dsimp only at y0 y1 y2 y3 y4
          by_cases hle : e < ev
          · rcases Own.cells_of HLN.out.fd with ⟨-, hnil⟩ | ⟨g, cap, hv8, hg1, hg2, hcl, -⟩
            · rw [hnil] at hk1; simp at hk1
            subst hv8
            have cx : wr.cell? ⟨g, k, none⟩ = some (.int .i64 (x : Int)) := by
              have := hcl k hk1
              rw [Nat.zero_add] at this
              rw [this]
              have e1 := HXk.out
              rw [List.getD_eq_getElem?_getD, e1]; rfl
            have hto := toI_step (d := ⟨(n : Int), (ev : Int), [0], dar, dends⟩) HDD.out (s := (x : Int)) (e := (e : Int)) (by omega) (show (x : Int) < (n : Int) by omega) (by omega) (show (e : Int) < (ev : Int) by omega)
            dsimp only at hto
            obtain ⟨t, HT⟩ : ∃ t : Nat, Hid ((t : Int) = toI dar (x : Int) (e : Int)) := ⟨(toI dar (x : Int) (e : Int)).toNat, by show _ = _; omega⟩
            have htn : t < n := by have := HT.out; omega
            have HCL := Hid.of hcl
            clear hto hcl
            go_wp2_with fail
            have KDd : Hid (Blk wr.drew bd 25 (mcells ⟨(n : Int), (ev : Int), [0], dar, dends⟩ ⟨d1, e1, d2, e2, d3, e3⟩)) := Blk.drew KDr.out
            have HLd := Hid.of (HLN.out.below (Below.refl _ wr).drew)
            have cxd : wr.drew.cell? ⟨g, k, none⟩ = some (.int .i64 (x : Int)) := cx
            refine wp_region_held_drew (S := fun w' => w'.cell? ⟨bd, 0, none⟩ = some (.int .i64 n) ∧ w'.cell? ⟨bd, 1, none⟩ = some (.int .i64 ev) ∧ w'.cell? ⟨bd, 2, none⟩ = some (.slice d1 1 e1) ∧ w'.cell? ⟨bd, 3, none⟩ = some (.slice d2 dar.length e2) ∧ w'.cell? ⟨bd, 4, none⟩ = some (.slice d3 dends.length e3) ∧ w'.cell? ⟨g, k, none⟩ = some (.int .i64 (x : Int))) (by kernel_rfl) ⟨y0, y1, y2, y3, y4, cx⟩ (fun hS => ?_)
            clear y0 y1 y2 y3 y4 cx KDr HLN
            have HCd : Hid (Cells wr.drew g 0 s1.fd) := HCL.out
            have hgd : g < wr.drew.heap.size := hg2
            clear HCL hg2
            revert hS KDd HLd cxd HCd hgd
            generalize wr.drew = Y
            intro KDd HLd cxd hS HCd hgd
            refine wpAnyH_take (i := 0) (v := mval ⟨(n : Int), (ev : Int), [0], dar, dends⟩ ⟨d1, e1, d2, e2, d3, e3⟩) rfl (by kernel_rfl) (by kernel_rfl) (by kernel_rfl) (fun _ _ _ h => h) (Or.inl ⟨by kernel_rfl, fun w' hw' => by obtain ⟨q0, q1, q2, q3, q4, q5⟩ := hw'; go_simp⟩) hS ?_
            refine wpAnyH_take (i := 1) (v := .slice (some ⟨g, 0, none⟩) s1.fd.length cap) rfl (by kernel_rfl) (by kernel_rfl) (by kernel_rfl) (fun _ _ _ h => h) (Or.inl ⟨by kernel_rfl, fun w' hw' => by obtain ⟨q0, q1, q2, q3, q4, q5⟩ := hw'; go_simp⟩) hS ?_
            refine wpAnyH_take (i := 2) (v := .int .i64 k) rfl (by kernel_rfl) (by kernel_rfl) (by kernel_rfl) (fun _ _ _ h => h) (Or.inl ⟨by kernel_rfl, fun w' hw' => by obtain ⟨q0, q1, q2, q3, q4, q5⟩ := hw'; go_simp⟩) hS ?_
            refine wpAnyH_take (i := 3) (v := .pointer (some ⟨g, k, none⟩)) rfl (by kernel_rfl) (by kernel_rfl) (by kernel_rfl) (fun _ _ _ h => h) (Or.inl ⟨by kernel_rfl, fun w' hw' => by obtain ⟨q0, q1, q2, q3, q4, q5⟩ := hw'; go_simp⟩) hS ?_
            refine wpAnyH_take (i := 4) (v := .int .i64 (x : Int)) rfl (by kernel_rfl) (by kernel_rfl) (by kernel_rfl) (fun _ _ _ h => h) (Or.inl ⟨by kernel_rfl, fun w' hw' => by obtain ⟨q0, q1, q2, q3, q4, q5⟩ := hw'; go_simp⟩) hS ?_
            refine wpAnyH_take (i := 5) (v := .int .i64 e) rfl (by kernel_rfl) (by kernel_rfl) (by kernel_rfl) (fun _ _ _ h => h) (Or.inl ⟨by kernel_rfl, fun w' hw' => by obtain ⟨q0, q1, q2, q3, q4, q5⟩ := hw'; go_simp⟩) hS ?_
            simp only [Act.put, List.setIfInBounds_toArray]
            refine wpAnyH_ready (rs := [6]) (by kernel_rfl) (by simp) ?_
            refine AllReadyH.cons rfl (fun K' hK' => ?_) AllReadyH.nil
            go_simp
            refine (rTo_any ⟨(n : Int), (ev : Int), [0], dar, dends⟩ ⟨d1, e1, d2, e2, d3, e3⟩ (x : Int) (e : Int) Y (Hid.of (M3.out.below HLd.out.low (Nat.le_refl _))) HDD (Hid.of ⟨by omega, show (x : Int) < (n : Int) by omega⟩) (Hid.of ⟨by omega, show (e : Int) < (ev : Int) by omega⟩)).mono ?_
            rintro r Y1 ⟨rfl, hb⟩
            have HL1 := Hid.of (HLd.out.below hb)
            have KD1 := Hid.of (KDd.out.below hb KDd.out.lt)
            have HC1 : Hid (Cells Y1 g 0 s1.fd) := cells_block HCd.out (hb.block g hgd)
            have hg3 : Hid (g < Y1.heap.size) := Nat.lt_of_lt_of_le hgd hb.size
            have cx1 : Y1.cell? ⟨g, k, none⟩ = some (.int .i64 (x : Int)) := (hb.cell (p := ⟨g, k, none⟩) hgd).trans cxd
            rw [show toI (⟨(n : Int), (ev : Int), [0], dar, dends⟩ : Mach).arrows (x : Int) (e : Int) = (t : Int) from HT.out.symm]
            obtain ⟨y0, y1, y2, y3, y4⟩ := mcell_at KD1.out
            refine hK'.out _ _ ⟨y0, y1, y2, y3, y4, cx1⟩ (fun hS1 => ?_)
            clear hK' K' hb hS HLd KDd HCd hgd cxd y0 y1 y2 y3 y4 cx1
            refine wpAnyH_take (i := 7) (v := .int .i64 (t : Int)) rfl (by kernel_rfl) (by kernel_rfl) (by kernel_rfl) (fun _ _ _ h => h) (Or.inl ⟨by kernel_rfl, fun w' hw' => by obtain ⟨q0, q1, q2, q3, q4, q5⟩ := hw'; go_simp⟩) hS1 ?_
            refine wpAnyH_done (by kernel_rfl) ?_ _
            clear hS1
            obtain ⟨i0, hi, hz0, hz1, hz2⟩ := info_parts Tryd.infoArrow
            obtain ⟨j0, ji, jz0, jz1, jz2⟩ := info_parts Tryd.infoInt
            have HST : Hid (lStp dar (fun x y => T x.toNat y.toNat) k s1 e = ⟨if lFind (fun x y => T x.toNat y.toNat) s1.fd (t : Int) = s1.fd.length then s1.fd ++ [(t : Int)] else s1.fd, s1.ar ++ [⟨(k : Int), (e : Int), (lFind (fun x y => T x.toNat y.toNat) s1.fd (t : Int) : Nat)⟩]⟩) := by
              show _ = _
              unfold lStp
              rw [HXk.out, Option.getD_some, ← HT.out]
            go_wp2_with fail
            go_loopw [12] (fun i wr'' => ∃ c : Nat, i = .int .i64 c ∧ c ≤ s1.fd.length ∧ Hid (wr'' = Y1) ∧ Hid (∀ (j : Nat) (y : Int), j < c → s1.fd[j]? = some y → (fun x y => T x.toNat y.toNat) y (t : Int) = true)) (fun i _ => 65 - (intOf i).toNat)
            case atStart => exact ⟨0, rfl, Nat.zero_le _, rfl, fun j y hj => absurd hj (Nat.not_lt_zero _)⟩
            case round =>
              obtain ⟨c, rfl, hc, HW, HJ⟩ := hrel
              have hwr := HW.out
              subst hwr
              by_cases hcl : c < s1.fd.length
              · obtain ⟨y, hy⟩ : ∃ y, Hid (s1.fd[c]? = some y) := ⟨_, List.getElem?_eq_getElem hcl⟩
                have hyb := HXe.out.bd y (List.mem_of_getElem? hy.out)
                dsimp only at hyb
                obtain ⟨yn, HYN⟩ : ∃ yn : Nat, Hid (y = (yn : Int)) := ⟨y.toNat, by show _ = _; omega⟩
                have hyn : yn < n := by have := HYN.out; omega
                have cy : wr.cell? ⟨g, c, none⟩ = some (.int .i64 (yn : Int)) := by
                  have := HC1.out c hcl
                  rw [Nat.zero_add] at this
                  rw [this, List.getD_eq_getElem?_getD, hy.out, Option.getD_some, HYN.out]
                have pc : wr.cell? ⟨V2.heap.size + 1, yn, none⟩ = some (.slice (some ⟨q yn, 0, none⟩) n n) := by
                  have := HAT.out.pa.cell hyn
                  unfold rowV at this
                  rw [if_pos hyn] at this
                  exact (HL1.out.low.cell (p := ⟨V2.heap.size + 1, yn, none⟩) PA.out).trans this
                have rc : wr.cell? ⟨q yn, t, none⟩ = some (.bool (T yn t)) := by
                  have h1 := HAT.out.rw yn hyn
                  exact (HL1.out.low.cell (p := ⟨q yn, t, none⟩) h1.lt).trans (h1.cell htn)
                have hclI : (c : Int) < (s1.fd.length : Int) := by omega
                have hclD : decide ((c : Int) < (s1.fd.length : Int)) = true := by simpa using hclI
                have HTT : Hid ((fun x y => T x.toNat y.toNat) y (t : Int) = T yn t) := by show _ = _; dsimp only; rw [HYN.out]; simp
                clear hyb
                cases hB : T yn t with
                | true =>
                  rw [hB] at rc HTT
                  go_wp2_with fail
                  go_roundw
                  case rel => exact ⟨c + 1, by go_num, by omega, (by first | exact trivial | exact rfl), fun j z hj hz => (by
                    by_cases ej : j = c
                    · subst ej
                      rw [hy.out] at hz
                      have := Option.some.inj hz
                      subst this; exact HTT.out
                    · exact HJ.out j z (by omega) hz)⟩
                  case measure => simp [intOf]; omega
                | false =>
                  rw [hB] at rc HTT
                  have HF : Hid (lFind (fun x y => T x.toNat y.toNat) s1.fd (t : Int) = c) := lFind_hit HJ.out hy.out HTT.out
                  have HNX : Hid (lRow dar (fun x y => T x.toNat y.toNat) k s (e + 1) = ⟨s1.fd, s1.ar ++ [⟨(k : Int), (e : Int), (c : Int)⟩]⟩) := by
                    show _ = _
                    rw [HSuc.out, HST.out, HF.out, if_neg (by omega)]
                  have hce : ((c : Int) == (s1.fd.length : Int)) = false := by simp; omega
                  clear hB
                  have hB2 := HL1.out.hB
                  obtain ⟨ra1, rc1, hra, -, -, -⟩ := own_form2 HL1.out.ar
                  subst hra
                  have nbX := Hid.of (HL1.out.nb)
                  have z3 : wr.cell? ⟨V3.heap.size + 1, 3, none⟩ = some (.slice ra1 s1.ar.length rc1) := nbX.out.cell 3 rfl
                  go_wp2_with (at_builtin; refine wpList_append_arrs _ rfl (.tmp 85) (.tmp 90) 23 rfl (V3.heap.size + 2) i0 Tryd.underlying23 hi hz0 hz1 hz2 _ s1.ar rfl (World.ownsRow.alloc HL1.out.ar _) (some ⟨wr.heap.size, 0, none⟩) 1 [⟨(k : Int), (e : Int), (c : Int)⟩] rfl (atA_new _ _ ⟨(k : Int), (e : Int), (c : Int)⟩ _ rfl) (fun h => by cases h) (by simp; omega) (by simp; omega) ?_)
                  intro v8 w8 o8 g8 n8
                  obtain ⟨nb2, R1⟩ := LN.pushA HL1.out ((Below.refl _ _).alloc (Nat.le_refl _) _) o8 g8
                  obtain ⟨qa, qc, hq0, -, -, -⟩ := own_form2 o8
                  have hq : v8 = .slice qa (s1.ar.length + 1) qc := by rw [hq0]; simp only [List.length_append, List.length_cons, List.length_nil, Nat.zero_add]
                  clear hq0
                  subst hq
                  have R1' := Hid.of R1
                  have c3 := nb2.cell 3 rfl
                  have c3f := nb2.frozen 3
                  clear R1 o8 g8 n8 z3 nbX nb2
                  go_wp2_with fail
                  clear c3 c3f
                  go_roundw
                  case rel => exact ⟨e + 1, _, by go_num, by omega, (by show LN _ _ _ _ _ _ _ _ _ _; rw [HNX.out]; exact R1'.out)⟩
                  case measure => simp [intOf]; omega
              · have hc2 : c = s1.fd.length := by omega
                have HF : Hid (lFind (fun x y => T x.toNat y.toNat) s1.fd (t : Int) = s1.fd.length) := lFind_end (fun j y hy => HJ.out j y (by have := (List.getElem?_eq_some_iff.1 hy).1; omega) hy)
                have HNX : Hid (lRow dar (fun x y => T x.toNat y.toNat) k s (e + 1) = ⟨s1.fd ++ [(t : Int)], s1.ar ++ [⟨(k : Int), (e : Int), (c : Int)⟩]⟩) := by
                  show _ = _
                  rw [HSuc.out, HST.out, HF.out, if_pos rfl, hc2]
                have hclI : ¬ (c : Int) < (s1.fd.length : Int) := by omega
                have hclD : decide ((c : Int) < (s1.fd.length : Int)) = false := by simpa using hclI
                have hce : ((c : Int) == (s1.fd.length : Int)) = true := by simp; omega
                have HC2 := Hid.of hc2
                clear hc2
                have hB1 := HL1.out.hB
                go_wp2_with (at_builtin; refine wpList_append_block _ rfl (.tmp 80) (.tmp 82) 22 rfl (V3.heap.size + 2) 3 j0 (.int .i64 0) 1 8 Tryd.underlying22 ji jz0 jz1 jz2 rfl (by decide) _ _ _ rfl (World.ownsRow.alloc HL1.out.fd _) ⟨wr.heap.size, 0, none⟩ 1 1 [.int .i64 (t : Int)] rfl rfl (cell_one_new _ _ _) (by intro u hu; simp at hu; subst hu; rfl) (by decide) (by unfold maxLen; omega) (by omega) (by simp; omega) ?_)
                intro v9 w9 o9 g9 n9
                have o9' : Own w9 (V3.heap.size + 2) v9 (s1.fd ++ [(t : Int)]) := by unfold Own; rw [List.length_append, List.map_append]; exact o9
                have HL2 := Hid.of (LN.pushF HL1.out ((Below.refl _ _).alloc (Nat.le_refl _) _) o9' g9 (by rw [World.size_alloc]; exact n9))
                obtain ⟨pa, pc, hp9, -, -, -⟩ := own_form2 o9
                subst hp9
                clear o9 o9' g9 n9 HL1 HC1
                have hB2 := HL2.out.hB
                obtain ⟨ra1, rc1, hra, -, -, -⟩ := own_form2 HL2.out.ar
                subst hra
                have nbX := Hid.of (HL2.out.nb)
                have z3 : w9.cell? ⟨V3.heap.size + 1, 3, none⟩ = some (.slice ra1 s1.ar.length rc1) := nbX.out.cell 3 rfl
                go_wp2_with (at_builtin; refine wpList_append_arrs _ rfl (.tmp 85) (.tmp 90) 23 rfl (V3.heap.size + 2) i0 Tryd.underlying23 hi hz0 hz1 hz2 _ s1.ar rfl (World.ownsRow.alloc HL2.out.ar _) (some ⟨w9.heap.size, 0, none⟩) 1 [⟨(k : Int), (e : Int), (c : Int)⟩] rfl (atA_new _ _ ⟨(k : Int), (e : Int), (c : Int)⟩ _ rfl) (fun h => by cases h) (by simp; omega) (by simp; omega) ?_)
                intro v8 w8 o8 g8 n8
                obtain ⟨nb2, R1⟩ := LN.pushA HL2.out ((Below.refl _ _).alloc (Nat.le_refl _) _) o8 g8
                obtain ⟨qa, qc, hq0, -, -, -⟩ := own_form2 o8
                have hq : v8 = .slice qa (s1.ar.length + 1) qc := by rw [hq0]; simp only [List.length_append, List.length_cons, List.length_nil, Nat.zero_add]
                clear hq0
                subst hq
                have R1' := Hid.of R1
                have c3 := nb2.cell 3 rfl
                have c3f := nb2.frozen 3
                clear R1 o8 g8 n8 z3 nbX nb2
                go_wp2_with fail
                clear c3 c3f
                go_roundw
                case rel => exact ⟨e + 1, _, by go_num, by omega, (by show LN _ _ _ _ _ _ _ _ _ _; rw [HNX.out]; exact R1'.out)⟩
                case measure => simp [intOf]; omega
          · have hev2 : e = ev := by omega
            have HLN2 : Hid (LX ⟨(st : Int), (ev : Int), starts, ars, ends⟩ ⟨(n : Int), (ev : Int), [0], dar, dends⟩ ev ((k + 1) * ev) s1) := by
              have := HXe.out
              show LX _ _ _ _ _
              rw [Nat.succ_mul, ← hev2] at *
              exact this
            have HEN : Hid (lGo dar (fun x y => T x.toNat y.toNat) ev 65 0 ⟨[0], []⟩ = lGo dar (fun x y => T x.toNat y.toNat) ev (65 - (k + 1)) (k + 1) s1) := by
              show _ = _
              rw [HE.out, lGo_next hlt (by omega), show 65 - k - 1 = 65 - (k + 1) by omega, HS1.out, hev2]
            have HEE : Hid ((endsG (fun x => hasB dends x) 0 (s.fd.take (k + 1))) = endsG (fun x => hasB dends x) 0 (s1.fd.take (k + 1))) := by
              letI : DecidableEq Lang := fun a b => Classical.propDecidable _
              obtain ⟨t, ht⟩ := lRow_pre (ap := (fun x y => T x.toNat y.toNat)) dar k s e
              show _ = _
              rw [HS1.out]
              exact (endsG_pre _ _ ht (k + 1) (by omega)).symm
            have HLN3 := HLN
            rw [HEE.out] at HLN3
            clear hev2
            go_wp2_with fail
            go_roundw
            case rel => exact ⟨k + 1, s1, va, (.slice pa (E0.length + 1) pc), by go_num, by omega, hl1, HLN3, HLN2, HEN⟩
            case measure => simp [intOf]; omega
      | false =>
        have HTK2 : Hid (endsG (fun x => hasB dends x) 0 (s.fd.take (k + 1)) = endsG (fun x => hasB dends x) 0 (s.fd.take k)) := by
          have := HTK.out
          show _ = _
          rw [this, if_neg (by rw [hhas]; simp), List.append_nil]
        have HLN := HLd
        rw [← HTK2.out] at HLN
        clear HTK hhas HLd
        go_wp2_with fail
        go_loopw [8, 10] (fun v8 i wr' => ∃ (e : Nat) (va : Value), i = .int .i64 e ∧ e ≤ ev ∧ Hid (LN V3 wr' V3.heap.size (ev : Int) v8 va ve (lRow dar (fun x y => T x.toNat y.toNat) k s e).fd (lRow dar (fun x y => T x.toNat y.toNat) k s e).ar (endsG (fun x => hasB dends x) 0 (s.fd.take (k + 1))))) (fun _ i _ => ev - (intOf i).toNat)
        case atStart => exact ⟨0, va, rfl, Nat.zero_le _, HLN⟩
        case round =>
          clear HLN
          obtain ⟨e, va, rfl, hee, HLN⟩ := hrel
          have HXe := Hid.of (LX.row HDD.out HAP.out rfl HLX.out hlt e hee)
          have HSuc : Hid (lRow dar (fun x y => T x.toNat y.toNat) k s (e + 1) = lStp dar (fun x y => T x.toNat y.toNat) k (lRow dar (fun x y => T x.toNat y.toNat) k s e) e) := lRow_succ _ _ _ _ _
          have HXk : Hid ((lRow dar (fun x y => T x.toNat y.toNat) k s e).fd[k]? = some (x : Int)) := by
            letI : DecidableEq Lang := fun a b => Classical.propDecidable _
            obtain ⟨t, ht⟩ := lRow_pre (ap := (fun x y => T x.toNat y.toNat)) dar k s e
            show _ = _
            rw [ht, List.getElem?_append_left hlt]
            exact HXX.out
          obtain ⟨s1, HS1⟩ : ∃ s1, Hid (s1 = lRow dar (fun x y => T x.toNat y.toNat) k s e) := ⟨_, rfl⟩
          rw [← HS1.out] at HLN HXe HSuc HXk
          have hl1 : s1.fd.length ≤ 64 := LX.len hm.out (show (st : Int) ≤ 6 by omega) rfl HXe.out
          have hk1 : k < s1.fd.length := (List.getElem?_eq_some_iff.1 HXk.out).1
          have harl : s1.ar.length ≤ 1024 := by
            rw [HXe.out.al]
            have : k * ev ≤ 64 * 8 := Nat.mul_le_mul (by omega) hev
            omega
          have KDr := Hid.of (KD3.out.below HLN.out.low KD3.out.lt)
          obtain ⟨y0, y1, y2, y3, y4⟩ := mcell_at KDr.out
          dsimp only at y0 y1 y2 y3 y4
          by_cases hle : e < ev
          · rcases Own.cells_of HLN.out.fd with ⟨-, hnil⟩ | ⟨g, cap, hv8, hg1, hg2, hcl, -⟩
            · rw [hnil] at hk1; simp at hk1
            subst hv8
            have cx : wr.cell? ⟨g, k, none⟩ = some (.int .i64 (x : Int)) := by
              have := hcl k hk1
              rw [Nat.zero_add] at this
              rw [this]
              have e1 := HXk.out
              rw [List.getD_eq_getElem?_getD, e1]; rfl
            have hto := toI_step (d := ⟨(n : Int), (ev : Int), [0], dar, dends⟩) HDD.out (s := (x : Int)) (e := (e : Int)) (by omega) (show (x : Int) < (n : Int) by omega) (by omega) (show (e : Int) < (ev : Int) by omega)
            dsimp only at hto
            obtain ⟨t, HT⟩ : ∃ t : Nat, Hid ((t : Int) = toI dar (x : Int) (e : Int)) := ⟨(toI dar (x : Int) (e : Int)).toNat, by show _ = _; omega⟩
            have htn : t < n := by have := HT.out; omega
            have HCL := Hid.of hcl
            clear hto hcl
            go_wp2_with fail
            have KDd : Hid (Blk wr.drew bd 25 (mcells ⟨(n : Int), (ev : Int), [0], dar, dends⟩ ⟨d1, e1, d2, e2, d3, e3⟩)) := Blk.drew KDr.out
            have HLd := Hid.of (HLN.out.below (Below.refl _ wr).drew)
            have cxd : wr.drew.cell? ⟨g, k, none⟩ = some (.int .i64 (x : Int)) := cx
            refine wp_region_held_drew (S := fun w' => w'.cell? ⟨bd, 0, none⟩ = some (.int .i64 n) ∧ w'.cell? ⟨bd, 1, none⟩ = some (.int .i64 ev) ∧ w'.cell? ⟨bd, 2, none⟩ = some (.slice d1 1 e1) ∧ w'.cell? ⟨bd, 3, none⟩ = some (.slice d2 dar.length e2) ∧ w'.cell? ⟨bd, 4, none⟩ = some (.slice d3 dends.length e3) ∧ w'.cell? ⟨g, k, none⟩ = some (.int .i64 (x : Int))) (by kernel_rfl) ⟨y0, y1, y2, y3, y4, cx⟩ (fun hS => ?_)
            clear y0 y1 y2 y3 y4 cx KDr HLN
            have HCd : Hid (Cells wr.drew g 0 s1.fd) := HCL.out
            have hgd : g < wr.drew.heap.size := hg2
            clear HCL hg2
            revert hS KDd HLd cxd HCd hgd
            generalize wr.drew = Y
            intro KDd HLd cxd hS HCd hgd
            refine wpAnyH_take (i := 0) (v := mval ⟨(n : Int), (ev : Int), [0], dar, dends⟩ ⟨d1, e1, d2, e2, d3, e3⟩) rfl (by kernel_rfl) (by kernel_rfl) (by kernel_rfl) (fun _ _ _ h => h) (Or.inl ⟨by kernel_rfl, fun w' hw' => by obtain ⟨q0, q1, q2, q3, q4, q5⟩ := hw'; go_simp⟩) hS ?_
            refine wpAnyH_take (i := 1) (v := .slice (some ⟨g, 0, none⟩) s1.fd.length cap) rfl (by kernel_rfl) (by kernel_rfl) (by kernel_rfl) (fun _ _ _ h => h) (Or.inl ⟨by kernel_rfl, fun w' hw' => by obtain ⟨q0, q1, q2, q3, q4, q5⟩ := hw'; go_simp⟩) hS ?_
            refine wpAnyH_take (i := 2) (v := .int .i64 k) rfl (by kernel_rfl) (by kernel_rfl) (by kernel_rfl) (fun _ _ _ h => h) (Or.inl ⟨by kernel_rfl, fun w' hw' => by obtain ⟨q0, q1, q2, q3, q4, q5⟩ := hw'; go_simp⟩) hS ?_
            refine wpAnyH_take (i := 3) (v := .pointer (some ⟨g, k, none⟩)) rfl (by kernel_rfl) (by kernel_rfl) (by kernel_rfl) (fun _ _ _ h => h) (Or.inl ⟨by kernel_rfl, fun w' hw' => by obtain ⟨q0, q1, q2, q3, q4, q5⟩ := hw'; go_simp⟩) hS ?_
            refine wpAnyH_take (i := 4) (v := .int .i64 (x : Int)) rfl (by kernel_rfl) (by kernel_rfl) (by kernel_rfl) (fun _ _ _ h => h) (Or.inl ⟨by kernel_rfl, fun w' hw' => by obtain ⟨q0, q1, q2, q3, q4, q5⟩ := hw'; go_simp⟩) hS ?_
            refine wpAnyH_take (i := 5) (v := .int .i64 e) rfl (by kernel_rfl) (by kernel_rfl) (by kernel_rfl) (fun _ _ _ h => h) (Or.inl ⟨by kernel_rfl, fun w' hw' => by obtain ⟨q0, q1, q2, q3, q4, q5⟩ := hw'; go_simp⟩) hS ?_
            simp only [Act.put, List.setIfInBounds_toArray]
            refine wpAnyH_ready (rs := [6]) (by kernel_rfl) (by simp) ?_
            refine AllReadyH.cons rfl (fun K' hK' => ?_) AllReadyH.nil
            go_simp
            refine (rTo_any ⟨(n : Int), (ev : Int), [0], dar, dends⟩ ⟨d1, e1, d2, e2, d3, e3⟩ (x : Int) (e : Int) Y (Hid.of (M3.out.below HLd.out.low (Nat.le_refl _))) HDD (Hid.of ⟨by omega, show (x : Int) < (n : Int) by omega⟩) (Hid.of ⟨by omega, show (e : Int) < (ev : Int) by omega⟩)).mono ?_
            rintro r Y1 ⟨rfl, hb⟩
            have HL1 := Hid.of (HLd.out.below hb)
            have KD1 := Hid.of (KDd.out.below hb KDd.out.lt)
            have HC1 : Hid (Cells Y1 g 0 s1.fd) := cells_block HCd.out (hb.block g hgd)
            have hg3 : Hid (g < Y1.heap.size) := Nat.lt_of_lt_of_le hgd hb.size
            have cx1 : Y1.cell? ⟨g, k, none⟩ = some (.int .i64 (x : Int)) := (hb.cell (p := ⟨g, k, none⟩) hgd).trans cxd
            rw [show toI (⟨(n : Int), (ev : Int), [0], dar, dends⟩ : Mach).arrows (x : Int) (e : Int) = (t : Int) from HT.out.symm]
            obtain ⟨y0, y1, y2, y3, y4⟩ := mcell_at KD1.out
            refine hK'.out _ _ ⟨y0, y1, y2, y3, y4, cx1⟩ (fun hS1 => ?_)
            clear hK' K' hb hS HLd KDd HCd hgd cxd y0 y1 y2 y3 y4 cx1
            refine wpAnyH_take (i := 7) (v := .int .i64 (t : Int)) rfl (by kernel_rfl) (by kernel_rfl) (by kernel_rfl) (fun _ _ _ h => h) (Or.inl ⟨by kernel_rfl, fun w' hw' => by obtain ⟨q0, q1, q2, q3, q4, q5⟩ := hw'; go_simp⟩) hS1 ?_
            refine wpAnyH_done (by kernel_rfl) ?_ _
            clear hS1
            obtain ⟨i0, hi, hz0, hz1, hz2⟩ := info_parts Tryd.infoArrow
            obtain ⟨j0, ji, jz0, jz1, jz2⟩ := info_parts Tryd.infoInt
            have HST : Hid (lStp dar (fun x y => T x.toNat y.toNat) k s1 e = ⟨if lFind (fun x y => T x.toNat y.toNat) s1.fd (t : Int) = s1.fd.length then s1.fd ++ [(t : Int)] else s1.fd, s1.ar ++ [⟨(k : Int), (e : Int), (lFind (fun x y => T x.toNat y.toNat) s1.fd (t : Int) : Nat)⟩]⟩) := by
              show _ = _
              unfold lStp
              rw [HXk.out, Option.getD_some, ← HT.out]
            go_wp2_with fail
            go_loopw [12] (fun i wr'' => ∃ c : Nat, i = .int .i64 c ∧ c ≤ s1.fd.length ∧ Hid (wr'' = Y1) ∧ Hid (∀ (j : Nat) (y : Int), j < c → s1.fd[j]? = some y → (fun x y => T x.toNat y.toNat) y (t : Int) = true)) (fun i _ => 65 - (intOf i).toNat)
            case atStart => exact ⟨0, rfl, Nat.zero_le _, rfl, fun j y hj => absurd hj (Nat.not_lt_zero _)⟩
            case round =>
              obtain ⟨c, rfl, hc, HW, HJ⟩ := hrel
              have hwr := HW.out
              subst hwr
              by_cases hcl : c < s1.fd.length
              · obtain ⟨y, hy⟩ : ∃ y, Hid (s1.fd[c]? = some y) := ⟨_, List.getElem?_eq_getElem hcl⟩
                have hyb := HXe.out.bd y (List.mem_of_getElem? hy.out)
                dsimp only at hyb
                obtain ⟨yn, HYN⟩ : ∃ yn : Nat, Hid (y = (yn : Int)) := ⟨y.toNat, by show _ = _; omega⟩
                have hyn : yn < n := by have := HYN.out; omega
                have cy : wr.cell? ⟨g, c, none⟩ = some (.int .i64 (yn : Int)) := by
                  have := HC1.out c hcl
                  rw [Nat.zero_add] at this
                  rw [this, List.getD_eq_getElem?_getD, hy.out, Option.getD_some, HYN.out]
                have pc : wr.cell? ⟨V2.heap.size + 1, yn, none⟩ = some (.slice (some ⟨q yn, 0, none⟩) n n) := by
                  have := HAT.out.pa.cell hyn
                  unfold rowV at this
                  rw [if_pos hyn] at this
                  exact (HL1.out.low.cell (p := ⟨V2.heap.size + 1, yn, none⟩) PA.out).trans this
                have rc : wr.cell? ⟨q yn, t, none⟩ = some (.bool (T yn t)) := by
                  have h1 := HAT.out.rw yn hyn
                  exact (HL1.out.low.cell (p := ⟨q yn, t, none⟩) h1.lt).trans (h1.cell htn)
                have hclI : (c : Int) < (s1.fd.length : Int) := by omega
                have hclD : decide ((c : Int) < (s1.fd.length : Int)) = true := by simpa using hclI
                have HTT : Hid ((fun x y => T x.toNat y.toNat) y (t : Int) = T yn t) := by show _ = _; dsimp only; rw [HYN.out]; simp
                clear hyb
                cases hB : T yn t with
                | true =>
                  rw [hB] at rc HTT
                  go_wp2_with fail
                  go_roundw
                  case rel => exact ⟨c + 1, by go_num, by omega, (by first | exact trivial | exact rfl), fun j z hj hz => (by
                    by_cases ej : j = c
                    · subst ej
                      rw [hy.out] at hz
                      have := Option.some.inj hz
                      subst this; exact HTT.out
                    · exact HJ.out j z (by omega) hz)⟩
                  case measure => simp [intOf]; omega
                | false =>
                  rw [hB] at rc HTT
                  have HF : Hid (lFind (fun x y => T x.toNat y.toNat) s1.fd (t : Int) = c) := lFind_hit HJ.out hy.out HTT.out
                  have HNX : Hid (lRow dar (fun x y => T x.toNat y.toNat) k s (e + 1) = ⟨s1.fd, s1.ar ++ [⟨(k : Int), (e : Int), (c : Int)⟩]⟩) := by
                    show _ = _
                    rw [HSuc.out, HST.out, HF.out, if_neg (by omega)]
                  have hce : ((c : Int) == (s1.fd.length : Int)) = false := by simp; omega
                  clear hB
                  have hB2 := HL1.out.hB
                  obtain ⟨ra1, rc1, hra, -, -, -⟩ := own_form2 HL1.out.ar
                  subst hra
                  have nbX := Hid.of (HL1.out.nb)
                  have z3 : wr.cell? ⟨V3.heap.size + 1, 3, none⟩ = some (.slice ra1 s1.ar.length rc1) := nbX.out.cell 3 rfl
                  go_wp2_with (at_builtin; refine wpList_append_arrs _ rfl (.tmp 85) (.tmp 90) 23 rfl (V3.heap.size + 2) i0 Tryd.underlying23 hi hz0 hz1 hz2 _ s1.ar rfl (World.ownsRow.alloc HL1.out.ar _) (some ⟨wr.heap.size, 0, none⟩) 1 [⟨(k : Int), (e : Int), (c : Int)⟩] rfl (atA_new _ _ ⟨(k : Int), (e : Int), (c : Int)⟩ _ rfl) (fun h => by cases h) (by simp; omega) (by simp; omega) ?_)
                  intro v8 w8 o8 g8 n8
                  obtain ⟨nb2, R1⟩ := LN.pushA HL1.out ((Below.refl _ _).alloc (Nat.le_refl _) _) o8 g8
                  obtain ⟨qa, qc, hq0, -, -, -⟩ := own_form2 o8
                  have hq : v8 = .slice qa (s1.ar.length + 1) qc := by rw [hq0]; simp only [List.length_append, List.length_cons, List.length_nil, Nat.zero_add]
                  clear hq0
                  subst hq
                  have R1' := Hid.of R1
                  have c3 := nb2.cell 3 rfl
                  have c3f := nb2.frozen 3
                  clear R1 o8 g8 n8 z3 nbX nb2
                  go_wp2_with fail
                  clear c3 c3f
                  go_roundw
                  case rel => exact ⟨e + 1, _, by go_num, by omega, (by show LN _ _ _ _ _ _ _ _ _ _; rw [HNX.out]; exact R1'.out)⟩
                  case measure => simp [intOf]; omega
              · have hc2 : c = s1.fd.length := by omega
                have HF : Hid (lFind (fun x y => T x.toNat y.toNat) s1.fd (t : Int) = s1.fd.length) := lFind_end (fun j y hy => HJ.out j y (by have := (List.getElem?_eq_some_iff.1 hy).1; omega) hy)
                have HNX : Hid (lRow dar (fun x y => T x.toNat y.toNat) k s (e + 1) = ⟨s1.fd ++ [(t : Int)], s1.ar ++ [⟨(k : Int), (e : Int), (c : Int)⟩]⟩) := by
                  show _ = _
                  rw [HSuc.out, HST.out, HF.out, if_pos rfl, hc2]
                have hclI : ¬ (c : Int) < (s1.fd.length : Int) := by omega
                have hclD : decide ((c : Int) < (s1.fd.length : Int)) = false := by simpa using hclI
                have hce : ((c : Int) == (s1.fd.length : Int)) = true := by simp; omega
                have HC2 := Hid.of hc2
                clear hc2
                have hB1 := HL1.out.hB
                go_wp2_with (at_builtin; refine wpList_append_block _ rfl (.tmp 80) (.tmp 82) 22 rfl (V3.heap.size + 2) 3 j0 (.int .i64 0) 1 8 Tryd.underlying22 ji jz0 jz1 jz2 rfl (by decide) _ _ _ rfl (World.ownsRow.alloc HL1.out.fd _) ⟨wr.heap.size, 0, none⟩ 1 1 [.int .i64 (t : Int)] rfl rfl (cell_one_new _ _ _) (by intro u hu; simp at hu; subst hu; rfl) (by decide) (by unfold maxLen; omega) (by omega) (by simp; omega) ?_)
                intro v9 w9 o9 g9 n9
                have o9' : Own w9 (V3.heap.size + 2) v9 (s1.fd ++ [(t : Int)]) := by unfold Own; rw [List.length_append, List.map_append]; exact o9
                have HL2 := Hid.of (LN.pushF HL1.out ((Below.refl _ _).alloc (Nat.le_refl _) _) o9' g9 (by rw [World.size_alloc]; exact n9))
                obtain ⟨pa, pc, hp9, -, -, -⟩ := own_form2 o9
                subst hp9
                clear o9 o9' g9 n9 HL1 HC1
                have hB2 := HL2.out.hB
                obtain ⟨ra1, rc1, hra, -, -, -⟩ := own_form2 HL2.out.ar
                subst hra
                have nbX := Hid.of (HL2.out.nb)
                have z3 : w9.cell? ⟨V3.heap.size + 1, 3, none⟩ = some (.slice ra1 s1.ar.length rc1) := nbX.out.cell 3 rfl
                go_wp2_with (at_builtin; refine wpList_append_arrs _ rfl (.tmp 85) (.tmp 90) 23 rfl (V3.heap.size + 2) i0 Tryd.underlying23 hi hz0 hz1 hz2 _ s1.ar rfl (World.ownsRow.alloc HL2.out.ar _) (some ⟨w9.heap.size, 0, none⟩) 1 [⟨(k : Int), (e : Int), (c : Int)⟩] rfl (atA_new _ _ ⟨(k : Int), (e : Int), (c : Int)⟩ _ rfl) (fun h => by cases h) (by simp; omega) (by simp; omega) ?_)
                intro v8 w8 o8 g8 n8
                obtain ⟨nb2, R1⟩ := LN.pushA HL2.out ((Below.refl _ _).alloc (Nat.le_refl _) _) o8 g8
                obtain ⟨qa, qc, hq0, -, -, -⟩ := own_form2 o8
                have hq : v8 = .slice qa (s1.ar.length + 1) qc := by rw [hq0]; simp only [List.length_append, List.length_cons, List.length_nil, Nat.zero_add]
                clear hq0
                subst hq
                have R1' := Hid.of R1
                have c3 := nb2.cell 3 rfl
                have c3f := nb2.frozen 3
                clear R1 o8 g8 n8 z3 nbX nb2
                go_wp2_with fail
                clear c3 c3f
                go_roundw
                case rel => exact ⟨e + 1, _, by go_num, by omega, (by show LN _ _ _ _ _ _ _ _ _ _; rw [HNX.out]; exact R1'.out)⟩
                case measure => simp [intOf]; omega
          · have hev2 : e = ev := by omega
            have HLN2 : Hid (LX ⟨(st : Int), (ev : Int), starts, ars, ends⟩ ⟨(n : Int), (ev : Int), [0], dar, dends⟩ ev ((k + 1) * ev) s1) := by
              have := HXe.out
              show LX _ _ _ _ _
              rw [Nat.succ_mul, ← hev2] at *
              exact this
            have HEN : Hid (lGo dar (fun x y => T x.toNat y.toNat) ev 65 0 ⟨[0], []⟩ = lGo dar (fun x y => T x.toNat y.toNat) ev (65 - (k + 1)) (k + 1) s1) := by
              show _ = _
              rw [HE.out, lGo_next hlt (by omega), show 65 - k - 1 = 65 - (k + 1) by omega, HS1.out, hev2]
            have HEE : Hid ((endsG (fun x => hasB dends x) 0 (s.fd.take (k + 1))) = endsG (fun x => hasB dends x) 0 (s1.fd.take (k + 1))) := by
              letI : DecidableEq Lang := fun a b => Classical.propDecidable _
              obtain ⟨t, ht⟩ := lRow_pre (ap := (fun x y => T x.toNat y.toNat)) dar k s e
              show _ = _
              rw [HS1.out]
              exact (endsG_pre _ _ ht (k + 1) (by omega)).symm
            have HLN3 := HLN
            rw [HEE.out] at HLN3
            clear hev2
            go_wp2_with fail
            go_roundw
            case rel => exact ⟨k + 1, s1, va, ve, by go_num, by omega, hl1, HLN3, HLN2, HEN⟩
            case measure => simp [intOf]; omega
    · have hk2 : k = s.fd.length := by omega
      have HEND : Hid (lGo dar (fun x y => T x.toNat y.toNat) ev 65 0 ⟨[0], []⟩ = s) := by show _ = _; rw [HE.out, lGo_end hlt]
      obtain ⟨E, HEE⟩ : ∃ E, Hid (E = endsG (fun x => hasB dends x) 0 s.fd) := ⟨_, rfl⟩
      have HIS : Hid (IsLeast ⟨(st : Int), (ev : Int), starts, ars, ends⟩ ⟨(s.fd.length : Int), (ev : Int), [0], s.ar, E⟩) := by
        intro inst
        have := HLR.out (fun x y => T x.toNat y.toNat) HAP.out
        unfold leastR lM at this
        dsimp only at this
        rw [Int.toNat_natCast, HEND.out] at this
        rw [HEE.out]
        exact this
      have hEt : s.fd.take k = s.fd := by rw [hk2]; exact List.take_of_length_le (Nat.le_refl _)
      rw [hEt, ← HEE.out] at HLN
      clear hEt hk2 HEND HE HEE
      have hltI : ¬ (k : Int) < (s.fd.length : Int) := by omega
      have hltD : decide ((k : Int) < (s.fd.length : Int)) = false := by simpa using hltI
      have hB1 := HLN.out.hB
      have lw := P2.out
      have lb := KD3.out.lt
      obtain ⟨ra, rc, hra, hr1, hr2, hr3⟩ := OwnA.at HLN.out.ar
      subst hra
      obtain ⟨ea, ec, hea, he1, he2, he3, he4⟩ := Own.at2 HLN.out.en
      subst hea
      have nbX := HLN.out.nb
      have z0 : wr.cell? ⟨V3.heap.size + 1, 0, none⟩ = some (.int .i64 0) := nbX.cell 0 rfl
      have zf := nbX.frozen
      obtain ⟨W1, HW1⟩ : ∃ W1, Hid (W1 = wr.setCell ⟨V3.heap.size + 1, 0, none⟩ (.int .i64 (s.fd.length : Int))) := ⟨_, rfl⟩
      have nb1 : Blk W1 (V3.heap.size + 1) 25 (rcells (s.fd.length : Int) (ev : Int) V3.heap.size (.slice ra s.ar.length rc) (.slice ea E.length ec)) := by rw [HW1.out]; exact nbX.set 0 _
      have rb1 : Blk W1 (w.heap.size + 1) 25 zcells := by rw [HW1.out]; exact Blk.other (R3.out.below HLN.out.low (by omega)) (by omega) _
      have bl1 : Below w.heap.size w W1 := by rw [HW1.out]; exact (B3.out.trans (HLN.out.low.mono B3.out.size)).setCell (p := ⟨V3.heap.size + 1, 0, none⟩) (show w.heap.size ≤ V3.heap.size + 1 by omega) _
      have s01 : Blk W1 V3.heap.size 3 #[.int .i64 0] := by rw [HW1.out]; exact Blk.other HLN.out.s0 (by omega) _
      have ar1 : OwnA W1 (V3.heap.size + 2) (.slice ra s.ar.length rc) s.ar := by rw [HW1.out]; exact ownsRow_set HLN.out.ar (by omega) _
      have en1 : Own W1 (V3.heap.size + 2) (.slice ea E.length ec) E := by rw [HW1.out]; exact ownsRow_set HLN.out.en (by omega) _
      have hMX : MAt W1 ⟨(s.fd.length : Int), (ev : Int), [0], s.ar, E⟩ ⟨some ⟨V3.heap.size, 0, none⟩, 1, ra, rc, ea, ec⟩ := by
        obtain ⟨ra', rc', e1, yt, y1, y2, y3⟩ := OwnA.at ar1
        cases e1
        obtain ⟨ea', ec', e2, xt, x1, x2, x3⟩ := Own.at2 en1
        cases e2
        refine ⟨.inr ⟨V3.heap.size, 0, rfl, s01.lt, fun j hj => ?_⟩, yt, xt, Nat.le_refl _, (show (1 : Nat) ≤ maxLen by decide), (fun h => by cases h), y1, y2, y3, x1, x2, x3⟩
        have hj : j = 0 := by simp at hj; exact hj
        subst hj
        exact s01.cell 0 rfl
      have hFX : FrM (w.heap.size + 2) ⟨(s.fd.length : Int), (ev : Int), [0], s.ar, E⟩ ⟨some ⟨V3.heap.size, 0, none⟩, 1, ra, rc, ea, ec⟩ := by
        refine ⟨.inr ⟨V3.heap.size, 0, rfl, by omega⟩, ?_, ?_⟩
        · rcases OwnA.fr ar1 with h0 | ⟨b, off, e1, e2⟩
          · exact .inl h0
          · exact .inr ⟨b, off, e1, by omega⟩
        · rcases Own.fr en1 with h0 | ⟨b, off, e1, e2⟩
          · exact .inl h0
          · exact .inr ⟨b, off, e1, by omega⟩
      have LF := Hid.of (lleaf bl1 rb1 hMX hFX)
      have z1 : wr.cell? ⟨V3.heap.size + 1, 1, none⟩ = some (.int .i64 (ev : Int)) := nbX.cell 1 rfl
      have z2 : wr.cell? ⟨V3.heap.size + 1, 2, none⟩ = some (.slice (some ⟨V3.heap.size, 0, none⟩) 1 1) := nbX.cell 2 rfl
      have z3 : wr.cell? ⟨V3.heap.size + 1, 3, none⟩ = some (.slice ra s.ar.length rc) := nbX.cell 3 rfl
      have z4 : wr.cell? ⟨V3.heap.size + 1, 4, none⟩ = some (.slice ea E.length ec) := nbX.cell 4 rfl
      have rb0 : Blk wr (w.heap.size + 1) 25 zcells := R3.out.below HLN.out.low (by omega)
      obtain ⟨r0, r1, r2, r3, r4⟩ := zcell_at rb0
      have rz := rb0.frozen
      have hne1 : ¬ w.heap.size = V3.heap.size := by omega
      have hne2 : ¬ V3.heap.size = w.heap.size := by omega
      rw [HW1.out] at LF
      clear nb1 rb1 bl1 s01 ar1 en1 hMX hFX nbX he1 he2 he3 he4 hr1 hr2 hr3 HLN rb0 HW1 W1
      go_wp2_with fail
      refine bodyPost_ret (v := mval ⟨(s.fd.length : Int), (ev : Int), [0], s.ar, E⟩ ⟨some ⟨V3.heap.size, 0, none⟩, 1, ra, rc, ea, ec⟩) ?_ rfl ⟨_, _, rfl, HIS.out, LF.out.2.1, LF.out.2.2⟩
      exact results_cell_row (g := w.heap.size + 1) (p := 2) rfl _ _ _ _ _ _ rfl LF.out.1 Tryd.underlying25 rfl (by kernel_rfl)

theorem rLea_any (m : Mach) (l : ML) (w : World) (h : MAt w m l) (hm : mayB m = true) (z : m.st ≤ 6) :
    Calls Tryd.prog 42 #[mval m l] w fun e w' => RLeaPost w m e w' := by
  have hz := mayB_size hm
  unfold sizeOk at hz
  obtain ⟨st, ev, starts, ars, ends⟩ := m
  obtain ⟨a1, c1, a2, c2, a3, c3⟩ := l
  dsimp only at z hz
  obtain ⟨s, rfl⟩ : ∃ s : Nat, st = (s : Int) := ⟨st.toNat, by omega⟩
  obtain ⟨e, rfl⟩ : ∃ e : Nat, ev = (e : Int) := ⟨ev.toNat, by omega⟩
  exact rlea_go s e starts ars ends a1 c1 a2 c2 a3 c3 w (Hid.of h) (Hid.of hm) (by omega)

end Go.Proofs.YtbdkaobbfmgnhaaDoor
namespace Go.Proofs.YtbdkaobbfmgnhaaDoor
open Go.RowKit
set_option linter.unusedVariables false

set_option maxRecDepth 100000 in
set_option maxHeartbeats 8000000 in
theorem lmakes_any (m : Mach) (l : ML) (w : World) (hT : Hid (Tab w)) (h : Hid (MAt w m l)) :
    Calls Tryd.prog 10 #[mval m l] w fun e w' => e = .returned (.bool true) ∧ Below w.heap.size w w' := by
  have B : Hid (Below w.heap.size w (w.alloc (.cells (mcells m l) 25))) := (Below.refl _ _).alloc (Nat.le_refl _) _
  have KM : Hid (Blk (w.alloc (.cells (mcells m l) 25)) w.heap.size 25 (mcells m l)) := Blk.new w _ _
  go_enter Tryd.func10, Tryd.ntmps10
  go_wp2_with fail
  revert B KM
  generalize (w.alloc (.cells (mcells m l) 25)) = V0
  intro B KM
  refine (pLeast_any m l V0 (h.out.below B.out (Nat.le_refl _)) (hT.out.below B.out hT.out.lt)).mono ?_
  rintro e W1 ⟨M, L, c, ho, rfl, mt, hb⟩
  replace B := Hid.of (B.out.trans (hb.mono B.out.size))
  replace KM := Hid.of (KM.out.below hb KM.out.lt)
  clear hb
  have HO := Hid.of ho
  have MT := Hid.of mt
  clear ho mt
  have hb : Below W1.heap.size W1 (W1.alloc (.cells (mcells M L) 25)) := (Below.refl _ _).alloc (Nat.le_refl _) _
  replace B := Hid.of (B.out.trans (hb.mono B.out.size))
  replace KM := Hid.of (KM.out.below hb KM.out.lt)
  replace MT := Hid.of (MT.out.below hb (Nat.le_refl _))
  clear hb
  have KL := Hid.of (Blk.new W1 25 (mcells M L))
  obtain ⟨x0, x1, x2, x3, x4⟩ := mcell_at KM.out
  go_wp2_with fail
  clear x0 x1 x2 x3 x4
  revert B KM MT KL
  show Hid (Below w.heap.size w (W1.alloc (.cells #[.int .i64 M.st, .int .i64 M.ev, .slice L.a1 M.starts.length L.c1, .slice L.a2 M.arrows.length L.c2, .slice L.a3 M.ends.length L.c3] 25))) → _
  generalize W1.alloc (.cells #[.int .i64 M.st, .int .i64 M.ev, .slice L.a1 M.starts.length L.c1, .slice L.a2 M.arrows.length L.c2, .slice L.a3 M.ends.length L.c3] 25) = W2
  generalize W1.heap.size = p1
  intro B KM MT KL
  refine (refMay_any m l _ (h.out.below B.out (Nat.le_refl _))).mono ?_
  rintro e W3 ⟨rfl, hb⟩
  replace B := Hid.of (B.out.trans (hb.mono B.out.size))
  replace KM := Hid.of (KM.out.below hb KM.out.lt)
  replace MT := Hid.of (MT.out.below hb (Nat.le_refl _))
  replace KL := Hid.of (KL.out.below hb KL.out.lt)
  clear hb
  cases hm : mayB m with
  | false =>
    obtain ⟨e1, e2⟩ := HO.out.bad hm
    subst e1; subst e2
    clear hm HO
    obtain ⟨y0, y1, y2, y3, y4⟩ := mcell_at KL.out
    go_wp2_with fail
    clear y0 y1 y2 y3 y4
    refine (machines_any m0 m0 L ml0 _ MT.out (mat0 _)).mono ?_
    rintro e W4 ⟨rfl, hb⟩
    replace B := Hid.of (B.out.trans (hb.mono B.out.size))
    replace KM := Hid.of (KM.out.below hb KM.out.lt)
    replace MT := Hid.of (MT.out.below hb (Nat.le_refl _))
    replace KL := Hid.of (KL.out.below hb KL.out.lt)
    clear hb
    rw [sameM_self]
    go_wp2_with fail
    go_ret
    exact ⟨rfl, B.out⟩
  | true =>
    by_cases hs : 6 < m.st
    · obtain ⟨e1, e2⟩ := HO.out.big hm hs
      subst e1; subst e2
      have hsD : decide ((6 : Int) < m.st) = true := by simpa using hs
      clear hm HO
      obtain ⟨x0, x1, x2, x3, x4⟩ := mcell_at KM.out
      obtain ⟨y0, y1, y2, y3, y4⟩ := mcell_at KL.out
      go_wp2_with fail
      clear x0 x1 x2 x3 x4 y0 y1 y2 y3 y4
      refine (machines_any m0 m0 L ml0 _ MT.out (mat0 _)).mono ?_
      rintro e W4 ⟨rfl, hb⟩
      replace B := Hid.of (B.out.trans (hb.mono B.out.size))
      replace KM := Hid.of (KM.out.below hb KM.out.lt)
      replace MT := Hid.of (MT.out.below hb (Nat.le_refl _))
      replace KL := Hid.of (KL.out.below hb KL.out.lt)
      clear hb
      rw [sameM_self]
      go_wp2_with fail
      go_ret
      exact ⟨rfl, B.out⟩
    · obtain ⟨e1, HL⟩ := HO.out.ok hm (by omega)
      subst e1
      have HIL := Hid.of HL
      have hsD : decide ((6 : Int) < m.st) = false := by simpa using hs
      have hs6 : m.st ≤ 6 := by omega
      have HM := Hid.of hm
      clear hm HO HL
      obtain ⟨x0, x1, x2, x3, x4⟩ := mcell_at KM.out
      obtain ⟨y0, y1, y2, y3, y4⟩ := mcell_at KL.out
      go_wp2_with fail
      clear x0 x1 x2 x3 x4 y0 y1 y2 y3 y4
      refine (rLea_any m l _ (h.out.below B.out (Nat.le_refl _)) HM.out hs6).mono ?_
      rintro e W4 ⟨N, LN, rfl, hl2, mt2, hb⟩
      replace B := Hid.of (B.out.trans (hb.mono B.out.size))
      replace KM := Hid.of (KM.out.below hb KM.out.lt)
      replace MT := Hid.of (MT.out.below hb (Nat.le_refl _))
      replace KL := Hid.of (KL.out.below hb KL.out.lt)
      clear hb
      have e3 : N = M := hl2.one HIL.out
      subst e3
      have MT2 := Hid.of mt2
      clear mt2 hl2
      have hb : Below W4.heap.size W4 (W4.alloc (.cells (mcells N LN) 25)) := (Below.refl _ _).alloc (Nat.le_refl _) _
      replace B := Hid.of (B.out.trans (hb.mono B.out.size))
      replace KM := Hid.of (KM.out.below hb KM.out.lt)
      replace MT := Hid.of (MT.out.below hb (Nat.le_refl _))
      replace KL := Hid.of (KL.out.below hb KL.out.lt)
      replace MT2 := Hid.of (MT2.out.below hb (Nat.le_refl _))
      clear hb
      have KN := Hid.of (Blk.new W4 25 (mcells N LN))
      obtain ⟨y0, y1, y2, y3, y4⟩ := mcell_at KL.out
      go_wp2_with fail
      clear y0 y1 y2 y3 y4
      revert B KM MT KL MT2 KN
      show Hid (Below w.heap.size w (W4.alloc (.cells #[.int .i64 N.st, .int .i64 N.ev, .slice LN.a1 N.starts.length LN.c1, .slice LN.a2 N.arrows.length LN.c2, .slice LN.a3 N.ends.length LN.c3] 25))) → _
      generalize W4.alloc (.cells #[.int .i64 N.st, .int .i64 N.ev, .slice LN.a1 N.starts.length LN.c1, .slice LN.a2 N.arrows.length LN.c2, .slice LN.a3 N.ends.length LN.c3] 25) = W5
      generalize W4.heap.size = p2
      intro B KM MT KL MT2 KN
      refine (machines_any N N L LN _ MT.out MT2.out).mono ?_
      rintro e W6 ⟨rfl, hb⟩
      replace B := Hid.of (B.out.trans (hb.mono B.out.size))
      replace KM := Hid.of (KM.out.below hb KM.out.lt)
      replace MT := Hid.of (MT.out.below hb (Nat.le_refl _))
      replace KL := Hid.of (KL.out.below hb KL.out.lt)
      replace MT2 := Hid.of (MT2.out.below hb (Nat.le_refl _))
      replace KN := Hid.of (KN.out.below hb KN.out.lt)
      clear hb
      rw [sameM_self]
      go_wp2_with fail
      go_ret
      exact ⟨rfl, B.out⟩

end Go.Proofs.YtbdkaobbfmgnhaaDoor
