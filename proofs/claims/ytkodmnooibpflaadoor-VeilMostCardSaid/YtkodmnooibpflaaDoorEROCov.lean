/-
 The walk of jalousieref15.Covers.
-/
import Derived.Deep.RegionHeld3
import Derived.Deep.QuietTactic
import Derived.Deep.RegionWith
import Derived.BigQuiet
import Derived.Test.YtkodmnooibpflaaDoorI15
import Derived.Test.YtkodmnooibpflaaDoorI39
namespace Go.Proofs.YtkodmnooibpflaaDoor
open Go.RowKit
set_option linter.unusedVariables false

/-- What Covers knows of the memory. -/
structure CO (w W : World) (p : Plant) (P : PTL) (o : Mach) (lo : ML) (v : VS) (L : VL) (vl : Value) (l : List Bo) : Prop where
 ow : OwnCO w.heap.size W w.heap.size vl l
 bel : Below w.heap.size w W
 kp : Blk W w.heap.size 44 (ptcells p P)
 kv : Blk W (w.heap.size + 1) 60 (vcells v L)
 ko : Blk W (w.heap.size + 2) 25 (mcells o lo)
theorem CO.below {w W W' : World} {p : Plant} {P : PTL} {o : Mach} {lo : ML} {v : VS} {L : VL} {vl : Value} {l : List Bo} (h : CO w W p P o lo v L vl l) (hb : Below W.heap.size W W') : CO w W' p P o lo v L vl l :=
 ⟨h.ow.below hb h.bel.size, h.bel.trans (hb.mono h.bel.size), h.kp.below hb h.kp.lt, h.kv.below hb h.kv.lt, h.ko.below hb h.ko.lt⟩
theorem CO.drewN {w W : World} {p : Plant} {P : PTL} {o : Mach} {lo : ML} {v : VS} {L : VL} {vl : Value} {l : List Bo} (h : CO w W p P o lo v L vl l) (r : Nat) : CO w (W.drewN r) p P o lo v L vl l := h.below (below_drewN (Below.refl _ _) r)
theorem CO.push {w W W2 : World} {p : Plant} {P : PTL} {o : Mach} {lo : ML} {v : VS} {L : VL} {vl vl' z : Value} {l : List Bo} {x : Bo} {vs : List Value} (h : CO w W p P o lo v L vl l) (ho : W.ownsRow w.heap.size 137 3 vl l.length vs) (hi : ∀ (k : Nat) (x : Bo), l[k]? = some x → vs[k * 3]? = some (.int .i64 x.1.1) ∧ (∃ z, vs[k * 3 + 1]? = some z ∧ InnW w.heap.size W z x.1.2) ∧ vs[k * 3 + 2]? = some (.int .i64 (x.2 : Int))) (hz : InnW w.heap.size W z x.1.2) (o1 : W2.ownsRow w.heap.size 137 3 vl' (l.length + 1) (vs ++ [.int .i64 x.1.1, z, .int .i64 (x.2 : Int)])) (g : W.grownBy W2 vl.ownBlock) : CO w W2 p P o lo v L vl' (l ++ [x]) := by
 have hty : ∀ (q : Nat) (cs : Array Value) (t : TypeId), t ≠ 137 → W.heap[q]? = some (.cells cs t (0, 0)) → W2.heap[q]? = W.heap[q]? := fun q cs t ht hq => g.block q (Array.getElem?_eq_some_iff.1 hq).1 (fun e => by
  obtain ⟨c2, h2⟩ := own_type ho e.symm
  rw [hq] at h2; cases h2; exact ht rfl)
 exact ⟨OwnCO.push (Nat.le_refl _) h.bel.size ho hi hz o1 g, h.bel.grown g h.bel.size (fun j hj => (World.ownsRow.lt ho j hj).1), (hty _ _ _ (by decide) h.kp).trans h.kp, (hty _ _ _ (by decide) h.kv).trans h.kv, (hty _ _ _ (by decide) h.ko).trans h.ko⟩
def noneC (l : List Bo) (k : Nat) (x : Bo) : Prop := ∀ (j : Nat) (y : Bo), j < k → l[j]? = some y → y ≠ x
theorem noneC_succ {l : List Bo} {k : Nat} {y x : Bo} (h0 : Hid (noneC l k x)) (h : Hid (l[k]? = some y)) (h1 : Hid (y ≠ x)) : Hid (noneC l (k + 1) x) := fun j q hj hq => by
 by_cases e : j < k
 ·exact h0.out j q e hq
 ·have : j = k := by omega
  subst this
  rw [h.out] at hq
  have := Option.some.inj hq
  subst this
  exact h1.out
theorem noneC_nodup {l : List Bo} {k : Nat} {x : Bo} (h : l.Nodup) (h0 : noneC l k x) (hk : l.length ≤ k) : (l ++ [x]).Nodup := by
 rw [List.nodup_append]
 refine ⟨h, by simp, fun a ha b hb e => ?_⟩
 rw [List.mem_singleton] at hb
 obtain ⟨i, hi⟩ := List.mem_iff_getElem?.1 ha
 exact h0 i a (Nat.lt_of_lt_of_le (List.getElem?_eq_some_iff.1 hi).1 hk) hi (e.trans hb)

set_option maxRecDepth 100000 in
set_option maxHeartbeats 16000000 in
theorem rocov_go (p : Plant) (Pl : ML) (sa : Option Addr) (sc : Nat) (ta : Option Addr) (tc : Nat) (o : Mach) (lo : ML) (v : VS) (L : VL) (J : Bo → Prop) (s0 : Int) (w : World) (hp : Hid (PAt w p ⟨Pl, sa, sc, ta, tc⟩)) (ho : Hid (MAt w o lo)) (hv : Hid (VAt w v L)) (hm : Hid (mayB p.m = true)) (hmo : Hid (mayB o = true)) (z6 : Hid (p.m.st ≤ 6)) (zo : Hid (o.st ≤ 6)) (hJ : Hid (CovJ p o v J)) (h0 : Hid (J ((s0, o.starts), 0))) (hst : Hid (p.m.starts[0]? = some s0)) :
  Calls Tryd.prog 50 #[ptval p ⟨Pl, sa, sc, ta, tc⟩, vval v L, mval o lo] w fun e w' => e = .returned (.bool true) ∧ Below w.heap.size w w' := by
 obtain ⟨la1, lb1, la2, lb2, la3, lb3⟩ := Pl
 have hz := mayB_size hm.out
 have hz2' := mayB_size hmo.out
 unfold sizeOk at hz hz2'
 have hl1 : Hid (p.m.arrows.length ≤ 4096) := show _ ≤ _ by omega
 have hl2 : Hid (o.arrows.length ≤ 4096) := show _ ≤ _ by omega
 obtain ⟨ev, HEV⟩ : ∃ ev : Nat, Hid (p.m.ev = (ev : Int)) := ⟨p.m.ev.toNat, by show _ = _; omega⟩
 have hev8 : ev ≤ 8 := by have := HEV.out; omega
 clear hz hz2'
 have hvl : v.1.length ≤ 64 := hv.out.nl
 have hvp : 0 < v.1.length := by have := (hJ.out.ok _ h0.out).2; omega
 have hvD : ((v.1.length : Int) == 0) = false := by
  have : ¬ (v.1.length : Int) = 0 := by omega
  simpa using this
 obtain ⟨i0, hi, hz0, hz1, hz2⟩ := info_parts Tryd.infoBo
 have HVB : Hid (Below w.heap.size w (((w.alloc (.cells (ptcells p ⟨⟨la1, lb1, la2, lb2, la3, lb3⟩, sa, sc, ta, tc⟩) 44)).alloc (.cells (vcells v L) 60)).alloc (.cells (mcells o lo) 25))) := (((Below.refl _ _).alloc (Nat.le_refl _) _).alloc (by simp) _).alloc (by simp; omega) _
 have KP : Hid (Blk (((w.alloc (.cells (ptcells p ⟨⟨la1, lb1, la2, lb2, la3, lb3⟩, sa, sc, ta, tc⟩) 44)).alloc (.cells (vcells v L) 60)).alloc (.cells (mcells o lo) 25)) w.heap.size 44 (ptcells p ⟨⟨la1, lb1, la2, lb2, la3, lb3⟩, sa, sc, ta, tc⟩)) := ((Blk.new w _ _).alloc _).alloc _
 have KV : Hid (Blk (((w.alloc (.cells (ptcells p ⟨⟨la1, lb1, la2, lb2, la3, lb3⟩, sa, sc, ta, tc⟩) 44)).alloc (.cells (vcells v L) 60)).alloc (.cells (mcells o lo) 25)) (w.heap.size + 1) 60 (vcells v L)) := by
  have := (Blk.new (w.alloc (.cells (ptcells p ⟨⟨la1, lb1, la2, lb2, la3, lb3⟩, sa, sc, ta, tc⟩) 44)) 60 (vcells v L)).alloc (.cells (mcells o lo) 25)
  rwa [World.size_alloc] at this
 have KO : Hid (Blk (((w.alloc (.cells (ptcells p ⟨⟨la1, lb1, la2, lb2, la3, lb3⟩, sa, sc, ta, tc⟩) 44)).alloc (.cells (vcells v L) 60)).alloc (.cells (mcells o lo) 25)) (w.heap.size + 2) 25 (mcells o lo)) := by
  have := Blk.new ((w.alloc (.cells (ptcells p ⟨⟨la1, lb1, la2, lb2, la3, lb3⟩, sa, sc, ta, tc⟩) 44)).alloc (.cells (vcells v L) 60)) 25 (mcells o lo)
  rwa [World.size_alloc, World.size_alloc] at this
 have hs1 : 0 < p.m.starts.length := (List.getElem?_eq_some_iff.1 hst.out).1
 have hsI : (0 : Int) < (p.m.starts.length : Int) := by omega
 rcases hp.out.m.s with h00 | ⟨b0, f0, ha0, hb0, hc0⟩
 ·exact absurd h00 (by intro q; rw [q] at hs1; simp at hs1)
 dsimp only at ha0
 subst ha0
 have HB0 := Hid.of hb0
 have CS0 : Hid (w.cell? ⟨b0, f0, none⟩ = some (.int .i64 s0)) := by
  have := hc0 0 hs1
  rw [List.getD_eq_getElem?_getD, hst.out, Nat.add_zero] at this
  exact this
 clear hb0 hc0
 obtain ⟨u0, u1⟩ := vcell_at KV.out
 go_enter Tryd.func50, Tryd.ntmps50
 go_wp2_with fail
 clear u0 u1
 revert HVB KP KV KO
 generalize (((w.alloc (.cells (ptcells p ⟨⟨some ⟨b0, f0, none⟩, lb1, la2, lb2, la3, lb3⟩, sa, sc, ta, tc⟩) 44)).alloc (.cells (vcells v L) 60)).alloc (.cells (mcells o lo) 25)) = V0
 intro HVB KP KV KO
 have SA : Hid (∀ W, Below V0.heap.size V0 W → W.cell? ⟨w.heap.size, 0, none⟩ = some (.int .i64 p.m.st) ∧ W.cell? ⟨w.heap.size, 1, none⟩ = some (.int .i64 p.m.ev) ∧ W.cell? ⟨w.heap.size, 2, none⟩ = some (.slice (some ⟨b0, f0, none⟩) p.m.starts.length lb1) ∧ W.cell? ⟨w.heap.size, 3, none⟩ = some (.slice la2 p.m.arrows.length lb2) ∧ W.cell? ⟨w.heap.size, 4, none⟩ = some (.slice la3 p.m.ends.length lb3) ∧ W.cell? ⟨w.heap.size, 5, none⟩ = some (.slice sa p.seen.length sc) ∧ W.cell? ⟨w.heap.size, 6, none⟩ = some (.slice ta p.secret.length tc) ∧ W.cell? ⟨w.heap.size + 1, 0, none⟩ = some (.slice L.na v.1.length L.nc) ∧ W.cell? ⟨w.heap.size + 1, 1, none⟩ = some (.slice L.ma v.2.length L.mc) ∧ W.cell? ⟨w.heap.size + 2, 0, none⟩ = some (.int .i64 o.st) ∧ W.cell? ⟨w.heap.size + 2, 1, none⟩ = some (.int .i64 o.ev) ∧ W.cell? ⟨w.heap.size + 2, 2, none⟩ = some (.slice lo.a1 o.starts.length lo.c1) ∧ W.cell? ⟨w.heap.size + 2, 3, none⟩ = some (.slice lo.a2 o.arrows.length lo.c2) ∧ W.cell? ⟨w.heap.size + 2, 4, none⟩ = some (.slice lo.a3 o.ends.length lo.c3) ∧ W.cell? ⟨b0, f0, none⟩ = some (.int .i64 s0)) := fun W hb => by
  obtain ⟨x0, x1, x2, x3, x4, x5, x6⟩ := ptcell_at (KP.out.below hb KP.out.lt)
  obtain ⟨u0, u1⟩ := vcell_at (KV.out.below hb KV.out.lt)
  obtain ⟨y0, y1, y2, y3, y4⟩ := mcell_at (KO.out.below hb KO.out.lt)
  exact ⟨x0, x1, x2, x3, x4, x5, x6, u0, u1, y0, y1, y2, y3, y4, ((HVB.out.trans (hb.mono HVB.out.size)).cell (p := ⟨b0, f0, none⟩) HB0.out).trans CS0.out⟩
 refine wp_region_held_drew (S := fun w' => w'.cell? ⟨w.heap.size, 0, none⟩ = some (.int .i64 p.m.st) ∧ w'.cell? ⟨w.heap.size, 1, none⟩ = some (.int .i64 p.m.ev) ∧ w'.cell? ⟨w.heap.size, 2, none⟩ = some (.slice (some ⟨b0, f0, none⟩) p.m.starts.length lb1) ∧ w'.cell? ⟨w.heap.size, 3, none⟩ = some (.slice la2 p.m.arrows.length lb2) ∧ w'.cell? ⟨w.heap.size, 4, none⟩ = some (.slice la3 p.m.ends.length lb3) ∧ w'.cell? ⟨w.heap.size, 5, none⟩ = some (.slice sa p.seen.length sc) ∧ w'.cell? ⟨w.heap.size, 6, none⟩ = some (.slice ta p.secret.length tc) ∧ w'.cell? ⟨w.heap.size + 1, 0, none⟩ = some (.slice L.na v.1.length L.nc) ∧ w'.cell? ⟨w.heap.size + 1, 1, none⟩ = some (.slice L.ma v.2.length L.mc) ∧ w'.cell? ⟨w.heap.size + 2, 0, none⟩ = some (.int .i64 o.st) ∧ w'.cell? ⟨w.heap.size + 2, 1, none⟩ = some (.int .i64 o.ev) ∧ w'.cell? ⟨w.heap.size + 2, 2, none⟩ = some (.slice lo.a1 o.starts.length lo.c1) ∧ w'.cell? ⟨w.heap.size + 2, 3, none⟩ = some (.slice lo.a2 o.arrows.length lo.c2) ∧ w'.cell? ⟨w.heap.size + 2, 4, none⟩ = some (.slice lo.a3 o.ends.length lo.c3) ∧ w'.cell? ⟨b0, f0, none⟩ = some (.int .i64 s0)) (by kernel_rfl) (SA.out _ (Below.refl _ _).drew) (fun hS => ?_)
 have HY : Hid (Below V0.heap.size V0 V0.drew) := (Below.refl _ _).drew
 revert hS HY
 generalize V0.drew = Y0
 intro hS HY
 refine tkH 0 (.pointer (some ⟨w.heap.size, 0, none⟩)) rfl (fun w' hw' => by obtain ⟨q0, q1, q2, q3, q4, q5, q6, q7, q8, q9, q10, q11, q12, q13, q14⟩ := hw'; go_simp) hS ?_
 refine tkH 1 (.pointer (some ⟨w.heap.size, 2, none⟩)) rfl (fun w' hw' => by obtain ⟨q0, q1, q2, q3, q4, q5, q6, q7, q8, q9, q10, q11, q12, q13, q14⟩ := hw'; go_simp) hS ?_
 refine tkH 2 (.slice (some ⟨b0, f0, none⟩) p.m.starts.length lb1) rfl (fun w' hw' => by obtain ⟨q0, q1, q2, q3, q4, q5, q6, q7, q8, q9, q10, q11, q12, q13, q14⟩ := hw'; go_simp) hS ?_
 refine tkH 3 (.pointer (some ⟨b0, f0, none⟩)) rfl (fun w' hw' => by obtain ⟨q0, q1, q2, q3, q4, q5, q6, q7, q8, q9, q10, q11, q12, q13, q14⟩ := hw'; go_simp) hS ?_
 refine tkH 4 (.int .i64 s0) rfl (fun w' hw' => by obtain ⟨q0, q1, q2, q3, q4, q5, q6, q7, q8, q9, q10, q11, q12, q13, q14⟩ := hw'; go_simp) hS ?_
 refine tkH 5 (.pointer (some ⟨w.heap.size + 2, 2, none⟩)) rfl (fun w' hw' => by obtain ⟨q0, q1, q2, q3, q4, q5, q6, q7, q8, q9, q10, q11, q12, q13, q14⟩ := hw'; go_simp) hS ?_
 refine tkH 6 (.slice lo.a1 o.starts.length lo.c1) rfl (fun w' hw' => by obtain ⟨q0, q1, q2, q3, q4, q5, q6, q7, q8, q9, q10, q11, q12, q13, q14⟩ := hw'; go_simp) hS ?_
 refine tkH 7 (.agg #[.int .i64 s0, .slice lo.a1 o.starts.length lo.c1]) rfl (fun w' hw' => by obtain ⟨q0, q1, q2, q3, q4, q5, q6, q7, q8, q9, q10, q11, q12, q13, q14⟩ := hw'; go_simp) hS ?_
 refine tkH 8 (.agg #[.int .i64 s0, .slice lo.a1 o.starts.length lo.c1, .int .i64 0]) rfl (fun w' hw' => by obtain ⟨q0, q1, q2, q3, q4, q5, q6, q7, q8, q9, q10, q11, q12, q13, q14⟩ := hw'; go_simp) hS ?_
 simp only [Act.put, List.setIfInBounds_toArray]
 refine wpAnyH_ready (rs := [9]) (by kernel_rfl) (by simp) ?_
 refine AllReadyH.cons rfl (fun K' hK' => ?_) AllReadyH.nil
 clear hS
 go_simp
 have hb : Below Y0.heap.size Y0 (Y0.alloc (.cells #[.int .i64 s0, .slice lo.a1 o.starts.length lo.c1, .int .i64 0] 137)) := (Below.refl _ _).alloc (Nat.le_refl _) _
 have HL0 : Hid (CO w (Y0.alloc (.cells #[.int .i64 s0, .slice lo.a1 o.starts.length lo.c1, .int .i64 0] 137)) p ⟨⟨some ⟨b0, f0, none⟩, lb1, la2, lb2, la3, lb3⟩, sa, sc, ta, tc⟩ o lo v L (.slice (some ⟨Y0.heap.size, 0, none⟩) 1 1) [((s0, o.starts), 0)]) := by
  have b2 := HVB.out.trans (HY.out.mono HVB.out.size)
  exact ⟨ownCO_one (nd := 0) (innW_at ho.out.s (Nat.le_trans ho.out.s1 ho.out.s2) ho.out.s3 b2) b2.size b2.size, b2.trans (hb.mono b2.size), (KP.out.below HY.out KP.out.lt).below hb (KP.out.below HY.out KP.out.lt).lt, (KV.out.below HY.out KV.out.lt).below hb (KV.out.below HY.out KV.out.lt).lt, (KO.out.below HY.out KO.out.lt).below hb (KO.out.below HY.out KO.out.lt).lt⟩
 replace HY := Hid.of (HY.out.trans (hb.mono HY.out.size))
 refine hK'.out _ _ (SA.out _ HY.out) (fun hS => ?_)
 clear hK' K' hb
 revert HL0 HY hS
 generalize Y0.alloc (.cells #[.int .i64 s0, .slice lo.a1 o.starts.length lo.c1, .int .i64 0] 137) = Y1
 generalize Y0.heap.size = sb
 intro HL0 HY hS
 refine tkH 10 (.slice (some ⟨sb, 0, none⟩) 1 1) rfl (fun w' hw' => by obtain ⟨q0, q1, q2, q3, q4, q5, q6, q7, q8, q9, q10, q11, q12, q13, q14⟩ := hw'; go_simp) hS ?_
 refine wpAnyH_done (by kernel_rfl) ?_ _
 clear hS HY SA HVB KP KO KV
 go_wp2_with fail
 go_loopw [7, 8] (fun v7 i wr => ∃ (k : Nat) (l : List Bo), i = .int .i64 (k : Int) ∧ k ≤ l.length ∧ Hid (CO w wr p ⟨⟨some ⟨b0, f0, none⟩, lb1, la2, lb2, la3, lb3⟩, sa, sc, ta, tc⟩ o lo v L v7 l) ∧ Hid (l.Nodup ∧ ∀ x ∈ l, J x)) (fun _ i _ => 24577 - (intOf i).toNat)
 case atStart => exact ⟨0, _, rfl, by simp, HL0, ⟨by simp, fun x hx => by rw [List.mem_singleton.1 hx]; exact h0.out⟩⟩
 case round =>
  clear HL0
  obtain ⟨k, l, rfl, hk, HW, HNI⟩ := hrel
  have hll : l.length ≤ 24576 := nodup_lenB hJ.out z6.out zo.out hvl HNI.out.1 HNI.out.2
  obtain ⟨la, lc, hv7⟩ := HW.out.ow.form
  subst hv7
  by_cases hlt : k < l.length
  ·have hkD : decide ((k : Int) < (l.length : Int)) = true := by simp; omega
   obtain ⟨⟨⟨ym, ys⟩, yn⟩, HLK⟩ : ∃ y, Hid (l[k]? = some y) := ⟨_, List.getElem?_eq_getElem hlt⟩
   have HJY : Hid (J ((ym, ys), yn)) := HNI.out.2 _ (List.mem_of_getElem? HLK.out)
   go_wp2_with fail
   clear hkD
   go_loopw [7, 9] (fun v7 i wr' => ∃ (j : Nat) (l : List Bo), i = .int .i64 (j : Int) ∧ j ≤ ev ∧ Hid (l[k]? = some ((ym, ys), yn)) ∧ Hid (CO w wr' p ⟨⟨some ⟨b0, f0, none⟩, lb1, la2, lb2, la3, lb3⟩, sa, sc, ta, tc⟩ o lo v L v7 l) ∧ Hid (l.Nodup ∧ ∀ x ∈ l, J x)) (fun _ i _ => ev - (intOf i).toNat)
   case atStart => exact ⟨0, l, rfl, Nat.zero_le _, HLK, HW, HNI⟩
   case round =>
    clear HW HNI HLK
    obtain ⟨W1, hW1⟩ : ∃ W : World, W = wr := ⟨_, rfl⟩
    obtain ⟨j, l, rfl, hj, HCY, HW, HNI⟩ := hrel
    rw [← hW1] at HW ⊢
    clear hW1
    have hll : l.length ≤ 24576 := nodup_lenB hJ.out z6.out zo.out hvl HNI.out.1 HNI.out.2
    have hkc : k < l.length := (List.getElem?_eq_some_iff.1 HCY.out).1
    have HBW := Hid.of HW.out.bel
    obtain ⟨x0, x1, x2, x3, x4, x5, x6⟩ := ptcell_at HW.out.kp
    obtain ⟨g, cp, sy, sk, eg, hg, c1q, c2q, c3q, i1, i2, -⟩ := HW.out.ow.get HCY.out
    subst eg
    by_cases hjl : j < ev
    ·have hjD : decide ((j : Int) < p.m.ev) = true := by rw [HEV.out]; simp; omega
     dsimp only at c1q c2q c3q i1 i2
     go_wp2_with fail
     clear x0 x1 x2 x3 x4 x5 x6 hjD
     have I1 := Hid.of i1
     have I2 := Hid.of i2
     have HG := Hid.of hg
     have C1 := Hid.of c1q
     have C2 := Hid.of c2q
     have C3 := Hid.of c3q
     clear c1q c2q c3q i1 i2 hg
     have SA : Hid (∀ W, Below W1.heap.size W1 W → W.cell? ⟨w.heap.size, 0, none⟩ = some (.int .i64 p.m.st) ∧ W.cell? ⟨w.heap.size, 1, none⟩ = some (.int .i64 p.m.ev) ∧ W.cell? ⟨w.heap.size, 2, none⟩ = some (.slice (some ⟨b0, f0, none⟩) p.m.starts.length lb1) ∧ W.cell? ⟨w.heap.size, 3, none⟩ = some (.slice la2 p.m.arrows.length lb2) ∧ W.cell? ⟨w.heap.size, 4, none⟩ = some (.slice la3 p.m.ends.length lb3) ∧ W.cell? ⟨w.heap.size, 5, none⟩ = some (.slice sa p.seen.length sc) ∧ W.cell? ⟨w.heap.size, 6, none⟩ = some (.slice ta p.secret.length tc) ∧ W.cell? ⟨w.heap.size + 1, 0, none⟩ = some (.slice L.na v.1.length L.nc) ∧ W.cell? ⟨w.heap.size + 1, 1, none⟩ = some (.slice L.ma v.2.length L.mc) ∧ W.cell? ⟨w.heap.size + 2, 0, none⟩ = some (.int .i64 o.st) ∧ W.cell? ⟨w.heap.size + 2, 1, none⟩ = some (.int .i64 o.ev) ∧ W.cell? ⟨w.heap.size + 2, 2, none⟩ = some (.slice lo.a1 o.starts.length lo.c1) ∧ W.cell? ⟨w.heap.size + 2, 3, none⟩ = some (.slice lo.a2 o.arrows.length lo.c2) ∧ W.cell? ⟨w.heap.size + 2, 4, none⟩ = some (.slice lo.a3 o.ends.length lo.c3) ∧ W.cell? ⟨g, k * 3, none⟩ = some (.int .i64 ym) ∧ W.cell? ⟨g, k * 3 + 1, none⟩ = some (.slice sy ys.length sk) ∧ W.cell? ⟨g, k * 3 + 2, none⟩ = some (.int .i64 (yn : Int))) := fun W hb => by
      have q := HW.out.below hb
      obtain ⟨x0, x1, x2, x3, x4, x5, x6⟩ := ptcell_at q.kp
      obtain ⟨u0, u1⟩ := vcell_at q.kv
      obtain ⟨y0, y1, y2, y3, y4⟩ := mcell_at q.ko
      exact ⟨x0, x1, x2, x3, x4, x5, x6, u0, u1, y0, y1, y2, y3, y4, (hb.cell (p := ⟨g, k * 3, none⟩) HG.out).trans C1.out, (hb.cell (p := ⟨g, k * 3 + 1, none⟩) HG.out).trans C2.out, (hb.cell (p := ⟨g, k * 3 + 2, none⟩) HG.out).trans C3.out⟩
     have hk0 : (0 : Int) ≤ (k : Int) := by omega
     have hk1 : (k : Int) < (l.length : Int) := by omega
     cases hon : onO p o (ym, ys) (j : Int) with
     | none =>
      have HON := Hid.of hon
      clear hon
      refine wp_region_held_drew (S := fun w' => w'.cell? ⟨w.heap.size, 0, none⟩ = some (.int .i64 p.m.st) ∧ w'.cell? ⟨w.heap.size, 1, none⟩ = some (.int .i64 p.m.ev) ∧ w'.cell? ⟨w.heap.size, 2, none⟩ = some (.slice (some ⟨b0, f0, none⟩) p.m.starts.length lb1) ∧ w'.cell? ⟨w.heap.size, 3, none⟩ = some (.slice la2 p.m.arrows.length lb2) ∧ w'.cell? ⟨w.heap.size, 4, none⟩ = some (.slice la3 p.m.ends.length lb3) ∧ w'.cell? ⟨w.heap.size, 5, none⟩ = some (.slice sa p.seen.length sc) ∧ w'.cell? ⟨w.heap.size, 6, none⟩ = some (.slice ta p.secret.length tc) ∧ w'.cell? ⟨w.heap.size + 1, 0, none⟩ = some (.slice L.na v.1.length L.nc) ∧ w'.cell? ⟨w.heap.size + 1, 1, none⟩ = some (.slice L.ma v.2.length L.mc) ∧ w'.cell? ⟨w.heap.size + 2, 0, none⟩ = some (.int .i64 o.st) ∧ w'.cell? ⟨w.heap.size + 2, 1, none⟩ = some (.int .i64 o.ev) ∧ w'.cell? ⟨w.heap.size + 2, 2, none⟩ = some (.slice lo.a1 o.starts.length lo.c1) ∧ w'.cell? ⟨w.heap.size + 2, 3, none⟩ = some (.slice lo.a2 o.arrows.length lo.c2) ∧ w'.cell? ⟨w.heap.size + 2, 4, none⟩ = some (.slice lo.a3 o.ends.length lo.c3) ∧ w'.cell? ⟨g, k * 3, none⟩ = some (.int .i64 ym) ∧ w'.cell? ⟨g, k * 3 + 1, none⟩ = some (.slice sy ys.length sk) ∧ w'.cell? ⟨g, k * 3 + 2, none⟩ = some (.int .i64 (yn : Int))) (by kernel_rfl) (SA.out _ (Below.refl _ _).drew) (fun hS => ?_)
      have HY : Hid (Below W1.heap.size W1 W1.drew) := (Below.refl _ _).drew
      revert hS HY
      generalize W1.drew = Y0
      intro hS HY
      refine tkH 0 (ptval p ⟨⟨some ⟨b0, f0, none⟩, lb1, la2, lb2, la3, lb3⟩, sa, sc, ta, tc⟩) rfl (fun w' hw' => by obtain ⟨q0, q1, q2, q3, q4, q5, q6, q7, q8, q9, q10, q11, q12, q13, q14, q15, q16⟩ := hw'; go_simp) hS ?_
      refine tkH 1 (mval o lo) rfl (fun w' hw' => by obtain ⟨q0, q1, q2, q3, q4, q5, q6, q7, q8, q9, q10, q11, q12, q13, q14, q15, q16⟩ := hw'; go_simp) hS ?_
      refine tkH 2 (.slice (some ⟨g, 0, none⟩) l.length cp) rfl (fun w' hw' => by obtain ⟨q0, q1, q2, q3, q4, q5, q6, q7, q8, q9, q10, q11, q12, q13, q14, q15, q16⟩ := hw'; go_simp) hS ?_
      refine tkH 3 (.int .i64 (k : Int)) rfl (fun w' hw' => by obtain ⟨q0, q1, q2, q3, q4, q5, q6, q7, q8, q9, q10, q11, q12, q13, q14, q15, q16⟩ := hw'; go_simp) hS ?_
      refine tkH 4 (.pointer (some ⟨g, k * 3, none⟩)) rfl (fun w' hw' => by obtain ⟨q0, q1, q2, q3, q4, q5, q6, q7, q8, q9, q10, q11, q12, q13, q14, q15, q16⟩ := hw'; go_simp) hS ?_
      refine tkH 5 (.pointer (some ⟨g, k * 3, none⟩)) rfl (fun w' hw' => by obtain ⟨q0, q1, q2, q3, q4, q5, q6, q7, q8, q9, q10, q11, q12, q13, q14, q15, q16⟩ := hw'; go_simp) hS ?_
      refine tkH 6 (.agg #[.int .i64 ym, .slice sy ys.length sk]) rfl (fun w' hw' => by obtain ⟨q0, q1, q2, q3, q4, q5, q6, q7, q8, q9, q10, q11, q12, q13, q14, q15, q16⟩ := hw'; go_simp) hS ?_
      refine tkH 7 (.int .i64 (j : Int)) rfl (fun w' hw' => by obtain ⟨q0, q1, q2, q3, q4, q5, q6, q7, q8, q9, q10, q11, q12, q13, q14, q15, q16⟩ := hw'; go_simp) hS ?_
      simp only [Act.put, List.setIfInBounds_toArray]
      refine wpAnyH_ready (rs := [8, 12]) (by kernel_rfl) (by simp) ?_
      refine AllReadyH.cons rfl (fun K' hK' => ?_) (AllReadyH.cons rfl (fun K' hK' => ?_) AllReadyH.nil)
      ·clear hS
       go_simp
       refine (ron_any p (⟨some ⟨b0, f0, none⟩, lb1, la2, lb2, la3, lb3⟩ : ML) sa sc ta tc o lo ym sy sk ys (j : Int) Y0 (Hid.of (hp.out.below (HBW.out.trans (HY.out.mono HBW.out.size)) (Nat.le_refl _))) (Hid.of (ho.out.below (HBW.out.trans (HY.out.mono HBW.out.size)) (Nat.le_refl _))) (Hid.of (I1.out.below HY.out (Nat.le_refl _))) I2 hl1 hl2).mono ?_
       rintro e1 Y1 hO
       rw [HON.out] at hO
       obtain ⟨rfl, hb⟩ := hO
       replace HY := Hid.of (HY.out.trans (hb.mono HY.out.size))
       refine hK'.out _ _ (SA.out _ HY.out) (fun hS => ?_)
       clear hK' K' hb
       refine tkH 9 (.tuple #[.agg #[.int .i64 0, .slice none 0 0], .bool false]) rfl (fun w' hw' => by obtain ⟨q0, q1, q2, q3, q4, q5, q6, q7, q8, q9, q10, q11, q12, q13, q14, q15, q16⟩ := hw'; go_simp) hS ?_
       refine tkH 10 (.agg #[.int .i64 0, .slice none 0 0]) rfl (fun w' hw' => by obtain ⟨q0, q1, q2, q3, q4, q5, q6, q7, q8, q9, q10, q11, q12, q13, q14, q15, q16⟩ := hw'; go_simp) hS ?_
       refine tkH 11 (.bool false) rfl (fun w' hw' => by obtain ⟨q0, q1, q2, q3, q4, q5, q6, q7, q8, q9, q10, q11, q12, q13, q14, q15, q16⟩ := hw'; go_simp) hS ?_
       refine wpAnyH_ready (rs := [12]) (by kernel_rfl) (by simp) ?_
       refine AllReadyH.cons rfl (fun K' hK' => ?_) AllReadyH.nil
       clear hS
       go_simp
       have hb : Below Y1.heap.size Y1 (Y1.alloc (.cells #[.int .i64 0, .slice none 0 0] 135)) := (Below.refl _ _).alloc (Nat.le_refl _) _
       have KX := Hid.of (Blk.new Y1 135 #[.int .i64 0, .slice none 0 0])
       have HPB : Hid (W1.heap.size ≤ Y1.heap.size) := HY.out.size
       replace HY := Hid.of (HY.out.trans (hb.mono HY.out.size))
       refine hK'.out _ _ (SA.out _ HY.out) (fun hS => ?_)
       clear hK' K' hb
       revert KX HPB HY hS
       generalize Y1.alloc (.cells #[.int .i64 0, .slice none 0 0] 135) = Y2
       generalize Y1.heap.size = pb
       intro KX HPB HY hS
       refine wpAnyH_ready (rs := [13]) (by kernel_rfl) (by simp) ?_
       refine AllReadyH.cons rfl (fun K' hK' => ?_) AllReadyH.nil
       clear hS
       have f := KX.out.frozen
       have r0 := KX.out.cell 0 rfl
       have r1 := KX.out.cell 1 rfl
       go_simp
       replace HY := Hid.of (below_set2 HY.out HPB.out (.int .i64 0) (.slice none 0 0))
       replace KX := Hid.of ((KX.out.set 0 (.int .i64 0)).set 1 (.slice none 0 0))
       refine hK'.out _ _ (SA.out _ HY.out) (fun hS => ?_)
       clear hK' K' f r0 r1
       revert HY KX hS
       generalize (Y2.setCell ⟨pb, 0, none⟩ (.int .i64 0)).setCell ⟨pb, 1, none⟩ (.slice none 0 0) = Y3
       intro HY KX hS
       refine tkH 14 (.bool false) rfl (fun w' hw' => by obtain ⟨q0, q1, q2, q3, q4, q5, q6, q7, q8, q9, q10, q11, q12, q13, q14, q15, q16⟩ := hw'; go_simp) hS ?_
       refine wpAnyH_done (by kernel_rfl) ?_ _
       clear hS
       have Q1 := Hid.of (HW.out.below HY.out)
       clear KX HPB
       go_wp2_with fail
       go_roundw
       case rel => exact ⟨j + 1, l, by go_num, by omega, HCY, Q1, HNI⟩
       case measure => simp [intOf]; omega
      ·clear hS
       go_simp
       have hb : Below Y0.heap.size Y0 (Y0.alloc (.cells #[.int .i64 0, .slice none 0 0] 135)) := (Below.refl _ _).alloc (Nat.le_refl _) _
       have KX := Hid.of (Blk.new Y0 135 #[.int .i64 0, .slice none 0 0])
       have HPB : Hid (W1.heap.size ≤ Y0.heap.size) := HY.out.size
       replace HY := Hid.of (HY.out.trans (hb.mono HY.out.size))
       refine hK'.out _ _ (SA.out _ HY.out) (fun hS => ?_)
       clear hK' K' hb
       revert KX HPB HY hS
       generalize Y0.alloc (.cells #[.int .i64 0, .slice none 0 0] 135) = Y4
       generalize Y0.heap.size = pb
       intro KX HPB HY hS
       refine wpAnyH_ready (rs := [8]) (by kernel_rfl) (by simp) ?_
       refine AllReadyH.cons rfl (fun K' hK' => ?_) AllReadyH.nil
       clear hS
       go_simp
       refine (ron_any p (⟨some ⟨b0, f0, none⟩, lb1, la2, lb2, la3, lb3⟩ : ML) sa sc ta tc o lo ym sy sk ys (j : Int) Y4 (Hid.of (hp.out.below (HBW.out.trans (HY.out.mono HBW.out.size)) (Nat.le_refl _))) (Hid.of (ho.out.below (HBW.out.trans (HY.out.mono HBW.out.size)) (Nat.le_refl _))) (Hid.of (I1.out.below HY.out (Nat.le_refl _))) I2 hl1 hl2).mono ?_
       rintro e1 Y5 hO
       rw [HON.out] at hO
       obtain ⟨rfl, hb⟩ := hO
       replace HY := Hid.of (HY.out.trans (hb.mono HY.out.size))
       replace KX := Hid.of (KX.out.below hb KX.out.lt)
       refine hK'.out _ _ (SA.out _ HY.out) (fun hS => ?_)
       clear hK' K' hb
       refine tkH 9 (.tuple #[.agg #[.int .i64 0, .slice none 0 0], .bool false]) rfl (fun w' hw' => by obtain ⟨q0, q1, q2, q3, q4, q5, q6, q7, q8, q9, q10, q11, q12, q13, q14, q15, q16⟩ := hw'; go_simp) hS ?_
       refine tkH 10 (.agg #[.int .i64 0, .slice none 0 0]) rfl (fun w' hw' => by obtain ⟨q0, q1, q2, q3, q4, q5, q6, q7, q8, q9, q10, q11, q12, q13, q14, q15, q16⟩ := hw'; go_simp) hS ?_
       refine tkH 11 (.bool false) rfl (fun w' hw' => by obtain ⟨q0, q1, q2, q3, q4, q5, q6, q7, q8, q9, q10, q11, q12, q13, q14, q15, q16⟩ := hw'; go_simp) hS ?_
       refine wpAnyH_ready (rs := [13]) (by kernel_rfl) (by simp) ?_
       refine AllReadyH.cons rfl (fun K' hK' => ?_) AllReadyH.nil
       clear hS
       have f := KX.out.frozen
       have r0 := KX.out.cell 0 rfl
       have r1 := KX.out.cell 1 rfl
       go_simp
       replace HY := Hid.of (below_set2 HY.out HPB.out (.int .i64 0) (.slice none 0 0))
       replace KX := Hid.of ((KX.out.set 0 (.int .i64 0)).set 1 (.slice none 0 0))
       refine hK'.out _ _ (SA.out _ HY.out) (fun hS => ?_)
       clear hK' K' f r0 r1
       revert HY KX hS
       generalize (Y5.setCell ⟨pb, 0, none⟩ (.int .i64 0)).setCell ⟨pb, 1, none⟩ (.slice none 0 0) = Y6
       intro HY KX hS
       refine tkH 14 (.bool false) rfl (fun w' hw' => by obtain ⟨q0, q1, q2, q3, q4, q5, q6, q7, q8, q9, q10, q11, q12, q13, q14, q15, q16⟩ := hw'; go_simp) hS ?_
       refine wpAnyH_done (by kernel_rfl) ?_ _
       clear hS
       have Q1 := Hid.of (HW.out.below HY.out)
       clear KX HPB
       go_wp2_with fail
       go_roundw
       case rel => exact ⟨j + 1, l, by go_num, by omega, HCY, Q1, HNI⟩
       case measure => simp [intOf]; omega
     | some zz =>
      obtain ⟨zm, zs⟩ := zz
      have HON := Hid.of hon
      clear hon
      refine wp_region_held_drew (S := fun w' => w'.cell? ⟨w.heap.size, 0, none⟩ = some (.int .i64 p.m.st) ∧ w'.cell? ⟨w.heap.size, 1, none⟩ = some (.int .i64 p.m.ev) ∧ w'.cell? ⟨w.heap.size, 2, none⟩ = some (.slice (some ⟨b0, f0, none⟩) p.m.starts.length lb1) ∧ w'.cell? ⟨w.heap.size, 3, none⟩ = some (.slice la2 p.m.arrows.length lb2) ∧ w'.cell? ⟨w.heap.size, 4, none⟩ = some (.slice la3 p.m.ends.length lb3) ∧ w'.cell? ⟨w.heap.size, 5, none⟩ = some (.slice sa p.seen.length sc) ∧ w'.cell? ⟨w.heap.size, 6, none⟩ = some (.slice ta p.secret.length tc) ∧ w'.cell? ⟨w.heap.size + 1, 0, none⟩ = some (.slice L.na v.1.length L.nc) ∧ w'.cell? ⟨w.heap.size + 1, 1, none⟩ = some (.slice L.ma v.2.length L.mc) ∧ w'.cell? ⟨w.heap.size + 2, 0, none⟩ = some (.int .i64 o.st) ∧ w'.cell? ⟨w.heap.size + 2, 1, none⟩ = some (.int .i64 o.ev) ∧ w'.cell? ⟨w.heap.size + 2, 2, none⟩ = some (.slice lo.a1 o.starts.length lo.c1) ∧ w'.cell? ⟨w.heap.size + 2, 3, none⟩ = some (.slice lo.a2 o.arrows.length lo.c2) ∧ w'.cell? ⟨w.heap.size + 2, 4, none⟩ = some (.slice lo.a3 o.ends.length lo.c3) ∧ w'.cell? ⟨g, k * 3, none⟩ = some (.int .i64 ym) ∧ w'.cell? ⟨g, k * 3 + 1, none⟩ = some (.slice sy ys.length sk) ∧ w'.cell? ⟨g, k * 3 + 2, none⟩ = some (.int .i64 (yn : Int))) (by kernel_rfl) (SA.out _ (Below.refl _ _).drew) (fun hS => ?_)
      have HY : Hid (Below W1.heap.size W1 W1.drew) := (Below.refl _ _).drew
      revert hS HY
      generalize W1.drew = Y0
      intro hS HY
      refine tkH 0 (ptval p ⟨⟨some ⟨b0, f0, none⟩, lb1, la2, lb2, la3, lb3⟩, sa, sc, ta, tc⟩) rfl (fun w' hw' => by obtain ⟨q0, q1, q2, q3, q4, q5, q6, q7, q8, q9, q10, q11, q12, q13, q14, q15, q16⟩ := hw'; go_simp) hS ?_
      refine tkH 1 (mval o lo) rfl (fun w' hw' => by obtain ⟨q0, q1, q2, q3, q4, q5, q6, q7, q8, q9, q10, q11, q12, q13, q14, q15, q16⟩ := hw'; go_simp) hS ?_
      refine tkH 2 (.slice (some ⟨g, 0, none⟩) l.length cp) rfl (fun w' hw' => by obtain ⟨q0, q1, q2, q3, q4, q5, q6, q7, q8, q9, q10, q11, q12, q13, q14, q15, q16⟩ := hw'; go_simp) hS ?_
      refine tkH 3 (.int .i64 (k : Int)) rfl (fun w' hw' => by obtain ⟨q0, q1, q2, q3, q4, q5, q6, q7, q8, q9, q10, q11, q12, q13, q14, q15, q16⟩ := hw'; go_simp) hS ?_
      refine tkH 4 (.pointer (some ⟨g, k * 3, none⟩)) rfl (fun w' hw' => by obtain ⟨q0, q1, q2, q3, q4, q5, q6, q7, q8, q9, q10, q11, q12, q13, q14, q15, q16⟩ := hw'; go_simp) hS ?_
      refine tkH 5 (.pointer (some ⟨g, k * 3, none⟩)) rfl (fun w' hw' => by obtain ⟨q0, q1, q2, q3, q4, q5, q6, q7, q8, q9, q10, q11, q12, q13, q14, q15, q16⟩ := hw'; go_simp) hS ?_
      refine tkH 6 (.agg #[.int .i64 ym, .slice sy ys.length sk]) rfl (fun w' hw' => by obtain ⟨q0, q1, q2, q3, q4, q5, q6, q7, q8, q9, q10, q11, q12, q13, q14, q15, q16⟩ := hw'; go_simp) hS ?_
      refine tkH 7 (.int .i64 (j : Int)) rfl (fun w' hw' => by obtain ⟨q0, q1, q2, q3, q4, q5, q6, q7, q8, q9, q10, q11, q12, q13, q14, q15, q16⟩ := hw'; go_simp) hS ?_
      simp only [Act.put, List.setIfInBounds_toArray]
      refine wpAnyH_ready (rs := [8, 12]) (by kernel_rfl) (by simp) ?_
      refine AllReadyH.cons rfl (fun K' hK' => ?_) (AllReadyH.cons rfl (fun K' hK' => ?_) AllReadyH.nil)
      ·clear hS
       go_simp
       refine (ron_any p (⟨some ⟨b0, f0, none⟩, lb1, la2, lb2, la3, lb3⟩ : ML) sa sc ta tc o lo ym sy sk ys (j : Int) Y0 (Hid.of (hp.out.below (HBW.out.trans (HY.out.mono HBW.out.size)) (Nat.le_refl _))) (Hid.of (ho.out.below (HBW.out.trans (HY.out.mono HBW.out.size)) (Nat.le_refl _))) (Hid.of (I1.out.below HY.out (Nat.le_refl _))) I2 hl1 hl2).mono ?_
       rintro e1 Y1 hO
       rw [HON.out] at hO
       obtain ⟨za, zc, rfl, hiz, hb⟩ := hO
       have OZ := Hid.of (hiz w.heap.size)
       replace HY := Hid.of (HY.out.trans (hb.mono HY.out.size))
       refine hK'.out _ _ (SA.out _ HY.out) (fun hS => ?_)
       clear hK' K' hb hiz
       refine tkH 9 (.tuple #[.agg #[.int .i64 zm, .slice za zs.length zc], .bool true]) rfl (fun w' hw' => by obtain ⟨q0, q1, q2, q3, q4, q5, q6, q7, q8, q9, q10, q11, q12, q13, q14, q15, q16⟩ := hw'; go_simp) hS ?_
       refine tkH 10 (.agg #[.int .i64 zm, .slice za zs.length zc]) rfl (fun w' hw' => by obtain ⟨q0, q1, q2, q3, q4, q5, q6, q7, q8, q9, q10, q11, q12, q13, q14, q15, q16⟩ := hw'; go_simp) hS ?_
       refine tkH 11 (.bool true) rfl (fun w' hw' => by obtain ⟨q0, q1, q2, q3, q4, q5, q6, q7, q8, q9, q10, q11, q12, q13, q14, q15, q16⟩ := hw'; go_simp) hS ?_
       refine wpAnyH_ready (rs := [12]) (by kernel_rfl) (by simp) ?_
       refine AllReadyH.cons rfl (fun K' hK' => ?_) AllReadyH.nil
       clear hS
       go_simp
       have hb : Below Y1.heap.size Y1 (Y1.alloc (.cells #[.int .i64 0, .slice none 0 0] 135)) := (Below.refl _ _).alloc (Nat.le_refl _) _
       have KX := Hid.of (Blk.new Y1 135 #[.int .i64 0, .slice none 0 0])
       have HPB : Hid (W1.heap.size ≤ Y1.heap.size) := HY.out.size
       replace OZ := Hid.of (OZ.out.below hb (Nat.le_trans HBW.out.size HY.out.size))
       replace HY := Hid.of (HY.out.trans (hb.mono HY.out.size))
       refine hK'.out _ _ (SA.out _ HY.out) (fun hS => ?_)
       clear hK' K' hb
       revert KX HPB OZ HY hS
       generalize Y1.alloc (.cells #[.int .i64 0, .slice none 0 0] 135) = Y2
       generalize Y1.heap.size = pb
       intro KX HPB OZ HY hS
       refine wpAnyH_ready (rs := [13]) (by kernel_rfl) (by simp) ?_
       refine AllReadyH.cons rfl (fun K' hK' => ?_) AllReadyH.nil
       clear hS
       have f := KX.out.frozen
       have r0 := KX.out.cell 0 rfl
       have r1 := KX.out.cell 1 rfl
       go_simp
       replace OZ := Hid.of (innW_box OZ.out (Nat.le_trans HBW.out.size HPB.out) KX.out (.int .i64 zm) (.slice za zs.length zc))
       replace HY := Hid.of (below_set2 HY.out HPB.out (.int .i64 zm) (.slice za zs.length zc))
       replace KX := Hid.of ((KX.out.set 0 (.int .i64 zm)).set 1 (.slice za zs.length zc))
       refine hK'.out _ _ (SA.out _ HY.out) (fun hS => ?_)
       clear hK' K' f r0 r1
       revert OZ HY KX hS
       generalize (Y2.setCell ⟨pb, 0, none⟩ (.int .i64 zm)).setCell ⟨pb, 1, none⟩ (.slice za zs.length zc) = Y3
       intro OZ HY KX hS
       refine tkH 14 (.bool true) rfl (fun w' hw' => by obtain ⟨q0, q1, q2, q3, q4, q5, q6, q7, q8, q9, q10, q11, q12, q13, q14, q15, q16⟩ := hw'; go_simp) hS ?_
       refine wpAnyH_done (by kernel_rfl) ?_ _
       clear hS
       obtain ⟨Z, hZ⟩ : ∃ Z : World, Z = Y3 := ⟨_, rfl⟩
       rw [← hZ] at HY KX OZ ⊢
       clear hZ HPB
       have HCZ := Hid.of (HW.out.below HY.out)
       obtain ⟨x0, x1, x2, x3, x4, x5, x6⟩ := ptcell_at HCZ.out.kp
       obtain ⟨u0, u1⟩ := vcell_at HCZ.out.kv
       have c3 := (HY.out.cell (p := ⟨g, k * 3 + 2, none⟩) HG.out).trans C3.out
       have c1 := (HY.out.cell (p := ⟨g, k * 3, none⟩) HG.out).trans C1.out
       cases hse : hasB p.seen (j : Int) with
       | false =>
        have HJZ : Hid (J ((zm, zs), yn)) := hJ.out.un ((ym, ys), yn) (j : Int) (zm, zs) HJY.out (by omega) (by rw [HEV.out]; omega) hse HON.out
        clear u0 u1 c1
        go_wp2_with fail
        clear x0 x1 x2 x3 x4 x5 x6 c3
        refine (refHas_any sa sc p.seen (j : Int) _ (hp.out.below HCZ.out.bel (Nat.le_refl _)).s.at_ hp.out.s.len).mono ?_
        rintro e1 Z ⟨rfl, rfl⟩
        rw [hse]
        clear hse HY
        go_wp2_with fail
        go_loopw [15, 16] (fun v15 i wr => ∃ q r : Nat, i = .int .i64 (q : Int) ∧ q ≤ l.length ∧ wr = Z.drewN r ∧ ((v15 = .bool true ∧ Hid (((zm, zs), yn) ∈ l)) ∨ (v15 = .bool false ∧ Hid (noneC l q ((zm, zs), yn))))) (fun _ i _ => l.length - (intOf i).toNat)
        case atStart => exact ⟨0, 0, rfl, Nat.zero_le _, rfl, .inr ⟨rfl, fun a b hab => absurd hab (by omega)⟩⟩
        case round =>
         obtain ⟨q, r, rfl, hq, rfl, hkb⟩ := hrel
         have HCD := Hid.of (CO.drewN HCZ.out r)
         rcases hkb with ⟨rfl, HIN⟩ | ⟨rfl, HNN⟩
         ·by_cases hqn : q < l.length
          ·have hqD : decide ((q : Int) < (l.length : Int)) = true := by simp; omega
           clear HCZ KX OZ
           go_wp2_with fail
           go_roundw
           case rel => exact ⟨j + 1, l, by go_num, by omega, HCY, HCD, HNI⟩
           case measure => simp [intOf]; omega
          ·have hqD : decide ((q : Int) < (l.length : Int)) = false := by simp; omega
           clear HCZ KX OZ
           go_wp2_with fail
           go_roundw
           case rel => exact ⟨j + 1, l, by go_num, by omega, HCY, HCD, HNI⟩
           case measure => simp [intOf]; omega
         ·by_cases hqn : q < l.length
          ·have hqD : decide ((q : Int) < (l.length : Int)) = true := by simp; omega
           obtain ⟨⟨⟨am, az⟩, an⟩, HXQ⟩ : ∃ y, Hid (l[q]? = some y) := ⟨_, List.getElem?_eq_getElem hqn⟩
           obtain ⟨g2, cp2, ra, rc, eg, hg2, c1, c2, c3, a1, l1, -⟩ := HCZ.out.ow.get HXQ.out
           cases eg
           dsimp only at c1 c2 c3 a1 l1
           have A1 := Hid.of a1
           have L1 := Hid.of l1
           obtain ⟨oq1, oq2, eoz, oz1, oz2, -⟩ := OZ.out.at
           cases eoz
           have A2 := Hid.of oz1
           have L2 := Hid.of oz2
           obtain ⟨U, HU⟩ : ∃ U, Hid (U = Z.drewN r) := ⟨_, rfl⟩
           have d1 : U.cell? ⟨g, q * 3, none⟩ = some (.int .i64 am) := by rw [HU.out]; exact c1
           have d2 : U.cell? ⟨g, q * 3 + 1, none⟩ = some (.slice ra az.length rc) := by rw [HU.out]; exact c2
           have d3 : U.cell? ⟨g, q * 3 + 2, none⟩ = some (.int .i64 (an : Int)) := by rw [HU.out]; exact c3
           have b0 : U.cell? ⟨pb, 0, none⟩ = some (.int .i64 zm) := by rw [HU.out]; exact KX.out.cell 0 rfl
           have b1 : U.cell? ⟨pb, 1, none⟩ = some (.slice za zs.length zc) := by rw [HU.out]; exact KX.out.cell 1 rfl
           have KEY : Hid (∀ r, Calls Tryd.prog 19 #[.slice ra az.length rc, .slice za zs.length zc] (U.drewN r) fun e w' => e = .returned (.bool (sameB az zs)) ∧ ∃ m, w' = (U.drewN r).drewN m) := fun r' => by
            rw [HU.out]
            exact same_any ra za rc zc az zs _ (At.drewN (At.drewN A1.out r) r') (At.drewN (At.drewN A2.out r) r') L1.out L2.out
           have hq0 : (0 : Int) ≤ (q : Int) := by omega
           have hq1 : (q : Int) < (l.length : Int) := by omega
           rw [← HU.out]
           clear c1 c2 c3 a1 l1 hg2 oz1 oz2 A1 A2 L1 L2 HCD
           go_wp2_with fail
           by_cases e0 : an = yn
           ·have g0 : ((an : Int) == (yn : Int)) = true := by simp [e0]
            have E0 := Hid.of e0
            clear e0
            by_cases e1 : am = zm
            ·have g1 : (am == zm) = true := by simp [e1]
             have E1 := Hid.of e1
             clear e1
             cases e2 : sameB az zs with
             | true =>
              have E2 : Hid ((((am, az), an) : Bo) = ((zm, zs), yn)) := by
               have : az = zs := by simpa [sameB] using e2
               show _ = _
               rw [E1.out, this, E0.out]
              rw [e2] at KEY
              clear e2
              go_quiet (first | (go_at_call 19; exact Calls.quiet_of (KEY.out _)))
              have HUr : Hid (U.drewN nq = Z.drewN (r + nq)) := by show _ = _; rw [HU.out, World.drewN_drewN]
              rw [HUr.out]
              clear d1 d2 d3 b0 b1 KEY
              go_wp2_with fail
              go_roundw
              case rel => exact ⟨q + 1, r + nq, by go_num, by omega, rfl, .inl ⟨rfl, by show _ ∈ _; rw [← E2.out]; exact List.mem_of_getElem? HXQ.out⟩⟩
              case measure => simp [intOf]; omega
             | false =>
              have E2 : Hid ((((am, az), an) : Bo) ≠ ((zm, zs), yn)) := fun e => by
               have : az = zs := congrArg (fun x : Bo => x.1.2) e
               rw [this] at e2
               simp [sameB] at e2
              rw [e2] at KEY
              clear e2
              go_quiet (first | (go_at_call 19; exact Calls.quiet_of (KEY.out _)))
              have HUr : Hid (U.drewN nq = Z.drewN (r + nq)) := by show _ = _; rw [HU.out, World.drewN_drewN]
              rw [HUr.out]
              clear d1 d2 d3 b0 b1 KEY
              go_wp2_with fail
              go_roundw
              case rel => exact ⟨q + 1, r + nq, by go_num, by omega, rfl, .inr ⟨rfl, noneC_succ HNN HXQ E2⟩⟩
              case measure => simp [intOf]; omega
            ·have g1 : (am == zm) = false := by simp [e1]
             have E2 : Hid ((((am, az), an) : Bo) ≠ ((zm, zs), yn)) := fun e => e1 (congrArg (fun x : Bo => x.1.1) e)
             clear e1
             go_quiet (first | (go_at_call 19; exact Calls.quiet_of (KEY.out _)))
             have HUr : Hid (U.drewN nq = Z.drewN (r + nq)) := by show _ = _; rw [HU.out, World.drewN_drewN]
             rw [HUr.out]
             clear d1 d2 d3 b0 b1 KEY
             go_wp2_with fail
             go_roundw
             case rel => exact ⟨q + 1, r + nq, by go_num, by omega, rfl, .inr ⟨rfl, noneC_succ HNN HXQ E2⟩⟩
             case measure => simp [intOf]; omega
           ·have g0 : ((an : Int) == (yn : Int)) = false := by
             have : ¬ (an : Int) = (yn : Int) := by omega
             simpa using this
            have E2 : Hid ((((am, az), an) : Bo) ≠ ((zm, zs), yn)) := fun e => e0 (congrArg (fun x : Bo => x.2) e)
            clear e0
            go_quiet (first | (go_at_call 19; exact Calls.quiet_of (KEY.out _)))
            have HUr : Hid (U.drewN nq = Z.drewN (r + nq)) := by show _ = _; rw [HU.out, World.drewN_drewN]
            rw [HUr.out]
            clear d1 d2 d3 b0 b1 KEY
            go_wp2_with fail
            go_roundw
            case rel => exact ⟨q + 1, r + nq, by go_num, by omega, rfl, .inr ⟨rfl, noneC_succ HNN HXQ E2⟩⟩
            case measure => simp [intOf]; omega
          ·have hqD : decide ((q : Int) < (l.length : Int)) = false := by simp; omega
           have HNI2 : Hid ((l ++ [((zm, zs), yn)]).Nodup ∧ ∀ x ∈ l ++ [((zm, zs), yn)], J x) := ⟨noneC_nodup HNI.out.1 HNN.out (by omega), fun x hx => by
            rcases List.mem_append.1 hx with hx | hx
            ·exact HNI.out.2 x hx
            ·rw [List.mem_singleton.1 hx]; exact HJZ.out⟩
           have HCY2 : Hid ((l ++ [((zm, zs), yn)])[k]? = some ((ym, ys), yn)) := by show _ = _; rw [List.getElem?_append_left hkc]; exact HCY.out
           have r0 : (Z.drewN r).cell? ⟨pb, 0, none⟩ = some (.int .i64 zm) := KX.out.cell 0 rfl
           have r1 : (Z.drewN r).cell? ⟨pb, 1, none⟩ = some (.slice za zs.length zc) := KX.out.cell 1 rfl
           have bq : Below (Z.drewN r).heap.size (Z.drewN r) ((Z.drewN r).alloc (.cells #[.int .i64 zm, .slice za zs.length zc, .int .i64 (yn : Int)] 137)) := (Below.refl _ _).alloc (Nat.le_refl _) _
           have OZ4 := Hid.of ((show InnW w.heap.size (Z.drewN r) (.slice za zs.length zc) zs from OZ.out.below (below_drewN (Below.refl _ _) r) HCZ.out.bel.size).below bq HCD.out.bel.size)
           have Q4 := Hid.of (HCD.out.below bq)
           have CF : Hid (∀ j u, ([.int .i64 zm, .slice za zs.length zc, .int .i64 (yn : Int)] : List Value)[j]? = some u → ((Z.drewN r).alloc (.cells #[.int .i64 zm, .slice za zs.length zc, .int .i64 (yn : Int)] 137)).cell? ((⟨(Z.drewN r).heap.size, 0, none⟩ : Addr).add j) = some u) := cells_triC (Z.drewN r) (Z.drewN r) rfl _ _ _ _
           obtain ⟨vs, hos, hiq⟩ := Q4.out.ow
           have HOS := Hid.of hos
           have HIQ := Hid.of hiq
           have hBq := Q4.out.bel.size
           clear bq hos hiq HCD HCZ
           go_wp2_with (at_builtin; refine wpList_append_block _ rfl (.tmp 144) (.tmp 148) 138 rfl w.heap.size 137 i0 _ 3 40 Tryd.underlying138 hi hz0 hz1 hz2 rfl (by decide) _ _ _ rfl HOS.out ⟨(Z.drewN r).heap.size, 0, none⟩ 1 1 [.int .i64 zm, .slice za zs.length zc, .int .i64 (yn : Int)] rfl rfl CF.out (three_vals (x := ((zm, zs), yn)) OZ4.out) (by decide) (by unfold maxLen; omega) (by omega) hBq ?_)
           intro v9 w9 o9 g9 n9
           have Q1 := Hid.of (CO.push (x := ((zm, zs), yn)) Q4.out HOS.out HIQ.out OZ4.out o9 g9)
           clear o9 g9 n9 HOS HIQ OZ4 Q4 hBq CF r0 r1 KX OZ
           go_wp2_with fail
           go_roundw
           case rel => exact ⟨j + 1, (l ++ [((zm, zs), yn)]), by go_num, by omega, HCY2, Q1, HNI2⟩
           case measure => simp [intOf]; omega
       | true =>
        obtain ⟨mm, hmv, hms, hmt, hJZ⟩ := hJ.out.se ((ym, ys), yn) (j : Int) (zm, zs) HJY.out (by omega) (by rw [HEV.out]; omega) hse HON.out
        have HJZ := Hid.of hJZ
        have HMV := Hid.of hmv
        have HMS := Hid.of hms
        have HMT := Hid.of hmt
        clear hJZ hmv hms hmt
        dsimp only at HMV HMS
        clear c1
        go_wp2_with fail
        refine (refHas_any sa sc p.seen (j : Int) _ (hp.out.below HCZ.out.bel (Nat.le_refl _)).s.at_ hp.out.s.len).mono ?_
        rintro e1 Z ⟨rfl, rfl⟩
        rw [hse]
        clear hse
        go_wp2_with fail
        clear x0 x1 x2 x3 x4 x5 x6 u0 u1 c3
        refine (rmove_any w v L yn (j : Int) _ (Hid.of HCZ.out.bel) hv).mono ?_
        rintro e2 Z2 hM
        rw [HMV.out] at hM
        obtain ⟨ma, mc, rfl, hma, hml, hb2⟩ := hM
        obtain ⟨mnd, hmnd⟩ : ∃ x : Int, x = (mm.nd : Int) := ⟨_, rfl⟩
        rw [← hmnd]
        clear hmnd
        have MOB : Below Z2.heap.size Z2 (Z2.alloc (.cells (mvarr mnd mm.ev ma mm.st.length mc (mm.to : Int)) 67)) := (Below.refl _ _).alloc (Nat.le_refl _) _
        have KM := Hid.of (Blk.new Z2 67 (mvarr mnd mm.ev ma mm.st.length mc (mm.to : Int)))
        have HBZ : Hid (Below Z.heap.size Z (Z2.alloc (.cells (mvarr mnd mm.ev ma mm.st.length mc (mm.to : Int)) 67))) := hb2.trans (MOB.mono hb2.size)
        have HMA := Hid.of hma
        have HML := Hid.of hml
        clear MOB hb2 hma hml
        replace OZ := Hid.of (OZ.out.below HBZ.out HCZ.out.bel.size)
        replace KX := Hid.of (KX.out.below HBZ.out KX.out.lt)
        replace HCZ := Hid.of (HCZ.out.below HBZ.out)
        replace HY := Hid.of (HY.out.trans (HBZ.out.mono HY.out.size))
        clear HBZ
        go_wp2_with fail
        revert KM OZ KX HCZ HY
        generalize Z2.alloc (.cells (mvarr mnd mm.ev ma mm.st.length mc (mm.to : Int)) 67) = Z
        generalize Z2.heap.size = pm
        intro KM OZ KX HCZ HY
        obtain ⟨m0, m1, m2, m3⟩ := mvcell_at KM.out
        obtain ⟨u0, u1⟩ := vcell_at HCZ.out.kv
        have c1 := (HY.out.cell (p := ⟨g, k * 3, none⟩) HG.out).trans C1.out
        have KEY1 : Hid (∀ r, Calls Tryd.prog 46 #[.slice ma mm.st.length mc, .int .i64 ym] (Z.drewN r) fun e w' => e = .returned (.bool true) ∧ w' = Z.drewN r) := fun r => by
         have h := refHas_any ma mc mm.st ym (Z.drewN r) (At.drewN (HMA.out.below HCZ.out.bel (Nat.le_refl _)) r) HML.out
         rw [HMS.out] at h
         exact h
        have t0 : decide ((mm.to : Int) < 0) = false := decide_eq_false (by omega)
        have t1 : decide ((v.1.length : Int) ≤ (mm.to : Int)) = false := decide_eq_false (by have := HMT.out; omega)
        have t2 : decide (v.1.length ≤ mm.to) = false := decide_eq_false (by have := HMT.out; omega)
        go_quiet (first | (go_at_call 46; exact Calls.quiet_of_same (KEY1.out _)))
        clear m0 m1 m2 u0 u1 c1 KEY1 KM HMA
        replace OZ : Hid (InnW w.heap.size (Z.drewN nq) (.slice za zs.length zc) zs) := OZ.out.below (below_drewN (Below.refl _ _) nq) HCZ.out.bel.size
        replace KX : Hid (Blk (Z.drewN nq) pb 135 _) := KX.out
        replace HCZ := Hid.of (CO.drewN HCZ.out nq)
        replace m3 : (Z.drewN nq).cell? ⟨pm, 3, none⟩ = some (.int .i64 (mm.to : Int)) := m3
        clear HY
        revert OZ KX HCZ m3
        generalize Z.drewN nq = Z
        intro OZ KX HCZ m3
        go_wp2_with fail
        clear m3 t0 t1 t2
        go_loopw [15, 16] (fun v15 i wr => ∃ q r : Nat, i = .int .i64 (q : Int) ∧ q ≤ l.length ∧ wr = Z.drewN r ∧ ((v15 = .bool true ∧ Hid (((zm, zs), mm.to) ∈ l)) ∨ (v15 = .bool false ∧ Hid (noneC l q ((zm, zs), mm.to))))) (fun _ i _ => l.length - (intOf i).toNat)
        case atStart => exact ⟨0, 0, rfl, Nat.zero_le _, rfl, .inr ⟨rfl, fun a b hab => absurd hab (by omega)⟩⟩
        case round =>
         obtain ⟨q, r, rfl, hq, rfl, hkb⟩ := hrel
         have HCD := Hid.of (CO.drewN HCZ.out r)
         rcases hkb with ⟨rfl, HIN⟩ | ⟨rfl, HNN⟩
         ·by_cases hqn : q < l.length
          ·have hqD : decide ((q : Int) < (l.length : Int)) = true := by simp; omega
           clear HCZ KX OZ
           go_wp2_with fail
           go_roundw
           case rel => exact ⟨j + 1, l, by go_num, by omega, HCY, HCD, HNI⟩
           case measure => simp [intOf]; omega
          ·have hqD : decide ((q : Int) < (l.length : Int)) = false := by simp; omega
           clear HCZ KX OZ
           go_wp2_with fail
           go_roundw
           case rel => exact ⟨j + 1, l, by go_num, by omega, HCY, HCD, HNI⟩
           case measure => simp [intOf]; omega
         ·by_cases hqn : q < l.length
          ·have hqD : decide ((q : Int) < (l.length : Int)) = true := by simp; omega
           obtain ⟨⟨⟨am, az⟩, an⟩, HXQ⟩ : ∃ y, Hid (l[q]? = some y) := ⟨_, List.getElem?_eq_getElem hqn⟩
           obtain ⟨g2, cp2, ra, rc, eg, hg2, c1, c2, c3, a1, l1, -⟩ := HCZ.out.ow.get HXQ.out
           cases eg
           dsimp only at c1 c2 c3 a1 l1
           have A1 := Hid.of a1
           have L1 := Hid.of l1
           obtain ⟨oq1, oq2, eoz, oz1, oz2, -⟩ := OZ.out.at
           cases eoz
           have A2 := Hid.of oz1
           have L2 := Hid.of oz2
           obtain ⟨U, HU⟩ : ∃ U, Hid (U = Z.drewN r) := ⟨_, rfl⟩
           have d1 : U.cell? ⟨g, q * 3, none⟩ = some (.int .i64 am) := by rw [HU.out]; exact c1
           have d2 : U.cell? ⟨g, q * 3 + 1, none⟩ = some (.slice ra az.length rc) := by rw [HU.out]; exact c2
           have d3 : U.cell? ⟨g, q * 3 + 2, none⟩ = some (.int .i64 (an : Int)) := by rw [HU.out]; exact c3
           have b0 : U.cell? ⟨pb, 0, none⟩ = some (.int .i64 zm) := by rw [HU.out]; exact KX.out.cell 0 rfl
           have b1 : U.cell? ⟨pb, 1, none⟩ = some (.slice za zs.length zc) := by rw [HU.out]; exact KX.out.cell 1 rfl
           have KEY : Hid (∀ r, Calls Tryd.prog 19 #[.slice ra az.length rc, .slice za zs.length zc] (U.drewN r) fun e w' => e = .returned (.bool (sameB az zs)) ∧ ∃ m, w' = (U.drewN r).drewN m) := fun r' => by
            rw [HU.out]
            exact same_any ra za rc zc az zs _ (At.drewN (At.drewN A1.out r) r') (At.drewN (At.drewN A2.out r) r') L1.out L2.out
           have hq0 : (0 : Int) ≤ (q : Int) := by omega
           have hq1 : (q : Int) < (l.length : Int) := by omega
           rw [← HU.out]
           clear c1 c2 c3 a1 l1 hg2 oz1 oz2 A1 A2 L1 L2 HCD
           go_wp2_with fail
           by_cases e0 : an = mm.to
           ·have g0 : ((an : Int) == (mm.to : Int)) = true := by simp [e0]
            have E0 := Hid.of e0
            clear e0
            by_cases e1 : am = zm
            ·have g1 : (am == zm) = true := by simp [e1]
             have E1 := Hid.of e1
             clear e1
             cases e2 : sameB az zs with
             | true =>
              have E2 : Hid ((((am, az), an) : Bo) = ((zm, zs), mm.to)) := by
               have : az = zs := by simpa [sameB] using e2
               show _ = _
               rw [E1.out, this, E0.out]
              rw [e2] at KEY
              clear e2
              go_quiet (first | (go_at_call 19; exact Calls.quiet_of (KEY.out _)))
              have HUr : Hid (U.drewN nq = Z.drewN (r + nq)) := by show _ = _; rw [HU.out, World.drewN_drewN]
              rw [HUr.out]
              clear d1 d2 d3 b0 b1 KEY
              go_wp2_with fail
              go_roundw
              case rel => exact ⟨q + 1, r + nq, by go_num, by omega, rfl, .inl ⟨rfl, by show _ ∈ _; rw [← E2.out]; exact List.mem_of_getElem? HXQ.out⟩⟩
              case measure => simp [intOf]; omega
             | false =>
              have E2 : Hid ((((am, az), an) : Bo) ≠ ((zm, zs), mm.to)) := fun e => by
               have : az = zs := congrArg (fun x : Bo => x.1.2) e
               rw [this] at e2
               simp [sameB] at e2
              rw [e2] at KEY
              clear e2
              go_quiet (first | (go_at_call 19; exact Calls.quiet_of (KEY.out _)))
              have HUr : Hid (U.drewN nq = Z.drewN (r + nq)) := by show _ = _; rw [HU.out, World.drewN_drewN]
              rw [HUr.out]
              clear d1 d2 d3 b0 b1 KEY
              go_wp2_with fail
              go_roundw
              case rel => exact ⟨q + 1, r + nq, by go_num, by omega, rfl, .inr ⟨rfl, noneC_succ HNN HXQ E2⟩⟩
              case measure => simp [intOf]; omega
            ·have g1 : (am == zm) = false := by simp [e1]
             have E2 : Hid ((((am, az), an) : Bo) ≠ ((zm, zs), mm.to)) := fun e => e1 (congrArg (fun x : Bo => x.1.1) e)
             clear e1
             go_quiet (first | (go_at_call 19; exact Calls.quiet_of (KEY.out _)))
             have HUr : Hid (U.drewN nq = Z.drewN (r + nq)) := by show _ = _; rw [HU.out, World.drewN_drewN]
             rw [HUr.out]
             clear d1 d2 d3 b0 b1 KEY
             go_wp2_with fail
             go_roundw
             case rel => exact ⟨q + 1, r + nq, by go_num, by omega, rfl, .inr ⟨rfl, noneC_succ HNN HXQ E2⟩⟩
             case measure => simp [intOf]; omega
           ·have g0 : ((an : Int) == (mm.to : Int)) = false := by
             have : ¬ (an : Int) = (mm.to : Int) := by omega
             simpa using this
            have E2 : Hid ((((am, az), an) : Bo) ≠ ((zm, zs), mm.to)) := fun e => e0 (congrArg (fun x : Bo => x.2) e)
            clear e0
            go_quiet (first | (go_at_call 19; exact Calls.quiet_of (KEY.out _)))
            have HUr : Hid (U.drewN nq = Z.drewN (r + nq)) := by show _ = _; rw [HU.out, World.drewN_drewN]
            rw [HUr.out]
            clear d1 d2 d3 b0 b1 KEY
            go_wp2_with fail
            go_roundw
            case rel => exact ⟨q + 1, r + nq, by go_num, by omega, rfl, .inr ⟨rfl, noneC_succ HNN HXQ E2⟩⟩
            case measure => simp [intOf]; omega
          ·have hqD : decide ((q : Int) < (l.length : Int)) = false := by simp; omega
           have HNI2 : Hid ((l ++ [((zm, zs), mm.to)]).Nodup ∧ ∀ x ∈ l ++ [((zm, zs), mm.to)], J x) := ⟨noneC_nodup HNI.out.1 HNN.out (by omega), fun x hx => by
            rcases List.mem_append.1 hx with hx | hx
            ·exact HNI.out.2 x hx
            ·rw [List.mem_singleton.1 hx]; exact HJZ.out⟩
           have HCY2 : Hid ((l ++ [((zm, zs), mm.to)])[k]? = some ((ym, ys), yn)) := by show _ = _; rw [List.getElem?_append_left hkc]; exact HCY.out
           have r0 : (Z.drewN r).cell? ⟨pb, 0, none⟩ = some (.int .i64 zm) := KX.out.cell 0 rfl
           have r1 : (Z.drewN r).cell? ⟨pb, 1, none⟩ = some (.slice za zs.length zc) := KX.out.cell 1 rfl
           have bq : Below (Z.drewN r).heap.size (Z.drewN r) ((Z.drewN r).alloc (.cells #[.int .i64 zm, .slice za zs.length zc, .int .i64 (mm.to : Int)] 137)) := (Below.refl _ _).alloc (Nat.le_refl _) _
           have OZ4 := Hid.of ((show InnW w.heap.size (Z.drewN r) (.slice za zs.length zc) zs from OZ.out.below (below_drewN (Below.refl _ _) r) HCZ.out.bel.size).below bq HCD.out.bel.size)
           have Q4 := Hid.of (HCD.out.below bq)
           have CF : Hid (∀ j u, ([.int .i64 zm, .slice za zs.length zc, .int .i64 (mm.to : Int)] : List Value)[j]? = some u → ((Z.drewN r).alloc (.cells #[.int .i64 zm, .slice za zs.length zc, .int .i64 (mm.to : Int)] 137)).cell? ((⟨(Z.drewN r).heap.size, 0, none⟩ : Addr).add j) = some u) := cells_triC (Z.drewN r) (Z.drewN r) rfl _ _ _ _
           obtain ⟨vs, hos, hiq⟩ := Q4.out.ow
           have HOS := Hid.of hos
           have HIQ := Hid.of hiq
           have hBq := Q4.out.bel.size
           clear bq hos hiq HCD HCZ
           go_wp2_with (at_builtin; refine wpList_append_block _ rfl (.tmp 144) (.tmp 148) 138 rfl w.heap.size 137 i0 _ 3 40 Tryd.underlying138 hi hz0 hz1 hz2 rfl (by decide) _ _ _ rfl HOS.out ⟨(Z.drewN r).heap.size, 0, none⟩ 1 1 [.int .i64 zm, .slice za zs.length zc, .int .i64 (mm.to : Int)] rfl rfl CF.out (three_vals (x := ((zm, zs), mm.to)) OZ4.out) (by decide) (by unfold maxLen; omega) (by omega) hBq ?_)
           intro v9 w9 o9 g9 n9
           have Q1 := Hid.of (CO.push (x := ((zm, zs), mm.to)) Q4.out HOS.out HIQ.out OZ4.out o9 g9)
           clear o9 g9 n9 HOS HIQ OZ4 Q4 hBq CF r0 r1 KX OZ
           go_wp2_with fail
           go_roundw
           case rel => exact ⟨j + 1, (l ++ [((zm, zs), mm.to)]), by go_num, by omega, HCY2, Q1, HNI2⟩
           case measure => simp [intOf]; omega
      ·clear hS
       go_simp
       have hb : Below Y0.heap.size Y0 (Y0.alloc (.cells #[.int .i64 0, .slice none 0 0] 135)) := (Below.refl _ _).alloc (Nat.le_refl _) _
       have KX := Hid.of (Blk.new Y0 135 #[.int .i64 0, .slice none 0 0])
       have HPB : Hid (W1.heap.size ≤ Y0.heap.size) := HY.out.size
       replace HY := Hid.of (HY.out.trans (hb.mono HY.out.size))
       refine hK'.out _ _ (SA.out _ HY.out) (fun hS => ?_)
       clear hK' K' hb
       revert KX HPB HY hS
       generalize Y0.alloc (.cells #[.int .i64 0, .slice none 0 0] 135) = Y4
       generalize Y0.heap.size = pb
       intro KX HPB HY hS
       refine wpAnyH_ready (rs := [8]) (by kernel_rfl) (by simp) ?_
       refine AllReadyH.cons rfl (fun K' hK' => ?_) AllReadyH.nil
       clear hS
       go_simp
       refine (ron_any p (⟨some ⟨b0, f0, none⟩, lb1, la2, lb2, la3, lb3⟩ : ML) sa sc ta tc o lo ym sy sk ys (j : Int) Y4 (Hid.of (hp.out.below (HBW.out.trans (HY.out.mono HBW.out.size)) (Nat.le_refl _))) (Hid.of (ho.out.below (HBW.out.trans (HY.out.mono HBW.out.size)) (Nat.le_refl _))) (Hid.of (I1.out.below HY.out (Nat.le_refl _))) I2 hl1 hl2).mono ?_
       rintro e1 Y5 hO
       rw [HON.out] at hO
       obtain ⟨za, zc, rfl, hiz, hb⟩ := hO
       have OZ := Hid.of (hiz w.heap.size)
       replace HY := Hid.of (HY.out.trans (hb.mono HY.out.size))
       replace KX := Hid.of (KX.out.below hb KX.out.lt)
       refine hK'.out _ _ (SA.out _ HY.out) (fun hS => ?_)
       clear hK' K' hb hiz
       refine tkH 9 (.tuple #[.agg #[.int .i64 zm, .slice za zs.length zc], .bool true]) rfl (fun w' hw' => by obtain ⟨q0, q1, q2, q3, q4, q5, q6, q7, q8, q9, q10, q11, q12, q13, q14, q15, q16⟩ := hw'; go_simp) hS ?_
       refine tkH 10 (.agg #[.int .i64 zm, .slice za zs.length zc]) rfl (fun w' hw' => by obtain ⟨q0, q1, q2, q3, q4, q5, q6, q7, q8, q9, q10, q11, q12, q13, q14, q15, q16⟩ := hw'; go_simp) hS ?_
       refine tkH 11 (.bool true) rfl (fun w' hw' => by obtain ⟨q0, q1, q2, q3, q4, q5, q6, q7, q8, q9, q10, q11, q12, q13, q14, q15, q16⟩ := hw'; go_simp) hS ?_
       refine wpAnyH_ready (rs := [13]) (by kernel_rfl) (by simp) ?_
       refine AllReadyH.cons rfl (fun K' hK' => ?_) AllReadyH.nil
       clear hS
       have f := KX.out.frozen
       have r0 := KX.out.cell 0 rfl
       have r1 := KX.out.cell 1 rfl
       go_simp
       replace OZ := Hid.of (innW_box OZ.out (Nat.le_trans HBW.out.size HPB.out) KX.out (.int .i64 zm) (.slice za zs.length zc))
       replace HY := Hid.of (below_set2 HY.out HPB.out (.int .i64 zm) (.slice za zs.length zc))
       replace KX := Hid.of ((KX.out.set 0 (.int .i64 zm)).set 1 (.slice za zs.length zc))
       refine hK'.out _ _ (SA.out _ HY.out) (fun hS => ?_)
       clear hK' K' f r0 r1
       revert OZ HY KX hS
       generalize (Y5.setCell ⟨pb, 0, none⟩ (.int .i64 zm)).setCell ⟨pb, 1, none⟩ (.slice za zs.length zc) = Y6
       intro OZ HY KX hS
       refine tkH 14 (.bool true) rfl (fun w' hw' => by obtain ⟨q0, q1, q2, q3, q4, q5, q6, q7, q8, q9, q10, q11, q12, q13, q14, q15, q16⟩ := hw'; go_simp) hS ?_
       refine wpAnyH_done (by kernel_rfl) ?_ _
       clear hS
       obtain ⟨Z, hZ⟩ : ∃ Z : World, Z = Y6 := ⟨_, rfl⟩
       rw [← hZ] at HY KX OZ ⊢
       clear hZ HPB
       have HCZ := Hid.of (HW.out.below HY.out)
       obtain ⟨x0, x1, x2, x3, x4, x5, x6⟩ := ptcell_at HCZ.out.kp
       obtain ⟨u0, u1⟩ := vcell_at HCZ.out.kv
       have c3 := (HY.out.cell (p := ⟨g, k * 3 + 2, none⟩) HG.out).trans C3.out
       have c1 := (HY.out.cell (p := ⟨g, k * 3, none⟩) HG.out).trans C1.out
       cases hse : hasB p.seen (j : Int) with
       | false =>
        have HJZ : Hid (J ((zm, zs), yn)) := hJ.out.un ((ym, ys), yn) (j : Int) (zm, zs) HJY.out (by omega) (by rw [HEV.out]; omega) hse HON.out
        clear u0 u1 c1
        go_wp2_with fail
        clear x0 x1 x2 x3 x4 x5 x6 c3
        refine (refHas_any sa sc p.seen (j : Int) _ (hp.out.below HCZ.out.bel (Nat.le_refl _)).s.at_ hp.out.s.len).mono ?_
        rintro e1 Z ⟨rfl, rfl⟩
        rw [hse]
        clear hse HY
        go_wp2_with fail
        go_loopw [15, 16] (fun v15 i wr => ∃ q r : Nat, i = .int .i64 (q : Int) ∧ q ≤ l.length ∧ wr = Z.drewN r ∧ ((v15 = .bool true ∧ Hid (((zm, zs), yn) ∈ l)) ∨ (v15 = .bool false ∧ Hid (noneC l q ((zm, zs), yn))))) (fun _ i _ => l.length - (intOf i).toNat)
        case atStart => exact ⟨0, 0, rfl, Nat.zero_le _, rfl, .inr ⟨rfl, fun a b hab => absurd hab (by omega)⟩⟩
        case round =>
         obtain ⟨q, r, rfl, hq, rfl, hkb⟩ := hrel
         have HCD := Hid.of (CO.drewN HCZ.out r)
         rcases hkb with ⟨rfl, HIN⟩ | ⟨rfl, HNN⟩
         ·by_cases hqn : q < l.length
          ·have hqD : decide ((q : Int) < (l.length : Int)) = true := by simp; omega
           clear HCZ KX OZ
           go_wp2_with fail
           go_roundw
           case rel => exact ⟨j + 1, l, by go_num, by omega, HCY, HCD, HNI⟩
           case measure => simp [intOf]; omega
          ·have hqD : decide ((q : Int) < (l.length : Int)) = false := by simp; omega
           clear HCZ KX OZ
           go_wp2_with fail
           go_roundw
           case rel => exact ⟨j + 1, l, by go_num, by omega, HCY, HCD, HNI⟩
           case measure => simp [intOf]; omega
         ·by_cases hqn : q < l.length
          ·have hqD : decide ((q : Int) < (l.length : Int)) = true := by simp; omega
           obtain ⟨⟨⟨am, az⟩, an⟩, HXQ⟩ : ∃ y, Hid (l[q]? = some y) := ⟨_, List.getElem?_eq_getElem hqn⟩
           obtain ⟨g2, cp2, ra, rc, eg, hg2, c1, c2, c3, a1, l1, -⟩ := HCZ.out.ow.get HXQ.out
           cases eg
           dsimp only at c1 c2 c3 a1 l1
           have A1 := Hid.of a1
           have L1 := Hid.of l1
           obtain ⟨oq1, oq2, eoz, oz1, oz2, -⟩ := OZ.out.at
           cases eoz
           have A2 := Hid.of oz1
           have L2 := Hid.of oz2
           obtain ⟨U, HU⟩ : ∃ U, Hid (U = Z.drewN r) := ⟨_, rfl⟩
           have d1 : U.cell? ⟨g, q * 3, none⟩ = some (.int .i64 am) := by rw [HU.out]; exact c1
           have d2 : U.cell? ⟨g, q * 3 + 1, none⟩ = some (.slice ra az.length rc) := by rw [HU.out]; exact c2
           have d3 : U.cell? ⟨g, q * 3 + 2, none⟩ = some (.int .i64 (an : Int)) := by rw [HU.out]; exact c3
           have b0 : U.cell? ⟨pb, 0, none⟩ = some (.int .i64 zm) := by rw [HU.out]; exact KX.out.cell 0 rfl
           have b1 : U.cell? ⟨pb, 1, none⟩ = some (.slice za zs.length zc) := by rw [HU.out]; exact KX.out.cell 1 rfl
           have KEY : Hid (∀ r, Calls Tryd.prog 19 #[.slice ra az.length rc, .slice za zs.length zc] (U.drewN r) fun e w' => e = .returned (.bool (sameB az zs)) ∧ ∃ m, w' = (U.drewN r).drewN m) := fun r' => by
            rw [HU.out]
            exact same_any ra za rc zc az zs _ (At.drewN (At.drewN A1.out r) r') (At.drewN (At.drewN A2.out r) r') L1.out L2.out
           have hq0 : (0 : Int) ≤ (q : Int) := by omega
           have hq1 : (q : Int) < (l.length : Int) := by omega
           rw [← HU.out]
           clear c1 c2 c3 a1 l1 hg2 oz1 oz2 A1 A2 L1 L2 HCD
           go_wp2_with fail
           by_cases e0 : an = yn
           ·have g0 : ((an : Int) == (yn : Int)) = true := by simp [e0]
            have E0 := Hid.of e0
            clear e0
            by_cases e1 : am = zm
            ·have g1 : (am == zm) = true := by simp [e1]
             have E1 := Hid.of e1
             clear e1
             cases e2 : sameB az zs with
             | true =>
              have E2 : Hid ((((am, az), an) : Bo) = ((zm, zs), yn)) := by
               have : az = zs := by simpa [sameB] using e2
               show _ = _
               rw [E1.out, this, E0.out]
              rw [e2] at KEY
              clear e2
              go_quiet (first | (go_at_call 19; exact Calls.quiet_of (KEY.out _)))
              have HUr : Hid (U.drewN nq = Z.drewN (r + nq)) := by show _ = _; rw [HU.out, World.drewN_drewN]
              rw [HUr.out]
              clear d1 d2 d3 b0 b1 KEY
              go_wp2_with fail
              go_roundw
              case rel => exact ⟨q + 1, r + nq, by go_num, by omega, rfl, .inl ⟨rfl, by show _ ∈ _; rw [← E2.out]; exact List.mem_of_getElem? HXQ.out⟩⟩
              case measure => simp [intOf]; omega
             | false =>
              have E2 : Hid ((((am, az), an) : Bo) ≠ ((zm, zs), yn)) := fun e => by
               have : az = zs := congrArg (fun x : Bo => x.1.2) e
               rw [this] at e2
               simp [sameB] at e2
              rw [e2] at KEY
              clear e2
              go_quiet (first | (go_at_call 19; exact Calls.quiet_of (KEY.out _)))
              have HUr : Hid (U.drewN nq = Z.drewN (r + nq)) := by show _ = _; rw [HU.out, World.drewN_drewN]
              rw [HUr.out]
              clear d1 d2 d3 b0 b1 KEY
              go_wp2_with fail
              go_roundw
              case rel => exact ⟨q + 1, r + nq, by go_num, by omega, rfl, .inr ⟨rfl, noneC_succ HNN HXQ E2⟩⟩
              case measure => simp [intOf]; omega
            ·have g1 : (am == zm) = false := by simp [e1]
             have E2 : Hid ((((am, az), an) : Bo) ≠ ((zm, zs), yn)) := fun e => e1 (congrArg (fun x : Bo => x.1.1) e)
             clear e1
             go_quiet (first | (go_at_call 19; exact Calls.quiet_of (KEY.out _)))
             have HUr : Hid (U.drewN nq = Z.drewN (r + nq)) := by show _ = _; rw [HU.out, World.drewN_drewN]
             rw [HUr.out]
             clear d1 d2 d3 b0 b1 KEY
             go_wp2_with fail
             go_roundw
             case rel => exact ⟨q + 1, r + nq, by go_num, by omega, rfl, .inr ⟨rfl, noneC_succ HNN HXQ E2⟩⟩
             case measure => simp [intOf]; omega
           ·have g0 : ((an : Int) == (yn : Int)) = false := by
             have : ¬ (an : Int) = (yn : Int) := by omega
             simpa using this
            have E2 : Hid ((((am, az), an) : Bo) ≠ ((zm, zs), yn)) := fun e => e0 (congrArg (fun x : Bo => x.2) e)
            clear e0
            go_quiet (first | (go_at_call 19; exact Calls.quiet_of (KEY.out _)))
            have HUr : Hid (U.drewN nq = Z.drewN (r + nq)) := by show _ = _; rw [HU.out, World.drewN_drewN]
            rw [HUr.out]
            clear d1 d2 d3 b0 b1 KEY
            go_wp2_with fail
            go_roundw
            case rel => exact ⟨q + 1, r + nq, by go_num, by omega, rfl, .inr ⟨rfl, noneC_succ HNN HXQ E2⟩⟩
            case measure => simp [intOf]; omega
          ·have hqD : decide ((q : Int) < (l.length : Int)) = false := by simp; omega
           have HNI2 : Hid ((l ++ [((zm, zs), yn)]).Nodup ∧ ∀ x ∈ l ++ [((zm, zs), yn)], J x) := ⟨noneC_nodup HNI.out.1 HNN.out (by omega), fun x hx => by
            rcases List.mem_append.1 hx with hx | hx
            ·exact HNI.out.2 x hx
            ·rw [List.mem_singleton.1 hx]; exact HJZ.out⟩
           have HCY2 : Hid ((l ++ [((zm, zs), yn)])[k]? = some ((ym, ys), yn)) := by show _ = _; rw [List.getElem?_append_left hkc]; exact HCY.out
           have r0 : (Z.drewN r).cell? ⟨pb, 0, none⟩ = some (.int .i64 zm) := KX.out.cell 0 rfl
           have r1 : (Z.drewN r).cell? ⟨pb, 1, none⟩ = some (.slice za zs.length zc) := KX.out.cell 1 rfl
           have bq : Below (Z.drewN r).heap.size (Z.drewN r) ((Z.drewN r).alloc (.cells #[.int .i64 zm, .slice za zs.length zc, .int .i64 (yn : Int)] 137)) := (Below.refl _ _).alloc (Nat.le_refl _) _
           have OZ4 := Hid.of ((show InnW w.heap.size (Z.drewN r) (.slice za zs.length zc) zs from OZ.out.below (below_drewN (Below.refl _ _) r) HCZ.out.bel.size).below bq HCD.out.bel.size)
           have Q4 := Hid.of (HCD.out.below bq)
           have CF : Hid (∀ j u, ([.int .i64 zm, .slice za zs.length zc, .int .i64 (yn : Int)] : List Value)[j]? = some u → ((Z.drewN r).alloc (.cells #[.int .i64 zm, .slice za zs.length zc, .int .i64 (yn : Int)] 137)).cell? ((⟨(Z.drewN r).heap.size, 0, none⟩ : Addr).add j) = some u) := cells_triC (Z.drewN r) (Z.drewN r) rfl _ _ _ _
           obtain ⟨vs, hos, hiq⟩ := Q4.out.ow
           have HOS := Hid.of hos
           have HIQ := Hid.of hiq
           have hBq := Q4.out.bel.size
           clear bq hos hiq HCD HCZ
           go_wp2_with (at_builtin; refine wpList_append_block _ rfl (.tmp 144) (.tmp 148) 138 rfl w.heap.size 137 i0 _ 3 40 Tryd.underlying138 hi hz0 hz1 hz2 rfl (by decide) _ _ _ rfl HOS.out ⟨(Z.drewN r).heap.size, 0, none⟩ 1 1 [.int .i64 zm, .slice za zs.length zc, .int .i64 (yn : Int)] rfl rfl CF.out (three_vals (x := ((zm, zs), yn)) OZ4.out) (by decide) (by unfold maxLen; omega) (by omega) hBq ?_)
           intro v9 w9 o9 g9 n9
           have Q1 := Hid.of (CO.push (x := ((zm, zs), yn)) Q4.out HOS.out HIQ.out OZ4.out o9 g9)
           clear o9 g9 n9 HOS HIQ OZ4 Q4 hBq CF r0 r1 KX OZ
           go_wp2_with fail
           go_roundw
           case rel => exact ⟨j + 1, (l ++ [((zm, zs), yn)]), by go_num, by omega, HCY2, Q1, HNI2⟩
           case measure => simp [intOf]; omega
       | true =>
        obtain ⟨mm, hmv, hms, hmt, hJZ⟩ := hJ.out.se ((ym, ys), yn) (j : Int) (zm, zs) HJY.out (by omega) (by rw [HEV.out]; omega) hse HON.out
        have HJZ := Hid.of hJZ
        have HMV := Hid.of hmv
        have HMS := Hid.of hms
        have HMT := Hid.of hmt
        clear hJZ hmv hms hmt
        dsimp only at HMV HMS
        clear c1
        go_wp2_with fail
        refine (refHas_any sa sc p.seen (j : Int) _ (hp.out.below HCZ.out.bel (Nat.le_refl _)).s.at_ hp.out.s.len).mono ?_
        rintro e1 Z ⟨rfl, rfl⟩
        rw [hse]
        clear hse
        go_wp2_with fail
        clear x0 x1 x2 x3 x4 x5 x6 u0 u1 c3
        refine (rmove_any w v L yn (j : Int) _ (Hid.of HCZ.out.bel) hv).mono ?_
        rintro e2 Z2 hM
        rw [HMV.out] at hM
        obtain ⟨ma, mc, rfl, hma, hml, hb2⟩ := hM
        obtain ⟨mnd, hmnd⟩ : ∃ x : Int, x = (mm.nd : Int) := ⟨_, rfl⟩
        rw [← hmnd]
        clear hmnd
        have MOB : Below Z2.heap.size Z2 (Z2.alloc (.cells (mvarr mnd mm.ev ma mm.st.length mc (mm.to : Int)) 67)) := (Below.refl _ _).alloc (Nat.le_refl _) _
        have KM := Hid.of (Blk.new Z2 67 (mvarr mnd mm.ev ma mm.st.length mc (mm.to : Int)))
        have HBZ : Hid (Below Z.heap.size Z (Z2.alloc (.cells (mvarr mnd mm.ev ma mm.st.length mc (mm.to : Int)) 67))) := hb2.trans (MOB.mono hb2.size)
        have HMA := Hid.of hma
        have HML := Hid.of hml
        clear MOB hb2 hma hml
        replace OZ := Hid.of (OZ.out.below HBZ.out HCZ.out.bel.size)
        replace KX := Hid.of (KX.out.below HBZ.out KX.out.lt)
        replace HCZ := Hid.of (HCZ.out.below HBZ.out)
        replace HY := Hid.of (HY.out.trans (HBZ.out.mono HY.out.size))
        clear HBZ
        go_wp2_with fail
        revert KM OZ KX HCZ HY
        generalize Z2.alloc (.cells (mvarr mnd mm.ev ma mm.st.length mc (mm.to : Int)) 67) = Z
        generalize Z2.heap.size = pm
        intro KM OZ KX HCZ HY
        obtain ⟨m0, m1, m2, m3⟩ := mvcell_at KM.out
        obtain ⟨u0, u1⟩ := vcell_at HCZ.out.kv
        have c1 := (HY.out.cell (p := ⟨g, k * 3, none⟩) HG.out).trans C1.out
        have KEY1 : Hid (∀ r, Calls Tryd.prog 46 #[.slice ma mm.st.length mc, .int .i64 ym] (Z.drewN r) fun e w' => e = .returned (.bool true) ∧ w' = Z.drewN r) := fun r => by
         have h := refHas_any ma mc mm.st ym (Z.drewN r) (At.drewN (HMA.out.below HCZ.out.bel (Nat.le_refl _)) r) HML.out
         rw [HMS.out] at h
         exact h
        have t0 : decide ((mm.to : Int) < 0) = false := decide_eq_false (by omega)
        have t1 : decide ((v.1.length : Int) ≤ (mm.to : Int)) = false := decide_eq_false (by have := HMT.out; omega)
        have t2 : decide (v.1.length ≤ mm.to) = false := decide_eq_false (by have := HMT.out; omega)
        go_quiet (first | (go_at_call 46; exact Calls.quiet_of_same (KEY1.out _)))
        clear m0 m1 m2 u0 u1 c1 KEY1 KM HMA
        replace OZ : Hid (InnW w.heap.size (Z.drewN nq) (.slice za zs.length zc) zs) := OZ.out.below (below_drewN (Below.refl _ _) nq) HCZ.out.bel.size
        replace KX : Hid (Blk (Z.drewN nq) pb 135 _) := KX.out
        replace HCZ := Hid.of (CO.drewN HCZ.out nq)
        replace m3 : (Z.drewN nq).cell? ⟨pm, 3, none⟩ = some (.int .i64 (mm.to : Int)) := m3
        clear HY
        revert OZ KX HCZ m3
        generalize Z.drewN nq = Z
        intro OZ KX HCZ m3
        go_wp2_with fail
        clear m3 t0 t1 t2
        go_loopw [15, 16] (fun v15 i wr => ∃ q r : Nat, i = .int .i64 (q : Int) ∧ q ≤ l.length ∧ wr = Z.drewN r ∧ ((v15 = .bool true ∧ Hid (((zm, zs), mm.to) ∈ l)) ∨ (v15 = .bool false ∧ Hid (noneC l q ((zm, zs), mm.to))))) (fun _ i _ => l.length - (intOf i).toNat)
        case atStart => exact ⟨0, 0, rfl, Nat.zero_le _, rfl, .inr ⟨rfl, fun a b hab => absurd hab (by omega)⟩⟩
        case round =>
         obtain ⟨q, r, rfl, hq, rfl, hkb⟩ := hrel
         have HCD := Hid.of (CO.drewN HCZ.out r)
         rcases hkb with ⟨rfl, HIN⟩ | ⟨rfl, HNN⟩
         ·by_cases hqn : q < l.length
          ·have hqD : decide ((q : Int) < (l.length : Int)) = true := by simp; omega
           clear HCZ KX OZ
           go_wp2_with fail
           go_roundw
           case rel => exact ⟨j + 1, l, by go_num, by omega, HCY, HCD, HNI⟩
           case measure => simp [intOf]; omega
          ·have hqD : decide ((q : Int) < (l.length : Int)) = false := by simp; omega
           clear HCZ KX OZ
           go_wp2_with fail
           go_roundw
           case rel => exact ⟨j + 1, l, by go_num, by omega, HCY, HCD, HNI⟩
           case measure => simp [intOf]; omega
         ·by_cases hqn : q < l.length
          ·have hqD : decide ((q : Int) < (l.length : Int)) = true := by simp; omega
           obtain ⟨⟨⟨am, az⟩, an⟩, HXQ⟩ : ∃ y, Hid (l[q]? = some y) := ⟨_, List.getElem?_eq_getElem hqn⟩
           obtain ⟨g2, cp2, ra, rc, eg, hg2, c1, c2, c3, a1, l1, -⟩ := HCZ.out.ow.get HXQ.out
           cases eg
           dsimp only at c1 c2 c3 a1 l1
           have A1 := Hid.of a1
           have L1 := Hid.of l1
           obtain ⟨oq1, oq2, eoz, oz1, oz2, -⟩ := OZ.out.at
           cases eoz
           have A2 := Hid.of oz1
           have L2 := Hid.of oz2
           obtain ⟨U, HU⟩ : ∃ U, Hid (U = Z.drewN r) := ⟨_, rfl⟩
           have d1 : U.cell? ⟨g, q * 3, none⟩ = some (.int .i64 am) := by rw [HU.out]; exact c1
           have d2 : U.cell? ⟨g, q * 3 + 1, none⟩ = some (.slice ra az.length rc) := by rw [HU.out]; exact c2
           have d3 : U.cell? ⟨g, q * 3 + 2, none⟩ = some (.int .i64 (an : Int)) := by rw [HU.out]; exact c3
           have b0 : U.cell? ⟨pb, 0, none⟩ = some (.int .i64 zm) := by rw [HU.out]; exact KX.out.cell 0 rfl
           have b1 : U.cell? ⟨pb, 1, none⟩ = some (.slice za zs.length zc) := by rw [HU.out]; exact KX.out.cell 1 rfl
           have KEY : Hid (∀ r, Calls Tryd.prog 19 #[.slice ra az.length rc, .slice za zs.length zc] (U.drewN r) fun e w' => e = .returned (.bool (sameB az zs)) ∧ ∃ m, w' = (U.drewN r).drewN m) := fun r' => by
            rw [HU.out]
            exact same_any ra za rc zc az zs _ (At.drewN (At.drewN A1.out r) r') (At.drewN (At.drewN A2.out r) r') L1.out L2.out
           have hq0 : (0 : Int) ≤ (q : Int) := by omega
           have hq1 : (q : Int) < (l.length : Int) := by omega
           rw [← HU.out]
           clear c1 c2 c3 a1 l1 hg2 oz1 oz2 A1 A2 L1 L2 HCD
           go_wp2_with fail
           by_cases e0 : an = mm.to
           ·have g0 : ((an : Int) == (mm.to : Int)) = true := by simp [e0]
            have E0 := Hid.of e0
            clear e0
            by_cases e1 : am = zm
            ·have g1 : (am == zm) = true := by simp [e1]
             have E1 := Hid.of e1
             clear e1
             cases e2 : sameB az zs with
             | true =>
              have E2 : Hid ((((am, az), an) : Bo) = ((zm, zs), mm.to)) := by
               have : az = zs := by simpa [sameB] using e2
               show _ = _
               rw [E1.out, this, E0.out]
              rw [e2] at KEY
              clear e2
              go_quiet (first | (go_at_call 19; exact Calls.quiet_of (KEY.out _)))
              have HUr : Hid (U.drewN nq = Z.drewN (r + nq)) := by show _ = _; rw [HU.out, World.drewN_drewN]
              rw [HUr.out]
              clear d1 d2 d3 b0 b1 KEY
              go_wp2_with fail
              go_roundw
              case rel => exact ⟨q + 1, r + nq, by go_num, by omega, rfl, .inl ⟨rfl, by show _ ∈ _; rw [← E2.out]; exact List.mem_of_getElem? HXQ.out⟩⟩
              case measure => simp [intOf]; omega
             | false =>
              have E2 : Hid ((((am, az), an) : Bo) ≠ ((zm, zs), mm.to)) := fun e => by
               have : az = zs := congrArg (fun x : Bo => x.1.2) e
               rw [this] at e2
               simp [sameB] at e2
              rw [e2] at KEY
              clear e2
              go_quiet (first | (go_at_call 19; exact Calls.quiet_of (KEY.out _)))
              have HUr : Hid (U.drewN nq = Z.drewN (r + nq)) := by show _ = _; rw [HU.out, World.drewN_drewN]
              rw [HUr.out]
              clear d1 d2 d3 b0 b1 KEY
              go_wp2_with fail
              go_roundw
              case rel => exact ⟨q + 1, r + nq, by go_num, by omega, rfl, .inr ⟨rfl, noneC_succ HNN HXQ E2⟩⟩
              case measure => simp [intOf]; omega
            ·have g1 : (am == zm) = false := by simp [e1]
             have E2 : Hid ((((am, az), an) : Bo) ≠ ((zm, zs), mm.to)) := fun e => e1 (congrArg (fun x : Bo => x.1.1) e)
             clear e1
             go_quiet (first | (go_at_call 19; exact Calls.quiet_of (KEY.out _)))
             have HUr : Hid (U.drewN nq = Z.drewN (r + nq)) := by show _ = _; rw [HU.out, World.drewN_drewN]
             rw [HUr.out]
             clear d1 d2 d3 b0 b1 KEY
             go_wp2_with fail
             go_roundw
             case rel => exact ⟨q + 1, r + nq, by go_num, by omega, rfl, .inr ⟨rfl, noneC_succ HNN HXQ E2⟩⟩
             case measure => simp [intOf]; omega
           ·have g0 : ((an : Int) == (mm.to : Int)) = false := by
             have : ¬ (an : Int) = (mm.to : Int) := by omega
             simpa using this
            have E2 : Hid ((((am, az), an) : Bo) ≠ ((zm, zs), mm.to)) := fun e => e0 (congrArg (fun x : Bo => x.2) e)
            clear e0
            go_quiet (first | (go_at_call 19; exact Calls.quiet_of (KEY.out _)))
            have HUr : Hid (U.drewN nq = Z.drewN (r + nq)) := by show _ = _; rw [HU.out, World.drewN_drewN]
            rw [HUr.out]
            clear d1 d2 d3 b0 b1 KEY
            go_wp2_with fail
            go_roundw
            case rel => exact ⟨q + 1, r + nq, by go_num, by omega, rfl, .inr ⟨rfl, noneC_succ HNN HXQ E2⟩⟩
            case measure => simp [intOf]; omega
          ·have hqD : decide ((q : Int) < (l.length : Int)) = false := by simp; omega
           have HNI2 : Hid ((l ++ [((zm, zs), mm.to)]).Nodup ∧ ∀ x ∈ l ++ [((zm, zs), mm.to)], J x) := ⟨noneC_nodup HNI.out.1 HNN.out (by omega), fun x hx => by
            rcases List.mem_append.1 hx with hx | hx
            ·exact HNI.out.2 x hx
            ·rw [List.mem_singleton.1 hx]; exact HJZ.out⟩
           have HCY2 : Hid ((l ++ [((zm, zs), mm.to)])[k]? = some ((ym, ys), yn)) := by show _ = _; rw [List.getElem?_append_left hkc]; exact HCY.out
           have r0 : (Z.drewN r).cell? ⟨pb, 0, none⟩ = some (.int .i64 zm) := KX.out.cell 0 rfl
           have r1 : (Z.drewN r).cell? ⟨pb, 1, none⟩ = some (.slice za zs.length zc) := KX.out.cell 1 rfl
           have bq : Below (Z.drewN r).heap.size (Z.drewN r) ((Z.drewN r).alloc (.cells #[.int .i64 zm, .slice za zs.length zc, .int .i64 (mm.to : Int)] 137)) := (Below.refl _ _).alloc (Nat.le_refl _) _
           have OZ4 := Hid.of ((show InnW w.heap.size (Z.drewN r) (.slice za zs.length zc) zs from OZ.out.below (below_drewN (Below.refl _ _) r) HCZ.out.bel.size).below bq HCD.out.bel.size)
           have Q4 := Hid.of (HCD.out.below bq)
           have CF : Hid (∀ j u, ([.int .i64 zm, .slice za zs.length zc, .int .i64 (mm.to : Int)] : List Value)[j]? = some u → ((Z.drewN r).alloc (.cells #[.int .i64 zm, .slice za zs.length zc, .int .i64 (mm.to : Int)] 137)).cell? ((⟨(Z.drewN r).heap.size, 0, none⟩ : Addr).add j) = some u) := cells_triC (Z.drewN r) (Z.drewN r) rfl _ _ _ _
           obtain ⟨vs, hos, hiq⟩ := Q4.out.ow
           have HOS := Hid.of hos
           have HIQ := Hid.of hiq
           have hBq := Q4.out.bel.size
           clear bq hos hiq HCD HCZ
           go_wp2_with (at_builtin; refine wpList_append_block _ rfl (.tmp 144) (.tmp 148) 138 rfl w.heap.size 137 i0 _ 3 40 Tryd.underlying138 hi hz0 hz1 hz2 rfl (by decide) _ _ _ rfl HOS.out ⟨(Z.drewN r).heap.size, 0, none⟩ 1 1 [.int .i64 zm, .slice za zs.length zc, .int .i64 (mm.to : Int)] rfl rfl CF.out (three_vals (x := ((zm, zs), mm.to)) OZ4.out) (by decide) (by unfold maxLen; omega) (by omega) hBq ?_)
           intro v9 w9 o9 g9 n9
           have Q1 := Hid.of (CO.push (x := ((zm, zs), mm.to)) Q4.out HOS.out HIQ.out OZ4.out o9 g9)
           clear o9 g9 n9 HOS HIQ OZ4 Q4 hBq CF r0 r1 KX OZ
           go_wp2_with fail
           go_roundw
           case rel => exact ⟨j + 1, (l ++ [((zm, zs), mm.to)]), by go_num, by omega, HCY2, Q1, HNI2⟩
           case measure => simp [intOf]; omega
    ·have hjD : decide ((j : Int) < p.m.ev) = false := by rw [HEV.out]; simp; omega
     clear c1q c2q c3q i1 i2 hg
     go_wp2_with fail
     go_roundw
     case rel => exact ⟨k + 1, l, by go_num, by omega, HW, HNI⟩
     case measure => simp [intOf]; omega
  ·have hkD : decide ((k : Int) < (l.length : Int)) = false := by simp; omega
   have HBW := Hid.of HW.out.bel
   go_wp2_with fail
   exact bodyPost_ret (v := .bool true) (by simp [results, go_sem]) rfl ⟨rfl, HBW.out⟩

end Go.Proofs.YtkodmnooibpflaaDoor
