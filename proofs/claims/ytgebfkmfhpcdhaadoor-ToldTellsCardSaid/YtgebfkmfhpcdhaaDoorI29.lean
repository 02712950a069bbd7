/-
  Plain: rows of places, one arrow at a time; what the walks of jalousieref12 know of the memory.
  The walk of jalousieref12.wide.
  The walk of jalousieref12.step.
-/
import Derived.Test.YtgebfkmfhpcdhaaDoorI28
import Derived.Test.YtgebfkmfhpcdhaaDoorI05
import Derived.Test.YtgebfkmfhpcdhaaDoorI17
import Derived.Test.YtgebfkmfhpcdhaaDoorI19
import Derived.Deep.RegionHeld3
import Derived.Test.YtgebfkmfhpcdhaaDoorI14
namespace Go.Proofs.YtgebfkmfhpcdhaaDoor
open Go.RowKit
set_option linter.unusedVariables false

def rowG (sel : Arr → Bool) (f : Arr → Pla) (ars : List Arr) (l : List Pla) (j : Nat) : List Pla := cRow l (((ars.take j).filter sel).map f)
theorem rowG_zero (sel : Arr → Bool) (f : Arr → Pla) (ars : List Arr) (l : List Pla) : rowG sel f ars l 0 = l := by simp [rowG, cRow]
theorem rowG_yes {sel : Arr → Bool} {f : Arr → Pla} {ars : List Arr} {l : List Pla} {j : Nat} {a : Arr} (h : ars[j]? = some a) (hs : sel a = true) : rowG sel f ars l (j + 1) = cAdd (rowG sel f ars l j) (f a) := by
  unfold rowG cRow
  rw [List.take_add_one, h, Option.toList_some, List.filter_append, List.map_append, List.foldl_append, List.filter_cons_of_pos hs]; rfl
theorem rowG_no {sel : Arr → Bool} {f : Arr → Pla} {ars : List Arr} {l : List Pla} {j : Nat} {a : Arr} (h : ars[j]? = some a) (hs : sel a = false) : rowG sel f ars l (j + 1) = rowG sel f ars l j := by
  unfold rowG cRow
  rw [List.take_add_one, h, Option.toList_some, List.filter_append, List.filter_cons_of_neg (by rw [hs]; simp)]; simp
theorem rowG_end (sel : Arr → Bool) (f : Arr → Pla) (ars : List Arr) (l : List Pla) : rowG sel f ars l ars.length = cRow l ((ars.filter sel).map f) := by unfold rowG; rw [List.take_length]
theorem rowG_nodup {sel : Arr → Bool} {f : Arr → Pla} {ars : List Arr} {l : List Pla} (h : l.Nodup) (j : Nat) : (rowG sel f ars l j).Nodup := nodup_cRow _ h
theorem rowG_in {sel : Arr → Bool} {f : Arr → Pla} {ars : List Arr} {l : List Pla} {U : List Pla} (h : ∀ x ∈ l, x ∈ U) (hf : ∀ a ∈ ars, f a ∈ U) (j : Nat) : ∀ x ∈ rowG sel f ars l j, x ∈ U := fun x hx => by
  rcases (mem_cRow _ _ _).1 hx with q | q
  · exact h x q
  · obtain ⟨a, ha, rfl⟩ := List.mem_map.1 q
    exact hf a (List.mem_of_mem_take (List.mem_filter.1 ha).1)
theorem rowG_at {sel : Arr → Bool} {f : Arr → Pla} {ars : List Arr} {l : List Pla} {k : Nat} {x : Pla} (h : l[k]? = some x) (j : Nat) : (rowG sel f ars l j)[k]? = some x := by
  obtain ⟨t, ht⟩ := cRow_pre (((ars.take j).filter sel).map f) l
  unfold rowG
  rw [ht, List.getElem?_append_left (List.getElem?_eq_some_iff.1 h).1]
  exact h
def selU (seen : List Int) (ym : Int) (a : Arr) : Bool := decide (a.f = ym) && !hasB seen a.e
def selE (e ym : Int) (a : Arr) : Bool := decide (a.f = ym) && decide (a.e = e)
theorem rowG_unQ (m s : Mach) (seen : List Int) (y : Pla) (l : List Pla) : rowG (selU seen y.1) (plTo s y) m.arrows l m.arrows.length = cRow l (unQ m s seen y) := rowG_end _ _ _ _
theorem rowG_evQ (m s : Mach) (e : Int) (y : Pla) (l : List Pla) : rowG (selE e y.1) (plTo s y) m.arrows l m.arrows.length = cRow l (evQ m s e y) := rowG_end _ _ _ _
theorem cAdd_yes {l : List Pla} {x : Pla} (h : memQ l x = true) : cAdd l x = l := by unfold cAdd; rw [if_pos (of_decide_eq_true h)]
theorem cAdd_no {l : List Pla} {x : Pla} (h : memQ l x = false) : cAdd l x = l ++ [x] := by unfold cAdd; rw [if_neg (of_decide_eq_false h)]

/-- What wide and step know: two boxed machines, and a row of the call's own. -/
structure WQ (w W : World) (B n : Nat) (m s : Mach) (lm ls : ML) (v : Value) (l : List Pla) : Prop where
  ow : OwnQ n W B v l
  bel : Below B w W
  km : Blk W w.heap.size 25 (mcells m lm)
  ks : Blk W (w.heap.size + 1) 25 (mcells s ls)
  hB : B ≤ W.heap.size
  hn : n ≤ B
section
variable {w W : World} {B n : Nat} {m s : Mach} {lm ls : ML} {v : Value} {l : List Pla}
theorem WQ.below {W' : World} (h : WQ w W B n m s lm ls v l) (hb : Below W.heap.size W W') : WQ w W' B n m s lm ls v l :=
  ⟨h.ow.below hb (Nat.le_trans h.hn h.hB), h.bel.trans (hb.mono h.hB), h.km.below hb h.km.lt, h.ks.below hb h.ks.lt, Nat.le_trans h.hB hb.size, h.hn⟩
/-- One more. -/
theorem WQ.push {W2 : World} {v' z : Value} {x : Pla} {vs : List Value} (h : WQ w W B n m s lm ls v l) (ho : W.ownsRow B 140 2 v l.length vs) (hi : ∀ (k : Nat) (x : Pla), l[k]? = some x → vs[k * 2]? = some (.int .i64 x.1) ∧ ∃ z, vs[k * 2 + 1]? = some z ∧ InnW n W z x.2) (hz : InnW n W z x.2) (o1 : W2.ownsRow B 140 2 v' (l.length + 1) (vs ++ [.int .i64 x.1, z])) (g : W.grownBy W2 v.ownBlock) : WQ w W2 B n m s lm ls v' (l ++ [x]) := by
  have hty : ∀ (q : Nat) (cs : Array Value), W.heap[q]? = some (.cells cs 25 (0, 0)) → W2.heap[q]? = W.heap[q]? := fun q cs hq => g.block q (Array.getElem?_eq_some_iff.1 hq).1 (fun e => by
    obtain ⟨c2, h2⟩ := own_type ho e.symm
    rw [hq] at h2; cases h2)
  exact ⟨OwnQ.push h.hn h.hB ho hi hz o1 g, h.bel.grown g h.hB (fun j hj => (World.ownsRow.lt ho j hj).1), (hty _ _ h.km).trans h.km, (hty _ _ h.ks).trans h.ks, Nat.le_trans h.hB g.size, h.hn⟩
end

end Go.Proofs.YtgebfkmfhpcdhaaDoor
namespace Go.Proofs.YtgebfkmfhpcdhaaDoor
open Go.RowKit
set_option linter.unusedVariables false

set_option maxRecDepth 100000 in
set_option maxHeartbeats 16000000 in
theorem rqwide_go (st ev : Int) (starts : List Int) (ars : List Arr) (ends : List Int) (a1 : Option Addr) (c1 : Nat) (a2 : Option Addr) (c2 : Nat) (a3 : Option Addr) (c3 : Nat) (st2 ev2 : Int) (starts2 : List Int) (ars2 : List Arr) (ends2 : List Int) (d1 : Option Addr) (e1 : Nat) (d2 : Option Addr) (e2 : Nat) (d3 : Option Addr) (e3 : Nat) (sa : Option Addr) (sc : Nat) (seen : List Int) (w0 : World) (hma : Hid (MAt w0 ⟨st, ev, starts, ars, ends⟩ ⟨a1, c1, a2, c2, a3, c3⟩)) (hms : Hid (MAt w0 ⟨st2, ev2, starts2, ars2, ends2⟩ ⟨d1, e1, d2, e2, d3, e3⟩)) (hse : Hid (At w0 sa seen)) (hsl : Hid (seen.length ≤ maxLen)) (mm : Hid (mayB ⟨st, ev, starts, ars, ends⟩ = true)) (ms : Hid (mayB ⟨st2, ev2, starts2, ars2, ends2⟩ = true)) (zm : Hid (st ≤ 6)) (zs : Hid (st2 ≤ 4)) (n B : Nat) (v : Value) (l : List Pla) (w : World) (hb : Hid (Below w0.heap.size w0 w)) (h0 : w0.heap.size ≤ B) (hn : n ≤ B) (hB : B ≤ w.heap.size) (hv : Hid (OwnQ n w B v l)) (hnd : Hid (l.Nodup)) (hin : Hid (∀ x ∈ l, x ∈ allQ ⟨st, ev, starts, ars, ends⟩ ⟨st2, ev2, starts2, ars2, ends2⟩)) :
    Calls Tryd.prog 133 #[mval ⟨st, ev, starts, ars, ends⟩ ⟨a1, c1, a2, c2, a3, c3⟩, mval ⟨st2, ev2, starts2, ars2, ends2⟩ ⟨d1, e1, d2, e2, d3, e3⟩, .slice sa seen.length sc, v] w fun e w' => ∃ v', e = .returned v' ∧ OwnQ n w' B v' (wideQ ⟨st, ev, starts, ars, ends⟩ ⟨st2, ev2, starts2, ars2, ends2⟩ seen l) ∧ Below B w w' := by
  have hz := mayB_size mm.out
  have hz2' := mayB_size ms.out
  unfold sizeOk at hz hz2'
  dsimp only at hz hz2'
  have hlen : ars.length ≤ 4096 := by omega
  have hlen2 : Hid (ars2.length ≤ 17592186044416) := show _ ≤ _ by omega
  clear hz hz2'
  obtain ⟨i0, hi, hz0, hz1, hz2⟩ := info_parts Tryd.infoAtQ
  have HW0 : Hid (WQ w ((w.alloc (.cells (mcells ⟨st, ev, starts, ars, ends⟩ ⟨a1, c1, a2, c2, a3, c3⟩) 25)).alloc (.cells (mcells ⟨st2, ev2, starts2, ars2, ends2⟩ ⟨d1, e1, d2, e2, d3, e3⟩) 25)) B n ⟨st, ev, starts, ars, ends⟩ ⟨st2, ev2, starts2, ars2, ends2⟩ ⟨a1, c1, a2, c2, a3, c3⟩ ⟨d1, e1, d2, e2, d3, e3⟩ v l) := by
    have b2 : Below w.heap.size w ((w.alloc (.cells (mcells ⟨st, ev, starts, ars, ends⟩ ⟨a1, c1, a2, c2, a3, c3⟩) 25)).alloc (.cells (mcells ⟨st2, ev2, starts2, ars2, ends2⟩ ⟨d1, e1, d2, e2, d3, e3⟩) 25)) := ((Below.refl _ _).alloc (Nat.le_refl _) _).alloc (by simp) _
    refine ⟨hv.out.below b2 (Nat.le_trans hn hB), b2.mono hB, (Blk.new w _ _).alloc _, ?_, Nat.le_trans hB b2.size, hn⟩
    have := Blk.new (w.alloc (.cells (mcells ⟨st, ev, starts, ars, ends⟩ ⟨a1, c1, a2, c2, a3, c3⟩) 25)) 25 (mcells ⟨st2, ev2, starts2, ars2, ends2⟩ ⟨d1, e1, d2, e2, d3, e3⟩)
    rwa [World.size_alloc] at this
  have hto : Hid (∀ (y : Pla) (a : Arr), a ∈ ars → plTo ⟨st2, ev2, starts2, ars2, ends2⟩ y a ∈ allQ ⟨st, ev, starts, ars, ends⟩ ⟨st2, ev2, starts2, ars2, ends2⟩) := fun y a ha => plTo_in mm.out ms.out zm.out zs.out ha
  have h96 : Hid ((allQ ⟨st, ev, starts, ars, ends⟩ ⟨st2, ev2, starts2, ars2, ends2⟩).length ≤ 96) := allQ_len zm.out _
  obtain ⟨va, vc, hv0⟩ := hv.out.form
  subst hv0
  go_enter Tryd.func133, Tryd.ntmps133
  go_wp2_with fail
  revert HW0
  generalize ((w.alloc (.cells (mcells ⟨st, ev, starts, ars, ends⟩ ⟨a1, c1, a2, c2, a3, c3⟩) 25)).alloc (.cells (mcells ⟨st2, ev2, starts2, ars2, ends2⟩ ⟨d1, e1, d2, e2, d3, e3⟩) 25)) = V0
  intro HW0
  go_loopw [3, 9] (fun v3 i wr => ∃ (k : Nat) (L : List Pla), i = .int .i64 k ∧ k ≤ L.length ∧ L.length ≤ 96 ∧ Hid (WQ w wr B n ⟨st, ev, starts, ars, ends⟩ ⟨st2, ev2, starts2, ars2, ends2⟩ ⟨a1, c1, a2, c2, a3, c3⟩ ⟨d1, e1, d2, e2, d3, e3⟩ v3 L) ∧ Hid (L.Nodup ∧ ∀ x ∈ L, x ∈ allQ ⟨st, ev, starts, ars, ends⟩ ⟨st2, ev2, starts2, ars2, ends2⟩) ∧ Hid (wideQ ⟨st, ev, starts, ars, ends⟩ ⟨st2, ev2, starts2, ars2, ends2⟩ seen l = cGo (unQ ⟨st, ev, starts, ars, ends⟩ ⟨st2, ev2, starts2, ars2, ends2⟩ seen) (0, []) (1000 - k) k L)) (fun _ i _ => 97 - (intOf i).toNat)
  case atStart => exact ⟨0, l, rfl, Nat.zero_le _, Nat.le_trans (nodup_sub hnd.out hin.out) h96.out, HW0, ⟨hnd.out, hin.out⟩, rfl⟩
  case round =>
    clear HW0
    obtain ⟨k, L, rfl, hk, hL96, HW, HNI, HGO⟩ := hrel
    obtain ⟨va, vc, hv3⟩ := HW.out.ow.form
    subst hv3
    by_cases hlt : k < L.length
    · obtain ⟨⟨ym, ys⟩, HY⟩ : ∃ y, Hid (L[k]? = some y) := ⟨_, List.getElem?_eq_getElem hlt⟩
      go_wp2_with fail
      go_loopw [3, 10] (fun v3 i wr' => ∃ (j : Nat), i = .int .i64 j ∧ j ≤ ars.length ∧ Hid (WQ w wr' B n ⟨st, ev, starts, ars, ends⟩ ⟨st2, ev2, starts2, ars2, ends2⟩ ⟨a1, c1, a2, c2, a3, c3⟩ ⟨d1, e1, d2, e2, d3, e3⟩ v3 (rowG (selU seen ym) (plTo ⟨st2, ev2, starts2, ars2, ends2⟩ (ym, ys)) ars L j))) (fun _ i _ => ars.length - (intOf i).toNat)
      case atStart => exact ⟨0, rfl, Nat.zero_le _, by rw [rowG_zero]; exact HW⟩
      case round =>
        clear HW
        obtain ⟨j, rfl, hj, HW⟩ := hrel
        obtain ⟨cur, HC⟩ : ∃ cur, Hid (cur = rowG (selU seen ym) (plTo ⟨st2, ev2, starts2, ars2, ends2⟩ (ym, ys)) ars L j) := ⟨_, rfl⟩
        rw [← HC.out] at HW
        have hcl : cur.length ≤ 96 := by
          rw [HC.out]
          exact Nat.le_trans (nodup_sub (rowG_nodup HNI.out.1 j) (rowG_in HNI.out.2 (fun a ha => hto.out _ a ha) j)) h96.out
        have HCY : Hid (cur[k]? = some (ym, ys)) := by show _ = _; rw [HC.out]; exact rowG_at HY.out j
        have hkc : k < cur.length := (List.getElem?_eq_some_iff.1 HCY.out).1
        obtain ⟨va, vc, hv3⟩ := HW.out.ow.form
        subst hv3
        by_cases hjl : j < ars.length
        · have hjD : decide ((j : Int) < (ars.length : Int)) = true := by simp; omega
          have hkD : decide ((k : Int) < (cur.length : Int)) = true := by simp; omega
          rcases hma.out.a with h0a | ⟨b, off, hab, hbl, hca⟩
          · rw [show ars = [] from h0a] at hjl; simp at hjl
          subst hab
          dsimp only at hca
          obtain ⟨a, HA, y0, y1, y2⟩ := hca.at hjl
          have HAR : Hid (ars[j]? = some a) := by show _ = _; rw [HA.out, List.getElem?_eq_getElem hjl, Option.getD_some]
          have BW := Hid.of (hb.out.trans (HW.out.bel.mono h0))
          replace y0 := (BW.out.cell (p := ⟨b, off + j * 3, none⟩) hbl).trans y0
          replace y1 := (BW.out.cell (p := ⟨b, off + j * 3 + 1, none⟩) hbl).trans y1
          replace y2 := (BW.out.cell (p := ⟨b, off + j * 3 + 2, none⟩) hbl).trans y2
          obtain ⟨qa, qc, eq, qat, -⟩ := HW.out.ow.at
          cases eq
          obtain ⟨g, o, sy, sk, hga, hg, c1q, c2q, i1, i2, -⟩ := qat.get HCY.out
          dsimp only at c1q c2q i1 i2
          subst hga
          have V1N : Hid (w.heap.size + 1 < wr.heap.size) := HW.out.ks.lt
          have HG := Hid.of hg
          have I1 := Hid.of i1
          have I2 := Hid.of i2
          have V1 : Hid (WQ w (wr.alloc (.cells #[.int .i64 a.f, .int .i64 a.e, .int .i64 a.t] 75)) B n ⟨st, ev, starts, ars, ends⟩ ⟨st2, ev2, starts2, ars2, ends2⟩ ⟨a1, c1, some ⟨b, off, none⟩, c2, a3, c3⟩ ⟨d1, e1, d2, e2, d3, e3⟩ (.slice (some ⟨g, o, none⟩) cur.length vc) cur) := HW.out.below ((Below.refl _ _).alloc (Nat.le_refl _) _)
          have KA : Hid (Blk (wr.alloc (.cells #[.int .i64 a.f, .int .i64 a.e, .int .i64 a.t] 75)) wr.heap.size 75 #[.int .i64 a.f, .int .i64 a.e, .int .i64 a.t]) := Blk.new wr _ _
          have BA : Hid (Below wr.heap.size wr (wr.alloc (.cells #[.int .i64 a.f, .int .i64 a.e, .int .i64 a.t] 75))) := (Below.refl _ _).alloc (Nat.le_refl _) _
          obtain ⟨x0, x1, x2, x3, x4⟩ := mcell_at HW.out.km
          dsimp only at x0 x1 x2 x3 x4
          have f0 := KA.out.cell 0 rfl
          have f1 := KA.out.cell 1 rfl
          have f2 := KA.out.cell 2 rfl
          have z1 := (BA.out.cell (p := ⟨g, o + k * 2, none⟩) hg).trans c1q
          have z2 := (BA.out.cell (p := ⟨g, o + k * 2 + 1, none⟩) hg).trans c2q
          go_wp2_with fail
          clear x0 x1 x2 x3 x4 y0 y1 y2 c1q c2q i1 i2 hg HW BW qat
          have A1 := Hid.of (I1.out.below BA.out (Nat.le_refl _))
          have NL : Hid (w.heap.size + 1 < wr.heap.size) := V1N.out
          have GL : Hid (g < (wr.alloc (.cells #[.int .i64 a.f, .int .i64 a.e, .int .i64 a.t] 75)).heap.size) := Nat.lt_of_lt_of_le HG.out BA.out.size
          clear I1 HG V1N BA
          revert V1 KA f0 f1 f2 z1 z2 A1 NL GL
          generalize wr.alloc (.cells #[.int .i64 a.f, .int .i64 a.e, .int .i64 a.t] 75) = V
          generalize wr.heap.size = N
          intro V1 KA f0 f1 f2 z1 z2 A1 NL GL
          have KEY1 : Hid (∀ r, Calls Tryd.prog 53 #[.slice sa seen.length sc, .int .i64 a.e] (V.drewN r) fun e w' => e = .returned (.bool (hasB seen a.e)) ∧ w' = V.drewN r) := fun r => refHas_any sa sc seen a.e _ (At.drewN (hse.out.below (hb.out.trans (V1.out.bel.mono h0)) (Nat.le_refl _)) r) hsl.out
          by_cases e1 : a.f = ym
          · have g1 : (a.f != ym) = false := by simp [e1]
            have E1 := Hid.of e1
            clear e1
            cases e2 : hasB seen a.e with
            | true =>
              have HNX : Hid (rowG (selU seen ym) (plTo ⟨st2, ev2, starts2, ars2, ends2⟩ (ym, ys)) ars L (j + 1) = cur) := by show _ = _; rw [rowG_no HAR.out (by unfold selU; rw [e2]; simp), ← HC.out]
              rw [e2] at KEY1
              clear e2
              go_quiet (first | (go_at_call 53; exact Calls.quiet_of_same (KEY1.out _)))
              obtain ⟨V2, HV2⟩ : ∃ V2, Hid (V2 = V.drewN nq) := ⟨_, rfl⟩
              have b2 : Below V.heap.size V V2 := by rw [HV2.out]; exact below_drewN (Below.refl _ _) nq
              rw [← HV2.out]
              have Q1 := Hid.of (V1.out.below b2)
              clear V1 KA f0 f1 f2 z1 z2 A1 KEY1 b2
              go_wp2_with fail
              go_roundw
              case rel => exact ⟨j + 1, by go_num, by omega, by rw [HNX.out]; exact Q1⟩
              case measure => simp [intOf]; omega
            | false =>
              have E2 := Hid.of e2
              rw [e2] at KEY1
              clear e2
              go_quiet (first | (go_at_call 53; exact Calls.quiet_of_same (KEY1.out _)))
              obtain ⟨V2, HV2⟩ : ∃ V2, Hid (V2 = V.drewN nq) := ⟨_, rfl⟩
              have b2 : Below V.heap.size V V2 := by rw [HV2.out]; exact below_drewN (Below.refl _ _) nq
              rw [← HV2.out]
              have Q1 := Hid.of (V1.out.below b2)
              have KA2 := Hid.of (KA.out.below b2 KA.out.lt)
              have A2 := Hid.of (A1.out.below b2 (Nat.le_refl _))
              have GL2 : Hid (g < V2.heap.size) := Nat.lt_of_lt_of_le GL.out b2.size
              have z3 := (b2.cell (p := ⟨g, o + k * 2 + 1, none⟩) GL.out).trans z2
              clear V1 KA f0 f1 f2 z1 z2 A1 KEY1 b2 HV2
              go_wp2_with fail
              have SA : Hid (∀ W, Blk W (w.heap.size + 1) 25 (mcells ⟨st2, ev2, starts2, ars2, ends2⟩ ⟨d1, e1, d2, e2, d3, e3⟩) → Blk W N 75 #[.int .i64 a.f, .int .i64 a.e, .int .i64 a.t] → W.cell? ⟨g, o + k * 2 + 1, none⟩ = some (.slice sy ys.length sk) → W.cell? ⟨w.heap.size + 1, 0, none⟩ = some (.int .i64 st2) ∧ W.cell? ⟨w.heap.size + 1, 1, none⟩ = some (.int .i64 ev2) ∧ W.cell? ⟨w.heap.size + 1, 2, none⟩ = some (.slice d1 starts2.length e1) ∧ W.cell? ⟨w.heap.size + 1, 3, none⟩ = some (.slice d2 ars2.length e2) ∧ W.cell? ⟨w.heap.size + 1, 4, none⟩ = some (.slice d3 ends2.length e3) ∧ W.cell? ⟨g, o + k * 2 + 1, none⟩ = some (.slice sy ys.length sk) ∧ W.cell? ⟨N, 1, none⟩ = some (.int .i64 a.e)) := fun W h1 h2 h3 => by
                obtain ⟨x0, x1, x2, x3, x4⟩ := mcell_at h1
                exact ⟨x0, x1, x2, x3, x4, h3, h2.cell 1 rfl⟩
              refine wp_region_held_drew (S := fun w' => w'.cell? ⟨w.heap.size + 1, 0, none⟩ = some (.int .i64 st2) ∧ w'.cell? ⟨w.heap.size + 1, 1, none⟩ = some (.int .i64 ev2) ∧ w'.cell? ⟨w.heap.size + 1, 2, none⟩ = some (.slice d1 starts2.length e1) ∧ w'.cell? ⟨w.heap.size + 1, 3, none⟩ = some (.slice d2 ars2.length e2) ∧ w'.cell? ⟨w.heap.size + 1, 4, none⟩ = some (.slice d3 ends2.length e3) ∧ w'.cell? ⟨g, o + k * 2 + 1, none⟩ = some (.slice sy ys.length sk) ∧ w'.cell? ⟨N, 1, none⟩ = some (.int .i64 a.e)) (by kernel_rfl) (SA.out _ (Blk.drew Q1.out.ks) (Blk.drew KA2.out) z3) (fun hS => ?_)
              have bd : Below V2.heap.size V2 V2.drew := (Below.refl _ _).drew
              replace Q1 := Hid.of (Q1.out.below bd)
              replace KA2 := Hid.of (KA2.out.below bd KA2.out.lt)
              replace A2 := Hid.of (A2.out.below bd (Nat.le_refl _))
              replace z3 : V2.drew.cell? ⟨g, o + k * 2 + 1, none⟩ = some (.slice sy ys.length sk) := z3
              replace GL2 : Hid (g < V2.drew.heap.size) := GL2.out
              clear bd
              revert hS Q1 KA2 A2 z3 GL2
              generalize V2.drew = Y
              intro hS Q1 KA2 A2 z3 GL2
              refine wpAnyH_take (i := 0) (v := .agg #[.int .i64 st2, .int .i64 ev2, .slice d1 starts2.length e1, .slice d2 ars2.length e2, .slice d3 ends2.length e3]) rfl (by kernel_rfl) (by kernel_rfl) (by kernel_rfl) (fun _ _ _ h => h) (Or.inl ⟨by kernel_rfl, fun w' hw' => by obtain ⟨q0, q1, q2, q3, q4, q5, q6⟩ := hw'; go_simp⟩) hS ?_
              refine wpAnyH_take (i := 1) (v := .slice (some ⟨g, o, none⟩) cur.length vc) rfl (by kernel_rfl) (by kernel_rfl) (by kernel_rfl) (fun _ _ _ h => h) (Or.inl ⟨by kernel_rfl, fun w' hw' => by obtain ⟨q0, q1, q2, q3, q4, q5, q6⟩ := hw'; go_simp⟩) hS ?_
              refine wpAnyH_take (i := 2) (v := .int .i64 k) rfl (by kernel_rfl) (by kernel_rfl) (by kernel_rfl) (fun _ _ _ h => h) (Or.inl ⟨by kernel_rfl, fun w' hw' => by obtain ⟨q0, q1, q2, q3, q4, q5, q6⟩ := hw'; go_simp⟩) hS ?_
              refine wpAnyH_take (i := 3) (v := .pointer (some ⟨g, o + k * 2, none⟩)) rfl (by kernel_rfl) (by kernel_rfl) (by kernel_rfl) (fun _ _ _ h => h) (Or.inl ⟨by kernel_rfl, fun w' hw' => by obtain ⟨q0, q1, q2, q3, q4, q5, q6⟩ := hw'; go_simp⟩) hS ?_
              refine wpAnyH_take (i := 4) (v := .pointer (some ⟨g, o + k * 2 + 1, none⟩)) rfl (by kernel_rfl) (by kernel_rfl) (by kernel_rfl) (fun _ _ _ h => h) (Or.inl ⟨by kernel_rfl, fun w' hw' => by obtain ⟨q0, q1, q2, q3, q4, q5, q6⟩ := hw'; go_simp⟩) hS ?_
              refine wpAnyH_take (i := 5) (v := .slice sy ys.length sk) rfl (by kernel_rfl) (by kernel_rfl) (by kernel_rfl) (fun _ _ _ h => h) (Or.inl ⟨by kernel_rfl, fun w' hw' => by obtain ⟨q0, q1, q2, q3, q4, q5, q6⟩ := hw'; go_simp⟩) hS ?_
              refine wpAnyH_take (i := 6) (v := .pointer (some ⟨N, 1, none⟩)) rfl (by kernel_rfl) (by kernel_rfl) (by kernel_rfl) (fun _ _ _ h => h) (Or.inl ⟨by kernel_rfl, fun w' hw' => by obtain ⟨q0, q1, q2, q3, q4, q5, q6⟩ := hw'; go_simp⟩) hS ?_
              refine wpAnyH_take (i := 7) (v := .int .i64 a.e) rfl (by kernel_rfl) (by kernel_rfl) (by kernel_rfl) (fun _ _ _ h => h) (Or.inl ⟨by kernel_rfl, fun w' hw' => by obtain ⟨q0, q1, q2, q3, q4, q5, q6⟩ := hw'; go_simp⟩) hS ?_
              simp only [Act.put, List.setIfInBounds_toArray]
              refine wpAnyH_ready (rs := [8]) (by kernel_rfl) (by simp) ?_
              refine AllReadyH.cons rfl (fun K' hK' => ?_) AllReadyH.nil
              clear hS
              go_simp
              refine (refStep_own ⟨st2, ev2, starts2, ars2, ends2⟩ ⟨d1, e1, d2, e2, d3, e3⟩ sy sk ys a.e Y ((hms.out.a).below (hb.out.trans (Q1.out.bel.mono h0)) (Nat.le_refl _)) hlen2.out A2.out I2.out).mono ?_
              rintro e Y1 ⟨z, rfl, oz, hb1⟩
              obtain ⟨t, HT⟩ : ∃ t, Hid (t = stepL ars2 ys a.e) := ⟨_, rfl⟩
              replace oz : Own Y1 Y.heap.size z t := by rw [HT.out]; exact oz
              obtain ⟨za, zc, hz, -, -, -⟩ := own_form2 oz
              subst hz
              have OZ := Hid.of oz
              replace Q1 := Hid.of (Q1.out.below hb1)
              replace KA2 := Hid.of (KA2.out.below hb1 KA2.out.lt)
              replace z3 := (hb1.cell (p := ⟨g, o + k * 2 + 1, none⟩) GL2.out).trans z3
              refine hK'.out _ _ (SA.out _ Q1.out.ks KA2.out z3) (fun hS => ?_)
              clear hK' K' hb1 oz SA A2 z3 GL2
              refine wpAnyH_take (i := 9) (v := .slice za t.length zc) rfl (by kernel_rfl) (by kernel_rfl) (by kernel_rfl) (fun _ _ _ h => h) (Or.inl ⟨by kernel_rfl, fun w' hw' => by obtain ⟨q0, q1, q2, q3, q4, q5, q6⟩ := hw'; go_simp⟩) hS ?_
              refine wpAnyH_done (by kernel_rfl) ?_ _
              clear hS
              have HX : Hid (plTo ⟨st2, ev2, starts2, ars2, ends2⟩ (ym, ys) a = (a.t, t)) := by show (a.t, stepL ars2 ys a.e) = (a.t, t); rw [HT.out]
              have bn : Below Y1.heap.size Y1 (Y1.alloc (.cells #[.int .i64 a.t, .slice za t.length zc] 140)) := (Below.refl _ _).alloc (Nat.le_refl _) _
              have KN : Hid (Blk (Y1.alloc (.cells #[.int .i64 a.t, .slice za t.length zc] 140)) Y1.heap.size 140 #[.int .i64 a.t, .slice za t.length zc]) := Blk.new Y1 _ _
              have Q2 : Hid (WQ w (Y1.alloc (.cells #[.int .i64 a.t, .slice za t.length zc] 140)) B n ⟨st, ev, starts, ars, ends⟩ ⟨st2, ev2, starts2, ars2, ends2⟩ ⟨a1, c1, some ⟨b, off, none⟩, c2, a3, c3⟩ ⟨d1, e1, d2, e2, d3, e3⟩ (.slice (some ⟨g, o, none⟩) cur.length vc) cur) := Q1.out.below bn
              have OZ2 : Hid (InnW n (Y1.alloc (.cells #[.int .i64 a.t, .slice za t.length zc] 140)) (.slice za t.length zc) t) := (InnW.of_own OZ.out).below bn (Nat.le_trans Q1.out.hn Q1.out.hB)
              have f2 := KA2.out.cell 2 rfl
              have n0 := KN.out.cell 0 rfl
              have n1 := KN.out.cell 1 rfl
              go_wp2_with fail
              clear f2 n0 n1 bn Q1 KA2 OZ
              revert KN Q2 OZ2
              generalize Y1.alloc (.cells #[.int .i64 a.t, .slice za t.length zc] 140) = Y2
              generalize Y1.heap.size = pn
              intro KN Q2 OZ2
              obtain ⟨za1, zc1, ez, zat, zln, -⟩ := OZ2.out.at
              cases ez
              obtain ⟨qa, qc, eq, qat, qln⟩ := Q2.out.ow.at
              cases eq
              refine (rqhas_any n (some ⟨g, o, none⟩) vc cur a.t t za zc Y2 (Hid.of qat) (by omega) (Hid.of zat) (Hid.of zln)).mono ?_
              rintro e Y3 ⟨rfl, hb3⟩
              have Q3 := Hid.of (Q2.out.below hb3)
              have KN3 := Hid.of (KN.out.below hb3 KN.out.lt)
              have OZ3 := Hid.of (OZ2.out.below hb3 (Nat.le_trans Q2.out.hn Q2.out.hB))
              clear qat qln zat zln hb3 Q2 KN OZ2
              cases hmem : memQ cur (a.t, t) with
              | true =>
                have HNX : Hid (rowG (selU seen ym) (plTo ⟨st2, ev2, starts2, ars2, ends2⟩ (ym, ys)) ars L (j + 1) = cur) := by show _ = _; rw [rowG_yes HAR.out (by unfold selU; rw [E1.out, E2.out]; simp), ← HC.out, HX.out]; exact cAdd_yes hmem
                clear hmem
                have Q1 := Q3
                go_wp2_with fail
                go_roundw
                case rel => exact ⟨j + 1, by go_num, by omega, by rw [HNX.out]; exact Q1⟩
                case measure => simp [intOf]; omega
              | false =>
                have HNX : Hid (rowG (selU seen ym) (plTo ⟨st2, ev2, starts2, ars2, ends2⟩ (ym, ys)) ars L (j + 1) = cur ++ [(a.t, t)]) := by show _ = _; rw [rowG_yes HAR.out (by unfold selU; rw [E1.out, E2.out]; simp), ← HC.out, HX.out]; exact cAdd_no hmem
                clear hmem
                have n0 := KN3.out.cell 0 rfl
                have n1 := KN3.out.cell 1 rfl
                have bq : Below Y3.heap.size Y3 (Y3.alloc (.cells #[.int .i64 a.t, .slice za t.length zc] 140)) := (Below.refl _ _).alloc (Nat.le_refl _) _
                have Q4 : Hid (WQ w (Y3.alloc (.cells #[.int .i64 a.t, .slice za t.length zc] 140)) B n ⟨st, ev, starts, ars, ends⟩ ⟨st2, ev2, starts2, ars2, ends2⟩ ⟨a1, c1, some ⟨b, off, none⟩, c2, a3, c3⟩ ⟨d1, e1, d2, e2, d3, e3⟩ (.slice (some ⟨g, o, none⟩) cur.length vc) cur) := Q3.out.below bq
                have OZ4 : Hid (InnW n (Y3.alloc (.cells #[.int .i64 a.t, .slice za t.length zc] 140)) (.slice za t.length zc) t) := OZ3.out.below bq (Nat.le_trans Q3.out.hn Q3.out.hB)
                have CF : Hid (∀ j u, ([.int .i64 a.t, .slice za t.length zc] : List Value)[j]? = some u → (Y3.alloc (.cells #[.int .i64 a.t, .slice za t.length zc] 140)).cell? ((⟨Y3.heap.size, 0, none⟩ : Addr).add j) = some u) := cells_duoQ Y3 Y3 rfl _ _ _
                clear bq
                obtain ⟨vs, ho, hi'⟩ := Q4.out.ow
                have HO := Hid.of ho
                have HI := Hid.of hi'
                clear ho hi'
                have hBq := Q4.out.hB
                go_wp2_with (at_builtin; refine wpList_append_block _ rfl (.tmp 63) (.tmp 65) 60 rfl B 140 i0 _ 2 32 Tryd.underlying60 hi hz0 hz1 hz2 rfl (by decide) _ _ _ rfl HO.out ⟨Y3.heap.size, 0, none⟩ 1 1 [.int .i64 a.t, .slice za t.length zc] rfl rfl CF.out (one_vals (x := (a.t, t)) OZ4.out) (by decide) (by unfold maxLen; omega) (by omega) hBq ?_)
                intro v9 w9 o9 g9 n9
                have Q1 := Hid.of (WQ.push (x := (a.t, t)) Q4.out HO.out HI.out OZ4.out o9 g9)
                clear o9 g9 n9 HO HI Q4 OZ4 CF n0 n1 Q3 KN3 OZ3 hBq
                go_wp2_with fail
                go_roundw
                case rel => exact ⟨j + 1, by go_num, by omega, by rw [HNX.out]; exact Q1⟩
                case measure => simp [intOf]; omega
          · have g1 : (a.f != ym) = true := by simp [e1]
            have HNX : Hid (rowG (selU seen ym) (plTo ⟨st2, ev2, starts2, ars2, ends2⟩ (ym, ys)) ars L (j + 1) = cur) := by show _ = _; rw [rowG_no HAR.out (by unfold selU; simp [e1]), ← HC.out]
            clear e1
            go_quiet (first | (go_at_call 53; exact Calls.quiet_of_same (KEY1.out _)))
            obtain ⟨V2, HV2⟩ : ∃ V2, Hid (V2 = V.drewN nq) := ⟨_, rfl⟩
            have b2 : Below V.heap.size V V2 := by rw [HV2.out]; exact below_drewN (Below.refl _ _) nq
            rw [← HV2.out]
            have Q1 := Hid.of (V1.out.below b2)
            clear V1 KA f0 f1 f2 z1 z2 A1 KEY1 b2
            go_wp2_with fail
            go_roundw
            case rel => exact ⟨j + 1, by go_num, by omega, by rw [HNX.out]; exact Q1⟩
            case measure => simp [intOf]; omega
        · have hjD : decide ((j : Int) < (ars.length : Int)) = false := by simp; omega
          have hj2 : j = ars.length := by omega
          have HCE : Hid (cur = cRow L (unQ ⟨st, ev, starts, ars, ends⟩ ⟨st2, ev2, starts2, ars2, ends2⟩ seen (ym, ys))) := by show _ = _; rw [HC.out, hj2]; exact rowG_unQ ⟨st, ev, starts, ars, ends⟩ ⟨st2, ev2, starts2, ars2, ends2⟩ seen (ym, ys) L
          have HGN : Hid (wideQ ⟨st, ev, starts, ars, ends⟩ ⟨st2, ev2, starts2, ars2, ends2⟩ seen l = cGo (unQ ⟨st, ev, starts, ars, ends⟩ ⟨st2, ev2, starts2, ars2, ends2⟩ seen) (0, []) (1000 - (k + 1)) (k + 1) cur) := by
            show _ = _
            rw [HGO.out, show 1000 - k = (1000 - (k + 1)) + 1 by omega, cGo, if_pos hlt, HY.out, Option.getD_some, HCE.out]
          have HNI2 : Hid (cur.Nodup ∧ ∀ x ∈ cur, x ∈ allQ ⟨st, ev, starts, ars, ends⟩ ⟨st2, ev2, starts2, ars2, ends2⟩) := by
            rw [HC.out]
            exact ⟨rowG_nodup HNI.out.1 j, rowG_in HNI.out.2 (fun a ha => hto.out _ a ha) j⟩
          clear hj2 HCE
          obtain ⟨x0, x1, x2, x3, x4⟩ := mcell_at HW.out.km
          dsimp only at x0 x1 x2 x3 x4
          go_wp2_with fail
          go_roundw
          case rel => exact ⟨k + 1, cur, by go_num, by omega, hcl, HW, HNI2, HGN⟩
          case measure => simp [intOf]; omega
    · have hkD : decide ((k : Int) < (L.length : Int)) = false := by simp; omega
      have HE : Hid (wideQ ⟨st, ev, starts, ars, ends⟩ ⟨st2, ev2, starts2, ars2, ends2⟩ seen l = L) := by
        show _ = _
        rw [HGO.out, show 1000 - k = (1000 - (k + 1)) + 1 by omega, cGo, if_neg hlt]
      go_wp2_with fail
      go_ret
      exact ⟨_, rfl, by rw [HE.out]; exact HW.out.ow, HW.out.bel⟩

theorem rqwide_any (m s : Mach) (lm ls : ML) (sa : Option Addr) (sc : Nat) (seen : List Int) (w0 : World) (hma : MAt w0 m lm) (hms : MAt w0 s ls) (hse : At w0 sa seen) (hsl : seen.length ≤ maxLen) (mm : mayB m = true) (ms : mayB s = true) (zm : m.st ≤ 6) (zs : s.st ≤ 4) (n B : Nat) (v : Value) (l : List Pla) (w : World) (hb : Below w0.heap.size w0 w) (h0 : w0.heap.size ≤ B) (hn : n ≤ B) (hB : B ≤ w.heap.size) (hv : OwnQ n w B v l) (hnd : l.Nodup) (hin : ∀ x ∈ l, x ∈ allQ m s) :
    Calls Tryd.prog 133 #[mval m lm, mval s ls, .slice sa seen.length sc, v] w fun e w' => ∃ v', e = .returned v' ∧ OwnQ n w' B v' (wideQ m s seen l) ∧ Below B w w' := by
  obtain ⟨st, ev, starts, ars, ends⟩ := m
  obtain ⟨st2, ev2, starts2, ars2, ends2⟩ := s
  obtain ⟨a1, c1, a2, c2, a3, c3⟩ := lm
  obtain ⟨d1, e1, d2, e2, d3, e3⟩ := ls
  exact rqwide_go st ev starts ars ends a1 c1 a2 c2 a3 c3 st2 ev2 starts2 ars2 ends2 d1 e1 d2 e2 d3 e3 sa sc seen w0 (Hid.of hma) (Hid.of hms) (Hid.of hse) (Hid.of hsl) (Hid.of mm) (Hid.of ms) (Hid.of zm) (Hid.of zs) n B v l w (Hid.of hb) h0 hn hB (Hid.of hv) (Hid.of hnd) (Hid.of hin)

end Go.Proofs.YtgebfkmfhpcdhaaDoor
namespace Go.Proofs.YtgebfkmfhpcdhaaDoor
open Go.RowKit
set_option linter.unusedVariables false

def stepR (m s : Mach) (e : Int) (l : List Pla) : List Pla := l.foldl (fun o y => cRow o (evQ m s e y)) []
theorem stepR_take {m s : Mach} {e : Int} {l : List Pla} {k : Nat} {y : Pla} (h : l[k]? = some y) : stepR m s e (l.take (k + 1)) = cRow (stepR m s e (l.take k)) (evQ m s e y) := by
  unfold stepR
  rw [List.take_add_one, h, Option.toList_some, List.foldl_append]; rfl

set_option maxRecDepth 100000 in
set_option maxHeartbeats 16000000 in
theorem rqstep_go (st ev : Int) (starts : List Int) (ars : List Arr) (ends : List Int) (a1 : Option Addr) (c1 : Nat) (a2 : Option Addr) (c2 : Nat) (a3 : Option Addr) (c3 : Nat) (st2 ev2 : Int) (starts2 : List Int) (ars2 : List Arr) (ends2 : List Int) (d1 : Option Addr) (e1 : Nat) (d2 : Option Addr) (e2 : Nat) (d3 : Option Addr) (e3 : Nat) (sa : Option Addr) (sc : Nat) (seen : List Int) (n : Nat) (la : Option Addr) (lc : Nat) (l : List Pla) (en : Int) (w : World) (hma : Hid (MAt w ⟨st, ev, starts, ars, ends⟩ ⟨a1, c1, a2, c2, a3, c3⟩)) (hms : Hid (MAt w ⟨st2, ev2, starts2, ars2, ends2⟩ ⟨d1, e1, d2, e2, d3, e3⟩)) (hse : Hid (At w sa seen)) (hsl : Hid (seen.length ≤ maxLen)) (mm : Hid (mayB ⟨st, ev, starts, ars, ends⟩ = true)) (ms : Hid (mayB ⟨st2, ev2, starts2, ars2, ends2⟩ = true)) (zm : Hid (st ≤ 6)) (zs : Hid (st2 ≤ 4)) (hn : n ≤ w.heap.size) (hv : Hid (AtQ n w la l)) (hll : l.length ≤ 4096) :
    Calls Tryd.prog 96 #[mval ⟨st, ev, starts, ars, ends⟩ ⟨a1, c1, a2, c2, a3, c3⟩, mval ⟨st2, ev2, starts2, ars2, ends2⟩ ⟨d1, e1, d2, e2, d3, e3⟩, .slice sa seen.length sc, .slice la l.length lc, .int .i64 en] w fun e w' => ∃ v', e = .returned v' ∧ OwnQ n w' w.heap.size v' (seeQ ⟨st, ev, starts, ars, ends⟩ ⟨st2, ev2, starts2, ars2, ends2⟩ seen l en) ∧ Below w.heap.size w w' := by
  have hz := mayB_size mm.out
  have hz2' := mayB_size ms.out
  unfold sizeOk at hz hz2'
  dsimp only at hz hz2'
  have hlen : ars.length ≤ 4096 := by omega
  have hlen2 : Hid (ars2.length ≤ 17592186044416) := show _ ≤ _ by omega
  clear hz hz2'
  obtain ⟨i0, hi, hz0, hz1, hz2⟩ := info_parts Tryd.infoAtQ
  have hb : Hid (Below w.heap.size w w) := Below.refl _ _
  have h0 : w.heap.size ≤ w.heap.size := Nat.le_refl _
  have HW0 : Hid (WQ w ((w.alloc (.cells (mcells ⟨st, ev, starts, ars, ends⟩ ⟨a1, c1, a2, c2, a3, c3⟩) 25)).alloc (.cells (mcells ⟨st2, ev2, starts2, ars2, ends2⟩ ⟨d1, e1, d2, e2, d3, e3⟩) 25)) w.heap.size n ⟨st, ev, starts, ars, ends⟩ ⟨st2, ev2, starts2, ars2, ends2⟩ ⟨a1, c1, a2, c2, a3, c3⟩ ⟨d1, e1, d2, e2, d3, e3⟩ (.slice none 0 0) []) := by
    have b2 : Below w.heap.size w ((w.alloc (.cells (mcells ⟨st, ev, starts, ars, ends⟩ ⟨a1, c1, a2, c2, a3, c3⟩) 25)).alloc (.cells (mcells ⟨st2, ev2, starts2, ars2, ends2⟩ ⟨d1, e1, d2, e2, d3, e3⟩) 25)) := ((Below.refl _ _).alloc (Nat.le_refl _) _).alloc (by simp) _
    refine ⟨ownQ_nil _ _ _, b2, (Blk.new w _ _).alloc _, ?_, b2.size, hn⟩
    have := Blk.new (w.alloc (.cells (mcells ⟨st, ev, starts, ars, ends⟩ ⟨a1, c1, a2, c2, a3, c3⟩) 25)) 25 (mcells ⟨st2, ev2, starts2, ars2, ends2⟩ ⟨d1, e1, d2, e2, d3, e3⟩)
    rwa [World.size_alloc] at this
  have hto : Hid (∀ (y : Pla) (a : Arr), a ∈ ars → plTo ⟨st2, ev2, starts2, ars2, ends2⟩ y a ∈ allQ ⟨st, ev, starts, ars, ends⟩ ⟨st2, ev2, starts2, ars2, ends2⟩) := fun y a ha => plTo_in mm.out ms.out zm.out zs.out ha
  have h96 : Hid ((allQ ⟨st, ev, starts, ars, ends⟩ ⟨st2, ev2, starts2, ars2, ends2⟩).length ≤ 96) := allQ_len zm.out _
  have HST : Hid (∀ k, (stepR ⟨st, ev, starts, ars, ends⟩ ⟨st2, ev2, starts2, ars2, ends2⟩ en (l.take k)).Nodup ∧ ∀ x ∈ stepR ⟨st, ev, starts, ars, ends⟩ ⟨st2, ev2, starts2, ars2, ends2⟩ en (l.take k), x ∈ allQ ⟨st, ev, starts, ars, ends⟩ ⟨st2, ev2, starts2, ars2, ends2⟩) := fun k => stepQ_in mm.out ms.out zm.out zs.out (l := l.take k) en
  go_enter Tryd.func96, Tryd.ntmps96
  go_wp2_with fail
  revert HW0
  generalize ((w.alloc (.cells (mcells ⟨st, ev, starts, ars, ends⟩ ⟨a1, c1, a2, c2, a3, c3⟩) 25)).alloc (.cells (mcells ⟨st2, ev2, starts2, ars2, ends2⟩ ⟨d1, e1, d2, e2, d3, e3⟩) 25)) = V0
  intro HW0
  go_loopw [11, 12] (fun v3 i wr => ∃ (k : Nat), i = .int .i64 k ∧ k ≤ l.length ∧ Hid (WQ w wr w.heap.size n ⟨st, ev, starts, ars, ends⟩ ⟨st2, ev2, starts2, ars2, ends2⟩ ⟨a1, c1, a2, c2, a3, c3⟩ ⟨d1, e1, d2, e2, d3, e3⟩ v3 (stepR ⟨st, ev, starts, ars, ends⟩ ⟨st2, ev2, starts2, ars2, ends2⟩ en (l.take k)))) (fun _ i _ => l.length - (intOf i).toNat)
  case atStart => exact ⟨0, rfl, Nat.zero_le _, HW0⟩
  case round =>
    clear HW0
    obtain ⟨k, rfl, hk, HW⟩ := hrel
    obtain ⟨L, HL⟩ : ∃ L, Hid (L = stepR ⟨st, ev, starts, ars, ends⟩ ⟨st2, ev2, starts2, ars2, ends2⟩ en (l.take k)) := ⟨_, rfl⟩
    rw [← HL.out] at HW
    have HNI : Hid (L.Nodup ∧ ∀ x ∈ L, x ∈ allQ ⟨st, ev, starts, ars, ends⟩ ⟨st2, ev2, starts2, ars2, ends2⟩) := by rw [HL.out]; exact HST.out k
    obtain ⟨va, vc, hv3⟩ := HW.out.ow.form
    subst hv3
    by_cases hlt : k < l.length
    · obtain ⟨⟨ym, ys⟩, HY⟩ : ∃ y, Hid (l[k]? = some y) := ⟨_, List.getElem?_eq_getElem hlt⟩
      go_wp2_with fail
      go_loopw [11, 13] (fun v3 i wr' => ∃ (j : Nat), i = .int .i64 j ∧ j ≤ ars.length ∧ Hid (WQ w wr' w.heap.size n ⟨st, ev, starts, ars, ends⟩ ⟨st2, ev2, starts2, ars2, ends2⟩ ⟨a1, c1, a2, c2, a3, c3⟩ ⟨d1, e1, d2, e2, d3, e3⟩ v3 (rowG (selE en ym) (plTo ⟨st2, ev2, starts2, ars2, ends2⟩ (ym, ys)) ars L j))) (fun _ i _ => ars.length - (intOf i).toNat)
      case atStart => exact ⟨0, rfl, Nat.zero_le _, by rw [rowG_zero]; exact HW⟩
      case round =>
        clear HW
        obtain ⟨j, rfl, hj, HW⟩ := hrel
        obtain ⟨cur, HC⟩ : ∃ cur, Hid (cur = rowG (selE en ym) (plTo ⟨st2, ev2, starts2, ars2, ends2⟩ (ym, ys)) ars L j) := ⟨_, rfl⟩
        rw [← HC.out] at HW
        have hcl : cur.length ≤ 96 := by
          rw [HC.out]
          exact Nat.le_trans (nodup_sub (rowG_nodup HNI.out.1 j) (rowG_in HNI.out.2 (fun a ha => hto.out _ a ha) j)) h96.out
        obtain ⟨va, vc, hv3⟩ := HW.out.ow.form
        subst hv3
        by_cases hjl : j < ars.length
        · have hjD : decide ((j : Int) < (ars.length : Int)) = true := by simp; omega
          have hkD : decide ((k : Int) < (l.length : Int)) = true := by simp; omega
          rcases hma.out.a with h0a | ⟨b, off, hab, hbl, hca⟩
          · rw [show ars = [] from h0a] at hjl; simp at hjl
          subst hab
          dsimp only at hca
          obtain ⟨a, HA, y0, y1, y2⟩ := hca.at hjl
          have HAR : Hid (ars[j]? = some a) := by show _ = _; rw [HA.out, List.getElem?_eq_getElem hjl, Option.getD_some]
          have BW := Hid.of (hb.out.trans (HW.out.bel.mono h0))
          replace y0 := (BW.out.cell (p := ⟨b, off + j * 3, none⟩) hbl).trans y0
          replace y1 := (BW.out.cell (p := ⟨b, off + j * 3 + 1, none⟩) hbl).trans y1
          replace y2 := (BW.out.cell (p := ⟨b, off + j * 3 + 2, none⟩) hbl).trans y2
          obtain ⟨g, o, sy, sk, hga, hg, c1q, c2q, i1, i2, -⟩ := (hv.out.below (HW.out.bel) hn).get HY.out
          dsimp only at c1q c2q i1 i2
          subst hga
          have V1N : Hid (w.heap.size + 1 < wr.heap.size) := HW.out.ks.lt
          have HG := Hid.of hg
          have I1 := Hid.of i1
          have I2 := Hid.of i2
          have V1 : Hid (WQ w (wr.alloc (.cells #[.int .i64 a.f, .int .i64 a.e, .int .i64 a.t] 75)) w.heap.size n ⟨st, ev, starts, ars, ends⟩ ⟨st2, ev2, starts2, ars2, ends2⟩ ⟨a1, c1, some ⟨b, off, none⟩, c2, a3, c3⟩ ⟨d1, e1, d2, e2, d3, e3⟩ (.slice va cur.length vc) cur) := HW.out.below ((Below.refl _ _).alloc (Nat.le_refl _) _)
          have KA : Hid (Blk (wr.alloc (.cells #[.int .i64 a.f, .int .i64 a.e, .int .i64 a.t] 75)) wr.heap.size 75 #[.int .i64 a.f, .int .i64 a.e, .int .i64 a.t]) := Blk.new wr _ _
          have BA : Hid (Below wr.heap.size wr (wr.alloc (.cells #[.int .i64 a.f, .int .i64 a.e, .int .i64 a.t] 75))) := (Below.refl _ _).alloc (Nat.le_refl _) _
          obtain ⟨x0, x1, x2, x3, x4⟩ := mcell_at HW.out.km
          dsimp only at x0 x1 x2 x3 x4
          have f0 := KA.out.cell 0 rfl
          have f1 := KA.out.cell 1 rfl
          have f2 := KA.out.cell 2 rfl
          have z1 := (BA.out.cell (p := ⟨g, o + k * 2, none⟩) hg).trans c1q
          have z2 := (BA.out.cell (p := ⟨g, o + k * 2 + 1, none⟩) hg).trans c2q
          go_wp2_with fail
          clear x0 x1 x2 x3 x4 y0 y1 y2 c1q c2q i1 i2 hg HW BW
          have A1 := Hid.of (I1.out.below BA.out (Nat.le_refl _))
          have NL : Hid (w.heap.size + 1 < wr.heap.size) := V1N.out
          have GL : Hid (g < (wr.alloc (.cells #[.int .i64 a.f, .int .i64 a.e, .int .i64 a.t] 75)).heap.size) := Nat.lt_of_lt_of_le HG.out BA.out.size
          clear I1 HG V1N BA
          revert V1 KA f0 f1 f2 z1 z2 A1 NL GL
          generalize wr.alloc (.cells #[.int .i64 a.f, .int .i64 a.e, .int .i64 a.t] 75) = V
          generalize wr.heap.size = N
          intro V1 KA f0 f1 f2 z1 z2 A1 NL GL
          have KEY1 : Hid True := trivial
          by_cases e1 : a.f = ym
          · have g1 : (a.f != ym) = false := by simp [e1]
            have E1 := Hid.of e1
            clear e1
            by_cases e2 : a.e = en
            · have g2 : (a.e != en) = false := by simp [e2]
              have E2 := Hid.of e2
              clear e2
              go_quiet (fail)
              obtain ⟨V2, HV2⟩ : ∃ V2, Hid (V2 = V.drewN nq) := ⟨_, rfl⟩
              have b2 : Below V.heap.size V V2 := by rw [HV2.out]; exact below_drewN (Below.refl _ _) nq
              rw [← HV2.out]
              have Q1 := Hid.of (V1.out.below b2)
              have KA2 := Hid.of (KA.out.below b2 KA.out.lt)
              have A2 := Hid.of (A1.out.below b2 (Nat.le_refl _))
              have GL2 : Hid (g < V2.heap.size) := Nat.lt_of_lt_of_le GL.out b2.size
              have z3 := (b2.cell (p := ⟨g, o + k * 2 + 1, none⟩) GL.out).trans z2
              clear V1 KA f0 f1 f2 z1 z2 A1 KEY1 b2 HV2
              go_wp2_with fail
              have SA : Hid (∀ W, Blk W (w.heap.size + 1) 25 (mcells ⟨st2, ev2, starts2, ars2, ends2⟩ ⟨d1, e1, d2, e2, d3, e3⟩) → W.cell? ⟨g, o + k * 2 + 1, none⟩ = some (.slice sy ys.length sk) → W.cell? ⟨w.heap.size + 1, 0, none⟩ = some (.int .i64 st2) ∧ W.cell? ⟨w.heap.size + 1, 1, none⟩ = some (.int .i64 ev2) ∧ W.cell? ⟨w.heap.size + 1, 2, none⟩ = some (.slice d1 starts2.length e1) ∧ W.cell? ⟨w.heap.size + 1, 3, none⟩ = some (.slice d2 ars2.length e2) ∧ W.cell? ⟨w.heap.size + 1, 4, none⟩ = some (.slice d3 ends2.length e3) ∧ W.cell? ⟨g, o + k * 2 + 1, none⟩ = some (.slice sy ys.length sk)) := fun W h1 h3 => by
                obtain ⟨x0, x1, x2, x3, x4⟩ := mcell_at h1
                exact ⟨x0, x1, x2, x3, x4, h3⟩
              refine wp_region_held_drew (S := fun w' => w'.cell? ⟨w.heap.size + 1, 0, none⟩ = some (.int .i64 st2) ∧ w'.cell? ⟨w.heap.size + 1, 1, none⟩ = some (.int .i64 ev2) ∧ w'.cell? ⟨w.heap.size + 1, 2, none⟩ = some (.slice d1 starts2.length e1) ∧ w'.cell? ⟨w.heap.size + 1, 3, none⟩ = some (.slice d2 ars2.length e2) ∧ w'.cell? ⟨w.heap.size + 1, 4, none⟩ = some (.slice d3 ends2.length e3) ∧ w'.cell? ⟨g, o + k * 2 + 1, none⟩ = some (.slice sy ys.length sk)) (by kernel_rfl) (SA.out _ (Blk.drew Q1.out.ks) z3) (fun hS => ?_)
              have bd : Below V2.heap.size V2 V2.drew := (Below.refl _ _).drew
              replace Q1 := Hid.of (Q1.out.below bd)
              replace KA2 := Hid.of (KA2.out.below bd KA2.out.lt)
              replace A2 := Hid.of (A2.out.below bd (Nat.le_refl _))
              replace z3 : V2.drew.cell? ⟨g, o + k * 2 + 1, none⟩ = some (.slice sy ys.length sk) := z3
              replace GL2 : Hid (g < V2.drew.heap.size) := GL2.out
              clear bd
              revert hS Q1 KA2 A2 z3 GL2
              generalize V2.drew = Y
              intro hS Q1 KA2 A2 z3 GL2
              refine wpAnyH_take (i := 0) (v := .agg #[.int .i64 st2, .int .i64 ev2, .slice d1 starts2.length e1, .slice d2 ars2.length e2, .slice d3 ends2.length e3]) rfl (by kernel_rfl) (by kernel_rfl) (by kernel_rfl) (fun _ _ _ h => h) (Or.inl ⟨by kernel_rfl, fun w' hw' => by obtain ⟨q0, q1, q2, q3, q4, q5⟩ := hw'; go_simp⟩) hS ?_
              refine wpAnyH_take (i := 1) (v := .slice (some ⟨g, o, none⟩) l.length lc) rfl (by kernel_rfl) (by kernel_rfl) (by kernel_rfl) (fun _ _ _ h => h) (Or.inl ⟨by kernel_rfl, fun w' hw' => by obtain ⟨q0, q1, q2, q3, q4, q5⟩ := hw'; go_simp⟩) hS ?_
              refine wpAnyH_take (i := 2) (v := .int .i64 k) rfl (by kernel_rfl) (by kernel_rfl) (by kernel_rfl) (fun _ _ _ h => h) (Or.inl ⟨by kernel_rfl, fun w' hw' => by obtain ⟨q0, q1, q2, q3, q4, q5⟩ := hw'; go_simp⟩) hS ?_
              refine wpAnyH_take (i := 3) (v := .pointer (some ⟨g, o + k * 2, none⟩)) rfl (by kernel_rfl) (by kernel_rfl) (by kernel_rfl) (fun _ _ _ h => h) (Or.inl ⟨by kernel_rfl, fun w' hw' => by obtain ⟨q0, q1, q2, q3, q4, q5⟩ := hw'; go_simp⟩) hS ?_
              refine wpAnyH_take (i := 4) (v := .pointer (some ⟨g, o + k * 2 + 1, none⟩)) rfl (by kernel_rfl) (by kernel_rfl) (by kernel_rfl) (fun _ _ _ h => h) (Or.inl ⟨by kernel_rfl, fun w' hw' => by obtain ⟨q0, q1, q2, q3, q4, q5⟩ := hw'; go_simp⟩) hS ?_
              refine wpAnyH_take (i := 5) (v := .slice sy ys.length sk) rfl (by kernel_rfl) (by kernel_rfl) (by kernel_rfl) (fun _ _ _ h => h) (Or.inl ⟨by kernel_rfl, fun w' hw' => by obtain ⟨q0, q1, q2, q3, q4, q5⟩ := hw'; go_simp⟩) hS ?_
              refine wpAnyH_take (i := 6) (v := .int .i64 en) rfl (by kernel_rfl) (by kernel_rfl) (by kernel_rfl) (fun _ _ _ h => h) (Or.inl ⟨by kernel_rfl, fun w' hw' => by obtain ⟨q0, q1, q2, q3, q4, q5⟩ := hw'; go_simp⟩) hS ?_
              simp only [Act.put, List.setIfInBounds_toArray]
              refine wpAnyH_ready (rs := [7]) (by kernel_rfl) (by simp) ?_
              refine AllReadyH.cons rfl (fun K' hK' => ?_) AllReadyH.nil
              clear hS
              go_simp
              refine (refStep_own ⟨st2, ev2, starts2, ars2, ends2⟩ ⟨d1, e1, d2, e2, d3, e3⟩ sy sk ys en Y ((hms.out.a).below (hb.out.trans (Q1.out.bel.mono h0)) (Nat.le_refl _)) hlen2.out A2.out I2.out).mono ?_
              rintro e Y1 ⟨z, rfl, oz, hb1⟩
              obtain ⟨t, HT⟩ : ∃ t, Hid (t = stepL ars2 ys en) := ⟨_, rfl⟩
              replace oz : Own Y1 Y.heap.size z t := by rw [HT.out]; exact oz
              obtain ⟨za, zc, hz, -, -, -⟩ := own_form2 oz
              subst hz
              have OZ := Hid.of oz
              replace Q1 := Hid.of (Q1.out.below hb1)
              replace KA2 := Hid.of (KA2.out.below hb1 KA2.out.lt)
              replace z3 := (hb1.cell (p := ⟨g, o + k * 2 + 1, none⟩) GL2.out).trans z3
              refine hK'.out _ _ (SA.out _ Q1.out.ks z3) (fun hS => ?_)
              clear hK' K' hb1 oz SA A2 z3 GL2
              refine wpAnyH_take (i := 8) (v := .slice za t.length zc) rfl (by kernel_rfl) (by kernel_rfl) (by kernel_rfl) (fun _ _ _ h => h) (Or.inl ⟨by kernel_rfl, fun w' hw' => by obtain ⟨q0, q1, q2, q3, q4, q5⟩ := hw'; go_simp⟩) hS ?_
              refine wpAnyH_done (by kernel_rfl) ?_ _
              clear hS
              have HX : Hid (plTo ⟨st2, ev2, starts2, ars2, ends2⟩ (ym, ys) a = (a.t, t)) := by show (a.t, stepL ars2 ys a.e) = (a.t, t); rw [E2.out, HT.out]
              have bn : Below Y1.heap.size Y1 (Y1.alloc (.cells #[.int .i64 a.t, .slice za t.length zc] 140)) := (Below.refl _ _).alloc (Nat.le_refl _) _
              have KN : Hid (Blk (Y1.alloc (.cells #[.int .i64 a.t, .slice za t.length zc] 140)) Y1.heap.size 140 #[.int .i64 a.t, .slice za t.length zc]) := Blk.new Y1 _ _
              have Q2 : Hid (WQ w (Y1.alloc (.cells #[.int .i64 a.t, .slice za t.length zc] 140)) w.heap.size n ⟨st, ev, starts, ars, ends⟩ ⟨st2, ev2, starts2, ars2, ends2⟩ ⟨a1, c1, some ⟨b, off, none⟩, c2, a3, c3⟩ ⟨d1, e1, d2, e2, d3, e3⟩ (.slice va cur.length vc) cur) := Q1.out.below bn
              have OZ2 : Hid (InnW n (Y1.alloc (.cells #[.int .i64 a.t, .slice za t.length zc] 140)) (.slice za t.length zc) t) := (InnW.of_own OZ.out).below bn (Nat.le_trans Q1.out.hn Q1.out.hB)
              have f2 := KA2.out.cell 2 rfl
              have n0 := KN.out.cell 0 rfl
              have n1 := KN.out.cell 1 rfl
              go_wp2_with fail
              clear f2 n0 n1 bn Q1 KA2 OZ
              revert KN Q2 OZ2
              generalize Y1.alloc (.cells #[.int .i64 a.t, .slice za t.length zc] 140) = Y2
              generalize Y1.heap.size = pn
              intro KN Q2 OZ2
              obtain ⟨za1, zc1, ez, zat, zln, -⟩ := OZ2.out.at
              cases ez
              obtain ⟨qa, qc, eq, qat, qln⟩ := Q2.out.ow.at
              cases eq
              refine (rqhas_any n va vc cur a.t t za zc Y2 (Hid.of qat) (by omega) (Hid.of zat) (Hid.of zln)).mono ?_
              rintro e Y3 ⟨rfl, hb3⟩
              have Q3 := Hid.of (Q2.out.below hb3)
              have KN3 := Hid.of (KN.out.below hb3 KN.out.lt)
              have OZ3 := Hid.of (OZ2.out.below hb3 (Nat.le_trans Q2.out.hn Q2.out.hB))
              clear qat qln zat zln hb3 Q2 KN OZ2
              cases hmem : memQ cur (a.t, t) with
              | true =>
                have HNX : Hid (rowG (selE en ym) (plTo ⟨st2, ev2, starts2, ars2, ends2⟩ (ym, ys)) ars L (j + 1) = cur) := by show _ = _; rw [rowG_yes HAR.out (by unfold selE; rw [E1.out, E2.out]; simp), ← HC.out, HX.out]; exact cAdd_yes hmem
                clear hmem
                have Q1 := Q3
                go_wp2_with fail
                go_roundw
                case rel => exact ⟨j + 1, by go_num, by omega, by rw [HNX.out]; exact Q1⟩
                case measure => simp [intOf]; omega
              | false =>
                have HNX : Hid (rowG (selE en ym) (plTo ⟨st2, ev2, starts2, ars2, ends2⟩ (ym, ys)) ars L (j + 1) = cur ++ [(a.t, t)]) := by show _ = _; rw [rowG_yes HAR.out (by unfold selE; rw [E1.out, E2.out]; simp), ← HC.out, HX.out]; exact cAdd_no hmem
                clear hmem
                have n0 := KN3.out.cell 0 rfl
                have n1 := KN3.out.cell 1 rfl
                have bq : Below Y3.heap.size Y3 (Y3.alloc (.cells #[.int .i64 a.t, .slice za t.length zc] 140)) := (Below.refl _ _).alloc (Nat.le_refl _) _
                have Q4 : Hid (WQ w (Y3.alloc (.cells #[.int .i64 a.t, .slice za t.length zc] 140)) w.heap.size n ⟨st, ev, starts, ars, ends⟩ ⟨st2, ev2, starts2, ars2, ends2⟩ ⟨a1, c1, some ⟨b, off, none⟩, c2, a3, c3⟩ ⟨d1, e1, d2, e2, d3, e3⟩ (.slice va cur.length vc) cur) := Q3.out.below bq
                have OZ4 : Hid (InnW n (Y3.alloc (.cells #[.int .i64 a.t, .slice za t.length zc] 140)) (.slice za t.length zc) t) := OZ3.out.below bq (Nat.le_trans Q3.out.hn Q3.out.hB)
                have CF : Hid (∀ j u, ([.int .i64 a.t, .slice za t.length zc] : List Value)[j]? = some u → (Y3.alloc (.cells #[.int .i64 a.t, .slice za t.length zc] 140)).cell? ((⟨Y3.heap.size, 0, none⟩ : Addr).add j) = some u) := cells_duoQ Y3 Y3 rfl _ _ _
                clear bq
                obtain ⟨vs, ho, hi'⟩ := Q4.out.ow
                have HO := Hid.of ho
                have HI := Hid.of hi'
                clear ho hi'
                have hBq := Q4.out.hB
                go_wp2_with (at_builtin; refine wpList_append_block _ rfl (.tmp 65) (.tmp 67) 60 rfl w.heap.size 140 i0 _ 2 32 Tryd.underlying60 hi hz0 hz1 hz2 rfl (by decide) _ _ _ rfl HO.out ⟨Y3.heap.size, 0, none⟩ 1 1 [.int .i64 a.t, .slice za t.length zc] rfl rfl CF.out (one_vals (x := (a.t, t)) OZ4.out) (by decide) (by unfold maxLen; omega) (by omega) hBq ?_)
                intro v9 w9 o9 g9 n9
                have Q1 := Hid.of (WQ.push (x := (a.t, t)) Q4.out HO.out HI.out OZ4.out o9 g9)
                clear o9 g9 n9 HO HI Q4 OZ4 CF n0 n1 Q3 KN3 OZ3 hBq
                go_wp2_with fail
                go_roundw
                case rel => exact ⟨j + 1, by go_num, by omega, by rw [HNX.out]; exact Q1⟩
                case measure => simp [intOf]; omega
            · have g2 : (a.e != en) = true := by simp [e2]
              have HNX : Hid (rowG (selE en ym) (plTo ⟨st2, ev2, starts2, ars2, ends2⟩ (ym, ys)) ars L (j + 1) = cur) := by show _ = _; rw [rowG_no HAR.out (by unfold selE; simp [e2]), ← HC.out]
              clear e2
              go_quiet (fail)
              obtain ⟨V2, HV2⟩ : ∃ V2, Hid (V2 = V.drewN nq) := ⟨_, rfl⟩
              have b2 : Below V.heap.size V V2 := by rw [HV2.out]; exact below_drewN (Below.refl _ _) nq
              rw [← HV2.out]
              have Q1 := Hid.of (V1.out.below b2)
              clear V1 KA f0 f1 f2 z1 z2 A1 KEY1 b2
              go_wp2_with fail
              go_roundw
              case rel => exact ⟨j + 1, by go_num, by omega, by rw [HNX.out]; exact Q1⟩
              case measure => simp [intOf]; omega
          · have g1 : (a.f != ym) = true := by simp [e1]
            have HNX : Hid (rowG (selE en ym) (plTo ⟨st2, ev2, starts2, ars2, ends2⟩ (ym, ys)) ars L (j + 1) = cur) := by show _ = _; rw [rowG_no HAR.out (by unfold selE; simp [e1]), ← HC.out]
            clear e1
            go_quiet (fail)
            obtain ⟨V2, HV2⟩ : ∃ V2, Hid (V2 = V.drewN nq) := ⟨_, rfl⟩
            have b2 : Below V.heap.size V V2 := by rw [HV2.out]; exact below_drewN (Below.refl _ _) nq
            rw [← HV2.out]
            have Q1 := Hid.of (V1.out.below b2)
            clear V1 KA f0 f1 f2 z1 z2 A1 KEY1 b2
            go_wp2_with fail
            go_roundw
            case rel => exact ⟨j + 1, by go_num, by omega, by rw [HNX.out]; exact Q1⟩
            case measure => simp [intOf]; omega
        · have hjD : decide ((j : Int) < (ars.length : Int)) = false := by simp; omega
          have hj2 : j = ars.length := by omega
          have HCE : Hid (stepR ⟨st, ev, starts, ars, ends⟩ ⟨st2, ev2, starts2, ars2, ends2⟩ en (l.take (k + 1)) = cur) := by
            show _ = _
            rw [stepR_take HY.out, ← HL.out, HC.out, hj2]
            exact (rowG_evQ ⟨st, ev, starts, ars, ends⟩ ⟨st2, ev2, starts2, ars2, ends2⟩ en (ym, ys) L).symm
          clear hj2
          obtain ⟨x0, x1, x2, x3, x4⟩ := mcell_at HW.out.km
          dsimp only at x0 x1 x2 x3 x4
          go_wp2_with fail
          go_roundw
          case rel => exact ⟨k + 1, by go_num, by omega, by rw [HCE.out]; exact HW⟩
          case measure => simp [intOf]; omega
    · have hkD : decide ((k : Int) < (l.length : Int)) = false := by simp; omega
      have HE : Hid (L = stepQ ⟨st, ev, starts, ars, ends⟩ ⟨st2, ev2, starts2, ars2, ends2⟩ l en) := by
        show _ = _
        rw [HL.out, List.take_of_length_le (by omega)]; rfl
      have KEY := Hid.of (rqwide_any ⟨st, ev, starts, ars, ends⟩ ⟨st2, ev2, starts2, ars2, ends2⟩ ⟨a1, c1, a2, c2, a3, c3⟩ ⟨d1, e1, d2, e2, d3, e3⟩ sa sc seen w hma.out hms.out hse.out hsl.out mm.out ms.out zm.out zs.out n w.heap.size (.slice va L.length vc) L wr HW.out.bel (Nat.le_refl _) hn HW.out.hB HW.out.ow HNI.out.1 HNI.out.2)
      obtain ⟨x0, x1, x2, x3, x4⟩ := mcell_at HW.out.km
      obtain ⟨y0, y1, y2, y3, y4⟩ := mcell_at HW.out.ks
      dsimp only at x0 x1 x2 x3 x4 y0 y1 y2 y3 y4
      go_wp2_with fail
      refine KEY.out.mono ?_
      rintro e W9 ⟨v9, rfl, o9, b9⟩
      have O9 : Hid (OwnQ n W9 w.heap.size v9 (seeQ ⟨st, ev, starts, ars, ends⟩ ⟨st2, ev2, starts2, ars2, ends2⟩ seen l en)) := by unfold seeQ; rw [← HE.out]; exact o9
      have B9 := Hid.of (HW.out.bel.trans b9)
      clear o9 b9 KEY x0 x1 x2 x3 x4 y0 y1 y2 y3 y4
      go_wp2_with fail
      go_ret
      exact ⟨_, rfl, O9.out, B9.out⟩

theorem rqstep_any (m s : Mach) (lm ls : ML) (sa : Option Addr) (sc : Nat) (seen : List Int) (n : Nat) (la : Option Addr) (lc : Nat) (l : List Pla) (en : Int) (w : World) (hma : MAt w m lm) (hms : MAt w s ls) (hse : At w sa seen) (hsl : seen.length ≤ maxLen) (mm : mayB m = true) (ms : mayB s = true) (zm : m.st ≤ 6) (zs : s.st ≤ 4) (hn : n ≤ w.heap.size) (hv : AtQ n w la l) (hll : l.length ≤ 4096) :
    Calls Tryd.prog 96 #[mval m lm, mval s ls, .slice sa seen.length sc, .slice la l.length lc, .int .i64 en] w fun e w' => ∃ v', e = .returned v' ∧ OwnQ n w' w.heap.size v' (seeQ m s seen l en) ∧ Below w.heap.size w w' := by
  obtain ⟨st, ev, starts, ars, ends⟩ := m
  obtain ⟨st2, ev2, starts2, ars2, ends2⟩ := s
  obtain ⟨a1, c1, a2, c2, a3, c3⟩ := lm
  obtain ⟨d1, e1, d2, e2, d3, e3⟩ := ls
  exact rqstep_go st ev starts ars ends a1 c1 a2 c2 a3 c3 st2 ev2 starts2 ars2 ends2 d1 e1 d2 e2 d3 e3 sa sc seen n la lc l en w (Hid.of hma) (Hid.of hms) (Hid.of hse) (Hid.of hsl) (Hid.of mm) (Hid.of ms) (Hid.of zm) (Hid.of zs) hn (Hid.of hv) hll

end Go.Proofs.YtgebfkmfhpcdhaaDoor
