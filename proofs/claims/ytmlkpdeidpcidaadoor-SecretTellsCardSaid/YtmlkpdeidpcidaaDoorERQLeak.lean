/-
  The walk of jalousieref12.Leak.
-/
import Derived.Test.YtmlkpdeidpcidaaDoorI25
import Derived.Test.YtmlkpdeidpcidaaDoorER9Fwd
namespace Go.Proofs.YtmlkpdeidpcidaaDoor
open Go.RowKit
set_option linter.unusedVariables false

/-- What Leak answers, by what is found. -/
def leakR (o : Option (Option (List Int))) : Bool × List Int × Bool := match o with
  | none => (false, [], false)
  | some none => (false, [], true)
  | some (some u) => (true, u, true)
def LeakQPost (w : World) (r : Bool × List Int × Bool) (e : Ending) (w' : World) : Prop := ∃ va vc, e = .returned (.tuple #[.bool r.1, .slice va r.2.1.length vc, .bool r.2.2]) ∧ At w' va r.2.1 ∧ r.2.1.length ≤ maxLen ∧ Below w.heap.size w w'
theorem bfStep_len {σ : Type} [DecidableEq σ] (δ : σ → Nat → σ) (x : σ × List Int) (l : List (σ × List Int)) (e : Nat) : (bfStep δ x l e).length ≤ l.length + 1 := by
  unfold bfStep; split
  · omega
  · simp
theorem bfRow_len {σ : Type} [DecidableEq σ] (δ : σ → Nat → σ) (x : σ × List Int) (l : List (σ × List Int)) : ∀ n, (bfRow δ x l n).length ≤ l.length + n
  | 0 => by simp [bfRow]
  | n + 1 => by
    have h1 := bfRow_len δ x l n
    have h2 := bfStep_len δ x (bfRow δ x l n) n
    rw [bfRow_succ]; omega
theorem cells_oneQ (W W' : World) (hW : W'.heap = W.heap) (t : TypeId) (x : Value) : ∀ j u, ([x] : List Value)[j]? = some u → (W'.alloc (.cells #[x] t)).cell? ((⟨W.heap.size, 0, none⟩ : Addr).add j) = some u := by
  intro j u hu
  rw [addr0_add, Nat.zero_add, ← hW]
  exact (Blk.new W' t #[x]).cell j (by rw [← Array.getElem?_toList]; exact hu)

set_option maxRecDepth 100000 in
set_option maxHeartbeats 32000000 in
theorem rqleak_go (st ev : Int) (starts : List Int) (ars : List Arr) (ends : List Int) (a1 : Option Addr) (c1 : Nat) (a2 : Option Addr) (c2 : Nat) (a3 : Option Addr) (c3 : Nat) (st2 ev2 : Int) (starts2 : List Int) (ars2 : List Arr) (ends2 : List Int) (d1 : Option Addr) (e1 : Nat) (d2 : Option Addr) (e2 : Nat) (d3 : Option Addr) (e3 : Nat) (sa : Option Addr) (sc : Nat) (seen : List Int) (w : World) (hma : Hid (MAt w ⟨st, ev, starts, ars, ends⟩ ⟨a1, c1, a2, c2, a3, c3⟩)) (hms : Hid (MAt w ⟨st2, ev2, starts2, ars2, ends2⟩ ⟨d1, e1, d2, e2, d3, e3⟩)) (hse : Hid (At w sa seen)) (hsl : seen.length ≤ 8) (mm : Hid (mayB ⟨st, ev, starts, ars, ends⟩ = true)) (ms : Hid (mayB ⟨st2, ev2, starts2, ars2, ends2⟩ = true)) (zm : Hid (st ≤ 6)) (zs : Hid (st2 ≤ 4)) :
    Calls Tryd.prog 46 #[mval ⟨st, ev, starts, ars, ends⟩ ⟨a1, c1, a2, c2, a3, c3⟩, mval ⟨st2, ev2, starts2, ars2, ends2⟩ ⟨d1, e1, d2, e2, d3, e3⟩, .slice sa seen.length sc] w fun e w' => LeakQPost w (leakR (outQ ⟨st, ev, starts, ars, ends⟩ ⟨st2, ev2, starts2, ars2, ends2⟩ seen)) e w' := by
  have hslm : Hid (seen.length ≤ maxLen) := Nat.le_trans hsl (by decide)
  have h96 : Hid ((allQ ⟨st, ev, starts, ars, ends⟩ ⟨st2, ev2, starts2, ars2, ends2⟩).length ≤ 96) := allQ_len zm.out _
  have HSM : Hid (∀ q : List Pla, (q.Nodup ∧ ∀ y ∈ q, y ∈ (allQ ⟨st, ev, starts, ars, ends⟩ ⟨st2, ev2, starts2, ars2, ends2⟩)) → q.length ≤ 96) := fun q hq => Nat.le_trans (nodup_sub hq.1 hq.2) h96.out
  obtain ⟨i0, hi, hz0, hz1, hz2⟩ := info_parts Tryd.infoRowQ
  obtain ⟨r0, ri, rz0, rz1, rz2⟩ := info_parts Tryd.infoRowI
  obtain ⟨k0, ki, kz0, kz1, kz2⟩ := info_parts Tryd.infoInt
  have B0 : Hid (Below w.heap.size w ((w.alloc (.cells (mcells ⟨st, ev, starts, ars, ends⟩ ⟨a1, c1, a2, c2, a3, c3⟩) 25)).alloc (.cells (mcells ⟨st2, ev2, starts2, ars2, ends2⟩ ⟨d1, e1, d2, e2, d3, e3⟩) 25))) := ((Below.refl _ _).alloc (Nat.le_refl _) _).alloc (by simp) _
  have KM0 : Hid (Blk ((w.alloc (.cells (mcells ⟨st, ev, starts, ars, ends⟩ ⟨a1, c1, a2, c2, a3, c3⟩) 25)).alloc (.cells (mcells ⟨st2, ev2, starts2, ars2, ends2⟩ ⟨d1, e1, d2, e2, d3, e3⟩) 25)) w.heap.size 25 (mcells ⟨st, ev, starts, ars, ends⟩ ⟨a1, c1, a2, c2, a3, c3⟩)) := (Blk.new w _ _).alloc _
  have KS0 : Hid (Blk ((w.alloc (.cells (mcells ⟨st, ev, starts, ars, ends⟩ ⟨a1, c1, a2, c2, a3, c3⟩) 25)).alloc (.cells (mcells ⟨st2, ev2, starts2, ars2, ends2⟩ ⟨d1, e1, d2, e2, d3, e3⟩) 25)) (w.heap.size + 1) 25 (mcells ⟨st2, ev2, starts2, ars2, ends2⟩ ⟨d1, e1, d2, e2, d3, e3⟩)) := by
    have := Blk.new (w.alloc (.cells (mcells ⟨st, ev, starts, ars, ends⟩ ⟨a1, c1, a2, c2, a3, c3⟩) 25)) 25 (mcells ⟨st2, ev2, starts2, ars2, ends2⟩ ⟨d1, e1, d2, e2, d3, e3⟩)
    rwa [World.size_alloc] at this
  go_enter Tryd.func46, Tryd.ntmps46
  obtain ⟨x0, x1, x2, x3, x4⟩ := mcell_at KM0.out
  obtain ⟨y0, y1, y2, y3, y4⟩ := mcell_at KS0.out
  dsimp only at x0 x1 x2 x3 x4 y0 y1 y2 y3 y4
  go_wp2_with fail
  clear x0 x1 x2 x3 x4 y0 y1 y2 y3 y4
  revert B0 KM0 KS0
  generalize ((w.alloc (.cells (mcells ⟨st, ev, starts, ars, ends⟩ ⟨a1, c1, a2, c2, a3, c3⟩) 25)).alloc (.cells (mcells ⟨st2, ev2, starts2, ars2, ends2⟩ ⟨d1, e1, d2, e2, d3, e3⟩) 25)) = V0
  intro B KM KS
  refine (rqfirst_any ⟨st, ev, starts, ars, ends⟩ ⟨st2, ev2, starts2, ars2, ends2⟩ ⟨a1, c1, a2, c2, a3, c3⟩ ⟨d1, e1, d2, e2, d3, e3⟩ sa sc seen w V0 B.out hms.out (hma.out.below B.out (Nat.le_refl _)) (hms.out.below B.out (Nat.le_refl _)) (hse.out.below B.out (Nat.le_refl _)) hslm.out mm.out ms.out zm.out zs.out).mono ?_
  rintro e W1 ⟨v, rfl, ov, hb⟩
  obtain ⟨fst, HF⟩ : ∃ fst, Hid (fst = firstQ ⟨st, ev, starts, ars, ends⟩ ⟨st2, ev2, starts2, ars2, ends2⟩ seen) := ⟨_, rfl⟩
  rw [← HF.out] at ov
  have HFI : Hid (fst.Nodup ∧ ∀ y ∈ fst, y ∈ (allQ ⟨st, ev, starts, ars, ends⟩ ⟨st2, ev2, starts2, ars2, ends2⟩)) := by rw [HF.out]; exact ⟨(first_in mm.out ms.out zm.out zs.out).1, (first_in mm.out ms.out zm.out zs.out).2.1⟩
  obtain ⟨va, vc, hv⟩ := ov.form
  subst hv
  obtain ⟨va', vc', ev', aq, -⟩ := ov.at
  cases ev'
  replace B := Hid.of (B.out.trans (hb.mono B.out.size))
  replace KM := Hid.of (KM.out.below hb KM.out.lt)
  replace KS := Hid.of (KS.out.below hb KS.out.lt)
  have HW0 : Hid (LQ w ((W1.alloc (.cells #[.slice va fst.length vc] 143)).alloc (.cells #[.slice none 0 0] 22)) ⟨st, ev, starts, ars, ends⟩ ⟨st2, ev2, starts2, ars2, ends2⟩ ⟨a1, c1, a2, c2, a3, c3⟩ ⟨d1, e1, d2, e2, d3, e3⟩ (.slice (some ⟨W1.heap.size, 0, none⟩) 1 1) (.slice (some ⟨W1.heap.size + 1, 0, none⟩) 1 1) [fst] [[]]) := by
    have bA : Below W1.heap.size W1 (W1.alloc (.cells #[.slice va fst.length vc] 143)) := (Below.refl _ _).alloc (Nat.le_refl _) _
    have bB : Below (W1.alloc (.cells #[.slice va fst.length vc] 143)).heap.size (W1.alloc (.cells #[.slice va fst.length vc] 143)) ((W1.alloc (.cells #[.slice va fst.length vc] 143)).alloc (.cells #[.slice none 0 0] 22)) := (Below.refl _ _).alloc (Nat.le_refl _) _
    have b2 : Below W1.heap.size W1 ((W1.alloc (.cells #[.slice va fst.length vc] 143)).alloc (.cells #[.slice none 0 0] 22)) := bA.trans (bB.mono bA.size)
    refine ⟨B.out.trans (b2.mono B.out.size), KM.out.below b2 KM.out.lt, KS.out.below b2 KS.out.lt, (ownQQ_one aq B.out.size B.out.size).below bB (Nat.le_trans B.out.size bA.size), ?_⟩
    have := ownV_one (n := w.heap.size) (W := W1.alloc (.cells #[.slice va fst.length vc] 143)) (B := w.heap.size) (innW_nil _ _) (Nat.le_trans B.out.size bA.size) (Nat.le_trans B.out.size bA.size)
    rw [World.size_alloc] at this
    exact this
  clear ov aq hb
  go_wp2_with fail
  clear B KM KS
  revert HW0
  generalize (W1.alloc (.cells #[.slice va fst.length vc] 143)).alloc (.cells #[.slice none 0 0] 22) = X0
  generalize W1.heap.size = bX
  intro HW0
  have HR0 : Hid (RepQ ⟨st, ev, starts, ars, ends⟩ ⟨st2, ev2, starts2, ars2, ends2⟩ [fst] [(qF ⟨st, ev, starts, ars, ends⟩ ⟨st2, ev2, starts2, ars2, ends2⟩ seen, [])]) := RepQ.one HFI.out (by rw [HF.out]; rfl)
  have HL0 : Hid (LK ⟨st, ev, starts, ars, ends⟩ ⟨st2, ev2, starts2, ars2, ends2⟩ seen 0 [(qF ⟨st, ev, starts, ars, ends⟩ ⟨st2, ev2, starts2, ars2, ends2⟩ seen, [])]) := LK.start _ _ _
  go_loopw [10, 11, 12] (fun vq vw i wr => ∃ (k : Nat) (l : List (List Pla × List Int)) (QL : List (List Pla)), i = .int .i64 k ∧ k ≤ l.length ∧ l.length ≤ 264 ∧ Hid (LQ w wr ⟨st, ev, starts, ars, ends⟩ ⟨st2, ev2, starts2, ars2, ends2⟩ ⟨a1, c1, a2, c2, a3, c3⟩ ⟨d1, e1, d2, e2, d3, e3⟩ vq vw QL (wl seen l)) ∧ Hid (RepQ ⟨st, ev, starts, ars, ends⟩ ⟨st2, ev2, starts2, ars2, ends2⟩ QL l) ∧ Hid (LK ⟨st, ev, starts, ars, ends⟩ ⟨st2, ev2, starts2, ars2, ends2⟩ seen k l)) (fun _ _ i _ => 257 - (intOf i).toNat)
  case atStart => exact ⟨0, [(qF ⟨st, ev, starts, ars, ends⟩ ⟨st2, ev2, starts2, ars2, ends2⟩ seen, [])], [fst], rfl, Nat.zero_le _, by simp, HW0, HR0, HL0⟩
  case round =>
    clear HW0 HR0 HL0
    obtain ⟨k, l, QL, rfl, hk, h264, HW, HR, HL⟩ := hrel
    obtain ⟨qqa, qqc, hvq⟩ := HW.out.oq.form
    obtain ⟨wwa, wwc, hvw⟩ := HW.out.ow.form
    rw [HR.out.len] at hvq
    rw [wl_len] at hvw
    subst hvq
    subst hvw
    have hle256 := HL.out.le
    by_cases hlt : k < l.length
    · have hltD : decide ((k : Int) < (l.length : Int)) = true := by simp; omega
      by_cases hcut : 256 < l.length
      · have hcD : decide ((256 : Int) < (l.length : Int)) = true := by simp; omega
        have HO : Hid (outQ ⟨st, ev, starts, ars, ends⟩ ⟨st2, ev2, starts2, ars2, ends2⟩ seen = none) := HL.out.cut hlt hcut
        go_wp2_with fail
        refine bodyPost_ret (v := .tuple #[.bool false, .slice none 0 0, .bool false]) (by simp [results, go_sem]) rfl ?_
        rw [HO.out]
        exact ⟨none, 0, rfl, .inl rfl, Nat.zero_le _, HW.out.bel⟩
      · have hcD : decide ((256 : Int) < (l.length : Int)) = false := by simp; omega
        obtain ⟨x, HX⟩ : ∃ x, Hid (l[k]? = some x) := ⟨_, List.getElem?_eq_getElem hlt⟩
        have HWL : Hid ((wordS seen x.2).length ≤ 264) := by
          have := bi_wlen HL.out.bi k x HX.out
          show _ ≤ _
          rw [wordS_len]; omega
        go_wp2_with fail
        go_loopw [10, 11, 13] (fun vq vw i wr' => ∃ (e : Nat) (QL1 : List (List Pla)), i = .int .i64 e ∧ e ≤ seen.length ∧ Hid (LQ w wr' ⟨st, ev, starts, ars, ends⟩ ⟨st2, ev2, starts2, ars2, ends2⟩ ⟨a1, c1, a2, c2, a3, c3⟩ ⟨d1, e1, d2, e2, d3, e3⟩ vq vw QL1 (wl seen (bfRow (qD ⟨st, ev, starts, ars, ends⟩ ⟨st2, ev2, starts2, ars2, ends2⟩ seen) x l e))) ∧ Hid (RepQ ⟨st, ev, starts, ars, ends⟩ ⟨st2, ev2, starts2, ars2, ends2⟩ QL1 (bfRow (qD ⟨st, ev, starts, ars, ends⟩ ⟨st2, ev2, starts2, ars2, ends2⟩ seen) x l e))) (fun _ _ i _ => seen.length - (intOf i).toNat)
        case atStart => exact ⟨0, QL, rfl, Nat.zero_le _, HW, HR⟩
        case round =>
          clear HW HR
          obtain ⟨e, QL1, rfl, hee, HW, HR⟩ := hrel
          obtain ⟨l1, HS1⟩ : ∃ l1, Hid (l1 = bfRow (qD ⟨st, ev, starts, ars, ends⟩ ⟨st2, ev2, starts2, ars2, ends2⟩ seen) x l e) := ⟨_, rfl⟩
          have HX1 : Hid (l1[k]? = some x) := by
            obtain ⟨t, ht⟩ := bfRow_pre (qD ⟨st, ev, starts, ars, ends⟩ ⟨st2, ev2, starts2, ars2, ends2⟩ seen) x l e
            show _ = _
            rw [HS1.out, ht, List.getElem?_append_left (List.getElem?_eq_some_iff.1 HX.out).1]
            exact HX.out
          have hl1 : l1.length ≤ 264 := by
            have := bfRow_len (qD ⟨st, ev, starts, ars, ends⟩ ⟨st2, ev2, starts2, ars2, ends2⟩ seen) x l e
            rw [HS1.out]; omega
          have hk1 : k < l1.length := (List.getElem?_eq_some_iff.1 HX1.out).1
          have HSuc : Hid (bfRow (qD ⟨st, ev, starts, ars, ends⟩ ⟨st2, ev2, starts2, ars2, ends2⟩ seen) x l (e + 1) = bfStep (qD ⟨st, ev, starts, ars, ends⟩ ⟨st2, ev2, starts2, ars2, ends2⟩ seen) x l1 e) := by show _ = _; rw [bfRow_succ, HS1.out]
          rw [← HS1.out] at HW HR
          obtain ⟨qqa, qqc, hvq⟩ := HW.out.oq.form
          obtain ⟨wwa, wwc, hvw⟩ := HW.out.ow.form
          rw [HR.out.len] at hvq
          rw [wl_len] at hvw
          subst hvq
          subst hvw
          by_cases hle : e < seen.length
          · have hleD : decide ((e : Int) < (seen.length : Int)) = true := by simp; omega
            obtain ⟨sb, so, y, hsa, hsb, HY, hcy⟩ : ∃ (b off : Nat) (y : Int), sa = some ⟨b, off, none⟩ ∧ b < w.heap.size ∧ Hid (y = seen[e]?.getD 0) ∧ w.cell? ⟨b, off + e, none⟩ = some (.int .i64 y) := by
              rcases hse.out with h0 | ⟨b, off, ha, hb, hc⟩
              · have : seen.length = 0 := by rw [h0]; rfl
                omega
              · obtain ⟨x, hx, hcell⟩ := hc.at hle
                exact ⟨b, off, x, ha, hb, hx, hcell⟩
            subst hsa
            have CY : Hid (∀ W, Below w.heap.size w W → W.cell? ⟨sb, so + e, none⟩ = some (.int .i64 y)) := fun W hb => (hb.cell (p := ⟨sb, so + e, none⟩) hsb).trans hcy
            clear hcy
            obtain ⟨q, hq, hqi, hqx⟩ := HR.out.at HX1.out
            have HQI := Hid.of hqi
            have HQL := Hid.of hq
            have HTO : Hid (qD ⟨st, ev, starts, ars, ends⟩ ⟨st2, ev2, starts2, ars2, ends2⟩ seen x.1 e = canG (allQ ⟨st, ev, starts, ars, ends⟩ ⟨st2, ev2, starts2, ars2, ends2⟩) (seeQ ⟨st, ev, starts, ars, ends⟩ ⟨st2, ev2, starts2, ars2, ends2⟩ seen q y)) := by
              show _ = _
              rw [hqx, can_see mm.out ms.out zm.out zs.out hqi.2, HY.out]
            obtain ⟨g, cap, qa, qc, hve, hg, cq, aq⟩ := HW.out.oq.get hq
            rw [HR.out.len] at hve
            cases hve
            have hq96 : q.length ≤ 96 := HSM.out q hqi
            have AQ := Hid.of aq
            have HG := Hid.of hg
            clear hq hqi hqx aq hg
            have SA : Hid (∀ W, Below w.heap.size w W → Blk W w.heap.size 25 (mcells ⟨st, ev, starts, ars, ends⟩ ⟨a1, c1, a2, c2, a3, c3⟩) → Blk W (w.heap.size + 1) 25 (mcells ⟨st2, ev2, starts2, ars2, ends2⟩ ⟨d1, e1, d2, e2, d3, e3⟩) → W.cell? ⟨g, k, none⟩ = some (.slice qa q.length qc) → W.cell? ⟨w.heap.size, 0, none⟩ = some (.int .i64 st) ∧ W.cell? ⟨w.heap.size, 1, none⟩ = some (.int .i64 ev) ∧ W.cell? ⟨w.heap.size, 2, none⟩ = some (.slice a1 starts.length c1) ∧ W.cell? ⟨w.heap.size, 3, none⟩ = some (.slice a2 ars.length c2) ∧ W.cell? ⟨w.heap.size, 4, none⟩ = some (.slice a3 ends.length c3) ∧ W.cell? ⟨w.heap.size + 1, 0, none⟩ = some (.int .i64 st2) ∧ W.cell? ⟨w.heap.size + 1, 1, none⟩ = some (.int .i64 ev2) ∧ W.cell? ⟨w.heap.size + 1, 2, none⟩ = some (.slice d1 starts2.length e1) ∧ W.cell? ⟨w.heap.size + 1, 3, none⟩ = some (.slice d2 ars2.length e2) ∧ W.cell? ⟨w.heap.size + 1, 4, none⟩ = some (.slice d3 ends2.length e3) ∧ W.cell? ⟨g, k, none⟩ = some (.slice qa q.length qc) ∧ W.cell? ⟨sb, so + e, none⟩ = some (.int .i64 y)) := fun W hb h1 h2 h3 => by
              obtain ⟨x0, x1, x2, x3, x4⟩ := mcell_at h1
              obtain ⟨y0, y1, y2, y3, y4⟩ := mcell_at h2
              exact ⟨x0, x1, x2, x3, x4, y0, y1, y2, y3, y4, h3, CY.out _ hb⟩
            go_wp2_with fail
            have bd : Below wr.heap.size wr wr.drew := (Below.refl _ _).drew
            have hn := HW.out.bel.size
            replace AQ := Hid.of (AQ.out.below bd hn)
            replace HW := Hid.of (HW.out.below bd)
            replace cq : wr.drew.cell? ⟨g, k, none⟩ = some (.slice qa q.length qc) := cq
            replace HG : Hid (g < wr.drew.heap.size) := HG.out
            refine wp_region_held_drew (S := fun w' => w'.cell? ⟨w.heap.size, 0, none⟩ = some (.int .i64 st) ∧ w'.cell? ⟨w.heap.size, 1, none⟩ = some (.int .i64 ev) ∧ w'.cell? ⟨w.heap.size, 2, none⟩ = some (.slice a1 starts.length c1) ∧ w'.cell? ⟨w.heap.size, 3, none⟩ = some (.slice a2 ars.length c2) ∧ w'.cell? ⟨w.heap.size, 4, none⟩ = some (.slice a3 ends.length c3) ∧ w'.cell? ⟨w.heap.size + 1, 0, none⟩ = some (.int .i64 st2) ∧ w'.cell? ⟨w.heap.size + 1, 1, none⟩ = some (.int .i64 ev2) ∧ w'.cell? ⟨w.heap.size + 1, 2, none⟩ = some (.slice d1 starts2.length e1) ∧ w'.cell? ⟨w.heap.size + 1, 3, none⟩ = some (.slice d2 ars2.length e2) ∧ w'.cell? ⟨w.heap.size + 1, 4, none⟩ = some (.slice d3 ends2.length e3) ∧ w'.cell? ⟨g, k, none⟩ = some (.slice qa q.length qc) ∧ w'.cell? ⟨sb, so + e, none⟩ = some (.int .i64 y)) (by kernel_rfl) (SA.out _ HW.out.bel HW.out.km HW.out.ks cq) (fun hS => ?_)
            clear bd hn
            revert AQ HW cq HG hS
            generalize wr.drew = Y
            intro AQ HW cq HG hS
            refine wpAnyH_take (i := 0) (v := .agg #[.int .i64 st, .int .i64 ev, .slice a1 starts.length c1, .slice a2 ars.length c2, .slice a3 ends.length c3]) rfl (by kernel_rfl) (by kernel_rfl) (by kernel_rfl) (fun _ _ _ h => h) (Or.inl ⟨by kernel_rfl, fun w' hw' => by obtain ⟨q0, q1, q2, q3, q4, q5, q6, q7, q8, q9, q10, q11⟩ := hw'; go_simp⟩) hS ?_
            refine wpAnyH_take (i := 1) (v := .agg #[.int .i64 st2, .int .i64 ev2, .slice d1 starts2.length e1, .slice d2 ars2.length e2, .slice d3 ends2.length e3]) rfl (by kernel_rfl) (by kernel_rfl) (by kernel_rfl) (fun _ _ _ h => h) (Or.inl ⟨by kernel_rfl, fun w' hw' => by obtain ⟨q0, q1, q2, q3, q4, q5, q6, q7, q8, q9, q10, q11⟩ := hw'; go_simp⟩) hS ?_
            refine wpAnyH_take (i := 2) (v := .slice (some ⟨sb, so, none⟩) seen.length sc) rfl (by kernel_rfl) (by kernel_rfl) (by kernel_rfl) (fun _ _ _ h => h) (Or.inl ⟨by kernel_rfl, fun w' hw' => by obtain ⟨q0, q1, q2, q3, q4, q5, q6, q7, q8, q9, q10, q11⟩ := hw'; go_simp⟩) hS ?_
            refine wpAnyH_take (i := 3) (v := .slice (some ⟨g, 0, none⟩) l1.length qqc) rfl (by kernel_rfl) (by kernel_rfl) (by kernel_rfl) (fun _ _ _ h => h) (Or.inl ⟨by kernel_rfl, fun w' hw' => by obtain ⟨q0, q1, q2, q3, q4, q5, q6, q7, q8, q9, q10, q11⟩ := hw'; go_simp⟩) hS ?_
            refine wpAnyH_take (i := 4) (v := .int .i64 k) rfl (by kernel_rfl) (by kernel_rfl) (by kernel_rfl) (fun _ _ _ h => h) (Or.inl ⟨by kernel_rfl, fun w' hw' => by obtain ⟨q0, q1, q2, q3, q4, q5, q6, q7, q8, q9, q10, q11⟩ := hw'; go_simp⟩) hS ?_
            refine wpAnyH_take (i := 5) (v := .pointer (some ⟨g, k, none⟩)) rfl (by kernel_rfl) (by kernel_rfl) (by kernel_rfl) (fun _ _ _ h => h) (Or.inl ⟨by kernel_rfl, fun w' hw' => by obtain ⟨q0, q1, q2, q3, q4, q5, q6, q7, q8, q9, q10, q11⟩ := hw'; go_simp⟩) hS ?_
            refine wpAnyH_take (i := 6) (v := .slice qa q.length qc) rfl (by kernel_rfl) (by kernel_rfl) (by kernel_rfl) (fun _ _ _ h => h) (Or.inl ⟨by kernel_rfl, fun w' hw' => by obtain ⟨q0, q1, q2, q3, q4, q5, q6, q7, q8, q9, q10, q11⟩ := hw'; go_simp⟩) hS ?_
            refine wpAnyH_take (i := 7) (v := .slice (some ⟨sb, so, none⟩) seen.length sc) rfl (by kernel_rfl) (by kernel_rfl) (by kernel_rfl) (fun _ _ _ h => h) (Or.inl ⟨by kernel_rfl, fun w' hw' => by obtain ⟨q0, q1, q2, q3, q4, q5, q6, q7, q8, q9, q10, q11⟩ := hw'; go_simp⟩) hS ?_
            refine wpAnyH_take (i := 8) (v := .int .i64 e) rfl (by kernel_rfl) (by kernel_rfl) (by kernel_rfl) (fun _ _ _ h => h) (Or.inl ⟨by kernel_rfl, fun w' hw' => by obtain ⟨q0, q1, q2, q3, q4, q5, q6, q7, q8, q9, q10, q11⟩ := hw'; go_simp⟩) hS ?_
            refine wpAnyH_take (i := 9) (v := .pointer (some ⟨sb, so + e, none⟩)) rfl (by kernel_rfl) (by kernel_rfl) (by kernel_rfl) (fun _ _ _ h => h) (Or.inl ⟨by kernel_rfl, fun w' hw' => by obtain ⟨q0, q1, q2, q3, q4, q5, q6, q7, q8, q9, q10, q11⟩ := hw'; go_simp⟩) hS ?_
            refine wpAnyH_take (i := 10) (v := .int .i64 y) rfl (by kernel_rfl) (by kernel_rfl) (by kernel_rfl) (fun _ _ _ h => h) (Or.inl ⟨by kernel_rfl, fun w' hw' => by obtain ⟨q0, q1, q2, q3, q4, q5, q6, q7, q8, q9, q10, q11⟩ := hw'; go_simp⟩) hS ?_
            simp only [Act.put, List.setIfInBounds_toArray]
            refine wpAnyH_ready (rs := [11]) (by kernel_rfl) (by simp) ?_
            refine AllReadyH.cons rfl (fun K' hK' => ?_) AllReadyH.nil
            clear hS
            go_simp
            refine (rqstep_any ⟨st, ev, starts, ars, ends⟩ ⟨st2, ev2, starts2, ars2, ends2⟩ ⟨a1, c1, a2, c2, a3, c3⟩ ⟨d1, e1, d2, e2, d3, e3⟩ (some ⟨sb, so, none⟩) sc seen w.heap.size qa qc q y Y (hma.out.below HW.out.bel (Nat.le_refl _)) (hms.out.below HW.out.bel (Nat.le_refl _)) (hse.out.below HW.out.bel (Nat.le_refl _)) hslm.out mm.out ms.out zm.out zs.out HW.out.bel.size AQ.out (by omega)).mono ?_
            rintro e' Y1 ⟨v, rfl, ov, hb⟩
            obtain ⟨q2, HQ2⟩ : ∃ q2, Hid (q2 = seeQ ⟨st, ev, starts, ars, ends⟩ ⟨st2, ev2, starts2, ars2, ends2⟩ seen q y) := ⟨_, rfl⟩
            have HQ2I : Hid (q2.Nodup ∧ ∀ y ∈ q2, y ∈ (allQ ⟨st, ev, starts, ars, ends⟩ ⟨st2, ev2, starts2, ars2, ends2⟩)) := by rw [HQ2.out]; exact seeQ_in mm.out ms.out zm.out zs.out
            rw [← HQ2.out] at ov HTO
            have hq296 : q2.length ≤ 96 := HSM.out q2 HQ2I.out
            obtain ⟨va, vc, hv⟩ := ov.form
            subst hv
            obtain ⟨va', vc', ev', aq, -⟩ := ov.at
            cases ev'
            have AQ2 := Hid.of aq
            replace HW := Hid.of (HW.out.below hb)
            replace cq := (hb.cell (p := ⟨g, k, none⟩) HG.out).trans cq
            refine hK'.out _ _ (SA.out _ HW.out.bel HW.out.km HW.out.ks cq) (fun hS => ?_)
            clear hK' K' hb ov aq SA AQ cq HG
            obtain ⟨to, HT⟩ : ∃ to, Hid (to = canG (allQ ⟨st, ev, starts, ars, ends⟩ ⟨st2, ev2, starts2, ars2, ends2⟩) q2) := ⟨_, rfl⟩
            rw [← HT.out] at HTO
            have HST : Hid (bfStep (qD ⟨st, ev, starts, ars, ends⟩ ⟨st2, ev2, starts2, ars2, ends2⟩ seen) x l1 e = if knownB l1 to = true then l1 else l1 ++ [(to, x.2 ++ [(e : Int)])]) := by
              show _ = _
              unfold bfStep; rw [HTO.out]
            refine wpAnyH_take (i := 12) (v := .slice va q2.length vc) rfl (by kernel_rfl) (by kernel_rfl) (by kernel_rfl) (fun _ _ _ h => h) (Or.inl ⟨by kernel_rfl, fun w' hw' => by obtain ⟨q0, q1, q2, q3, q4, q5, q6, q7, q8, q9, q10, q11⟩ := hw'; go_simp⟩) hS ?_
            refine wpAnyH_done (by kernel_rfl) ?_ _
            clear hS
            go_wp2_with fail
            go_loopw [15, 16] (fun v15 i wr2 => ∃ (kn : Bool) (j : Nat), v15 = .bool kn ∧ i = .int .i64 j ∧ j ≤ l1.length ∧ Hid (LQ w wr2 ⟨st, ev, starts, ars, ends⟩ ⟨st2, ev2, starts2, ars2, ends2⟩ ⟨a1, c1, a2, c2, a3, c3⟩ ⟨d1, e1, d2, e2, d3, e3⟩ (.slice (some ⟨g, 0, none⟩) l1.length qqc) (.slice wwa l1.length wwc) QL1 (wl seen l1)) ∧ Hid (AtQ w.heap.size wr2 va q2) ∧ Hid (anyQ l1 to j = kn)) (fun _ i _ => l1.length - (intOf i).toNat)
            case atStart => exact ⟨false, 0, rfl, rfl, Nat.zero_le _, HW, AQ2, rfl⟩
            case round =>
              clear HW AQ2
              obtain ⟨kn, j, rfl, rfl, hj, HW, AQ2, HA⟩ := hrel
              by_cases hjl : j < l1.length
              · have hjD : decide ((j : Int) < (l1.length : Int)) = true := by simp; omega
                cases kn with
                | false =>
                  obtain ⟨xj, HXJ⟩ : ∃ xj, Hid (l1[j]? = some xj) := ⟨_, List.getElem?_eq_getElem hjl⟩
                  obtain ⟨qj, hqj, hqji, hqjx⟩ := HR.out.at HXJ.out
                  obtain ⟨g', cap', ja, jc, hve, hg, cj, aj⟩ := HW.out.oq.get hqj
                  rw [HR.out.len] at hve
                  cases hve
                  have hj96 : qj.length ≤ 96 := HSM.out qj hqji
                  have HSE : Hid (sameQ qj q2 = decide (xj.1 = to)) := by
                    show _ = _
                    rw [same_can hqji HQ2I.out, hqjx, HT.out]
                  have KEY := Hid.of (rqsame_any w.heap.size ja va jc vc qj q2 wr (Hid.of aj) AQ2 (by omega) (by omega) HW.out.bel.size)
                  rw [HSE.out] at KEY
                  have HA2 : Hid (anyQ l1 to (j + 1) = decide (xj.1 = to)) := anyQ_succ HXJ.out HA.out
                  clear hqj hqji hqjx aj hg
                  obtain ⟨bq, HBQ⟩ : ∃ bq, Hid (bq = decide (xj.1 = to)) := ⟨_, rfl⟩
                  rw [← HBQ.out] at KEY HA2
                  go_wp2_with fail
                  refine KEY.out.mono ?_
                  rintro r W9 ⟨rfl, hb⟩
                  have AQ3 := Hid.of (AQ2.out.below hb HW.out.bel.size)
                  have HW3 := Hid.of (HW.out.below hb)
                  clear hb KEY cj HW AQ2
                  go_wp2_with fail
                  go_roundw
                  case rel => exact ⟨bq, j + 1, rfl, by go_num, by omega, HW3, AQ3, HA2⟩
                  case measure => simp [intOf]; omega
                | true =>
                  have HNX : Hid (bfRow (qD ⟨st, ev, starts, ars, ends⟩ ⟨st2, ev2, starts2, ars2, ends2⟩ seen) x l (e + 1) = l1) := by show _ = _; rw [HSuc.out, HST.out, if_pos (anyQ_hit HA.out)]
                  go_wp2_with fail
                  go_roundw
                  case rel => exact ⟨e + 1, QL1, by go_num, by omega, by rw [HNX.out]; exact HW, by rw [HNX.out]; exact HR⟩
                  case measure => simp [intOf]; omega
              · have hjD : decide ((j : Int) < (l1.length : Int)) = false := by simp; omega
                have HKN : Hid (knownB l1 to = kn) := by show _ = _; rw [← HA.out, anyQ_all l1 to (by omega)]
                cases kn with
                | true =>
                  have HNX : Hid (bfRow (qD ⟨st, ev, starts, ars, ends⟩ ⟨st2, ev2, starts2, ars2, ends2⟩ seen) x l (e + 1) = l1) := by show _ = _; rw [HSuc.out, HST.out, if_pos HKN.out]
                  go_wp2_with fail
                  go_roundw
                  case rel => exact ⟨e + 1, QL1, by go_num, by omega, by rw [HNX.out]; exact HW, by rw [HNX.out]; exact HR⟩
                  case measure => simp [intOf]; omega
                | false =>
                  have HNX : Hid (bfRow (qD ⟨st, ev, starts, ars, ends⟩ ⟨st2, ev2, starts2, ars2, ends2⟩ seen) x l (e + 1) = l1 ++ [(to, x.2 ++ [(e : Int)])]) := by show _ = _; rw [HSuc.out, HST.out, if_neg (by rw [HKN.out]; simp)]
                  have HWN : Hid (wordS seen (x.2 ++ [(e : Int)]) = wordS seen x.2 ++ [y]) := by show _ = _; rw [wordS_snoc, HY.out]
                  obtain ⟨gw, capw, za, zc, hvw, hgw, cz, iz⟩ := HW.out.ow.get (wl_at HX1.out)
                  rw [wl_len] at hvw
                  cases hvw
                  obtain ⟨za', zc', hze, -, -, hzn⟩ := iz.at
                  cases hze
                  have IZ1 := Hid.of iz
                  have HZN := Hid.of hzn
                  have HGW := Hid.of hgw
                  clear iz hzn hgw
                  revert HWN IZ1 cz HWL
                  generalize wordS seen x.2 = word
                  intro HWL HWN cz IZ1
                  have hWl := HWL
                  go_wp2_with fail
                  have CZ1 := Hid.of cz
                  clear cz
                  revert HW AQ2 IZ1 HGW CZ1
                  generalize wr = wF
                  intro AQ2 HW HGW IZ1 CZ1
                  have SA : Hid (∀ W, Below wF.heap.size wF W → W.cell? ⟨gw, k, none⟩ = some (.slice za word.length zc) ∧ W.cell? ⟨sb, so + e, none⟩ = some (.int .i64 y)) := fun W hb => ⟨(hb.cell (p := ⟨gw, k, none⟩) HGW.out).trans CZ1.out, CY.out _ (HW.out.bel.trans (hb.mono HW.out.bel.size))⟩
                  refine wp_region_held_drew (S := fun w' => w'.cell? ⟨gw, k, none⟩ = some (.slice za word.length zc) ∧ w'.cell? ⟨sb, so + e, none⟩ = some (.int .i64 y)) (by kernel_rfl) (SA.out _ (Below.refl _ _).drew) (fun hS => ?_)
                  have BF : Hid (Below wF.heap.size wF wF.drew) := (Below.refl _ _).drew
                  revert hS BF
                  generalize wF.drew = Y0
                  intro hS BF
                  refine wpAnyH_take (i := 1) (v := .slice (some ⟨gw, 0, none⟩) l1.length wwc) rfl (by kernel_rfl) (by kernel_rfl) (by kernel_rfl) (fun _ _ _ h => h) (Or.inl ⟨by kernel_rfl, fun w' hw' => by obtain ⟨q0, q1⟩ := hw'; go_simp⟩) hS ?_
                  refine wpAnyH_take (i := 2) (v := .int .i64 k) rfl (by kernel_rfl) (by kernel_rfl) (by kernel_rfl) (fun _ _ _ h => h) (Or.inl ⟨by kernel_rfl, fun w' hw' => by obtain ⟨q0, q1⟩ := hw'; go_simp⟩) hS ?_
                  refine wpAnyH_take (i := 3) (v := .pointer (some ⟨gw, k, none⟩)) rfl (by kernel_rfl) (by kernel_rfl) (by kernel_rfl) (fun _ _ _ h => h) (Or.inl ⟨by kernel_rfl, fun w' hw' => by obtain ⟨q0, q1⟩ := hw'; go_simp⟩) hS ?_
                  refine wpAnyH_take (i := 4) (v := .slice za word.length zc) rfl (by kernel_rfl) (by kernel_rfl) (by kernel_rfl) (fun _ _ _ h => h) (Or.inl ⟨by kernel_rfl, fun w' hw' => by obtain ⟨q0, q1⟩ := hw'; go_simp⟩) hS ?_
                  refine wpAnyH_take (i := 6) (v := .slice (some ⟨sb, so, none⟩) seen.length sc) rfl (by kernel_rfl) (by kernel_rfl) (by kernel_rfl) (fun _ _ _ h => h) (Or.inl ⟨by kernel_rfl, fun w' hw' => by obtain ⟨q0, q1⟩ := hw'; go_simp⟩) hS ?_
                  refine wpAnyH_take (i := 7) (v := .int .i64 e) rfl (by kernel_rfl) (by kernel_rfl) (by kernel_rfl) (fun _ _ _ h => h) (Or.inl ⟨by kernel_rfl, fun w' hw' => by obtain ⟨q0, q1⟩ := hw'; go_simp⟩) hS ?_
                  refine wpAnyH_take (i := 8) (v := .pointer (some ⟨sb, so + e, none⟩)) rfl (by kernel_rfl) (by kernel_rfl) (by kernel_rfl) (fun _ _ _ h => h) (Or.inl ⟨by kernel_rfl, fun w' hw' => by obtain ⟨q0, q1⟩ := hw'; go_simp⟩) hS ?_
                  refine wpAnyH_take (i := 9) (v := .int .i64 y) rfl (by kernel_rfl) (by kernel_rfl) (by kernel_rfl) (fun _ _ _ h => h) (Or.inl ⟨by kernel_rfl, fun w' hw' => by obtain ⟨q0, q1⟩ := hw'; go_simp⟩) hS ?_
                  simp only [Act.put, List.setIfInBounds_toArray]
                  refine wpAnyH_ready (rs := [0, 10]) (by kernel_rfl) (by simp) ?_
                  refine AllReadyH.cons rfl (fun K' hK' => ?_) (AllReadyH.cons rfl (fun K' hK' => ?_) AllReadyH.nil)
                  · clear hS
                    go_simp
                    have hb : Below Y0.heap.size Y0 (Y0.alloc (.cells #[] 3)) := (Below.refl _ _).alloc (Nat.le_refl _) _
                    have P52 : Hid (wF.heap.size ≤ Y0.heap.size) := BF.out.size
                    replace BF := Hid.of (BF.out.trans (hb.mono BF.out.size))
                    have K52 := Hid.of (Blk.new Y0 3 #[])
                    refine hK'.out _ _ (SA.out _ BF.out) (fun hS => ?_)
                    clear hK' K' hb
                    revert P52 BF K52 hS
                    generalize Y0.alloc (.cells #[] 3) = Y11
                    generalize Y0.heap.size = p52
                    intro P52 BF K52 hS
                    refine wpAnyH_ready (rs := [5, 10]) (by kernel_rfl) (by simp) ?_
                    refine AllReadyH.cons rfl (fun K' hK' => ?_) (AllReadyH.cons rfl (fun K' hK' => ?_) AllReadyH.nil)
                    · clear hS
                      have o0 : Own Y11 p52 (.slice (some ⟨p52, 0, none⟩) 0 0) [] := own_empty_blk K52.out
                      obtain ⟨za', zc', hze, hza, -, -⟩ := (IZ1.out.below BF.out HW.out.bel.size).at
                      cases hze
                      have hw64 := hWl.out
                      refine step_append_ints rfl (.tmp 73) (.tmp 77) 22 rfl p52 k0 Tryd.underlying22 ki kz0 kz1 kz2 _ [] rfl o0 za zc word rfl hza HZN.out (by simp only [List.length_nil]; omega) (Nat.le_of_lt K52.out.lt) ?_
                      intro v58 Y12 o1 gr
                      replace o1 : Own Y12 p52 v58 word := o1
                      have hb : Below wF.heap.size Y11 Y12 := (Below.refl _ _).grown gr BF.out.size (fun j hj => by cases hj; exact P52.out)
                      replace BF := Hid.of (BF.out.trans hb)
                      have S58 : Hid (p52 ≤ Y12.heap.size) := Nat.le_trans (Nat.le_of_lt K52.out.lt) gr.size
                      obtain ⟨ua, uc, hva, -, -, -⟩ := own_form2 o1
                      subst hva
                      have O58 := Hid.of o1
                      refine hK'.out _ _ (SA.out _ BF.out) (fun hS => ?_)
                      clear hK' K' hb o0 o1 gr hza hw64 K52
                      refine wpAnyH_ready (rs := [10]) (by kernel_rfl) (by simp) ?_
                      refine AllReadyH.cons rfl (fun K' hK' => ?_) AllReadyH.nil
                      clear hS
                      go_simp
                      have hb : Below Y12.heap.size Y12 (Y12.alloc (.cells #[.int .i64 y] 3)) := (Below.refl _ _).alloc (Nat.le_refl _) _
                      have P64 : Hid (wF.heap.size ≤ Y12.heap.size) := BF.out.size
                      replace BF := Hid.of (BF.out.trans (hb.mono BF.out.size))
                      replace O58 := Hid.of (own_same O58.out (fun j hj => hb.block j (World.ownsRow.lt O58.out j hj).2))
                      replace S58 := Hid.of (Nat.le_trans S58.out hb.size)
                      have K64 := Hid.of (Blk.new Y12 3 #[.int .i64 y])
                      refine hK'.out _ _ (SA.out _ BF.out) (fun hS => ?_)
                      clear hK' K' hb
                      revert P64 BF O58 S58 K64 hS
                      generalize Y12.alloc (.cells #[.int .i64 y] 3) = Y13
                      generalize Y12.heap.size = p64
                      intro P64 BF O58 S58 K64 hS
                      refine wpAnyH_ready (rs := [11]) (by kernel_rfl) (by simp) ?_
                      refine AllReadyH.cons rfl (fun K' hK' => ?_) AllReadyH.nil
                      clear hS
                      have hw64 := hWl.out
                      have hax : At Y13 (some ⟨p64, 0, none⟩) [y] := at_one_blk K64.out
                      refine step_append_ints rfl (.tmp 78) (.tmp 83) 22 rfl p52 k0 Tryd.underlying22 ki kz0 kz1 kz2 _ word rfl O58.out (some ⟨p64, 0, none⟩) 1 [y] rfl hax (fun h => by cases h) (by simp only [List.length_cons, List.length_nil]; omega) S58.out ?_
                      intro v65 Y14 o2 gr
                      have hb : Below wF.heap.size Y13 Y14 := (Below.refl _ _).grown gr BF.out.size (fun j hj => Nat.le_trans P52.out (World.ownsRow.lt O58.out j hj).1)
                      replace BF := Hid.of (BF.out.trans hb)
                      obtain ⟨va2, vc2, hv2, -, -, -⟩ := own_form2 o2
                      have hl2 : (word ++ [y]).length = word.length + 1 := by simp
                      rw [hl2] at hv2
                      subst hv2
                      have I2 : Hid (InnW w.heap.size Y14 (.slice va2 (word.length + 1) vc2) (word ++ [y])) := InnW.of_own o2
                      refine hK'.out _ _ (SA.out _ BF.out) (fun hS => ?_)
                      clear hK' K' hb o2 gr hl2 hw64 hax O58 K64 S58
                      refine wpAnyH_take (i := 12) (v := .slice va2 (word.length + 1) vc2) rfl (by kernel_rfl) (by kernel_rfl) (by kernel_rfl) (fun _ _ _ h => h) (Or.inl ⟨by kernel_rfl, fun w' hw' => by obtain ⟨q0, q1⟩ := hw'; go_simp⟩) hS ?_
                      refine wpAnyH_done (by kernel_rfl) ?_ _
                      clear hS
                      have HW2 := Hid.of (HW.out.below BF.out)
                      have AQ4 := Hid.of (AQ2.out.below BF.out HW.out.bel.size)
                      clear BF SA
                      have bV : Below Y14.heap.size Y14 (Y14.alloc (.cells #[.slice va q2.length vc] 143)) := (Below.refl _ _).alloc (Nat.le_refl _) _
                      have HW3 := Hid.of (HW2.out.below bV)
                      have AQ5 := Hid.of (AQ4.out.below bV HW2.out.bel.size)
                      have I3 := Hid.of (I2.out.below bV HW2.out.bel.size)
                      obtain ⟨vs, ho, hin⟩ := HW3.out.oq
                      have HO := Hid.of ho
                      have HIN := Hid.of hin
                      rw [HR.out.len] at ho
                      have HO1 := Hid.of ho
                      clear ho hin bV
                      have hB3 := HW3.out.bel.size
                      go_wp2_with (at_builtin; refine wpList_append_block _ rfl (.tmp 85) (.tmp 87) 145 rfl w.heap.size 143 i0 (.slice none 0 0) 1 24 Tryd.underlying145 hi hz0 hz1 hz2 rfl (by decide) _ _ _ rfl HO1.out ⟨Y14.heap.size, 0, none⟩ 1 1 [.slice va q2.length vc] rfl rfl (cells_oneQ Y14 _ rfl _ _) (by intro u hu; rw [List.mem_singleton.1 hu]; rfl) (by decide) (by unfold maxLen; omega) (by omega) hB3 ?_)
                      intro v7 w7 o7 g7 n7
                      rw [← HR.out.len] at o7
                      have HW4 := Hid.of (LQ.pushQ HW3.out HO.out HIN.out AQ5.out o7 g7)
                      have I4 := Hid.of (I3.out.kep (kepT_grown (n := w.heap.size) HO.out g7 (Nat.le_refl _) HW3.out.bel.size) (by decide))
                      clear o7 g7 n7 HO HO1 HIN HW3 AQ5 I3 hB3 HW2 AQ4 I2
                      obtain ⟨fa7, fc7, hf7⟩ := HW4.out.oq.form
                      rw [List.length_append, HR.out.len, List.length_cons, List.length_nil, Nat.zero_add] at hf7
                      subst hf7
                      have bV : Below w7.heap.size w7 (w7.alloc (.cells #[.slice va2 (word.length + 1) vc2] 22)) := (Below.refl _ _).alloc (Nat.le_refl _) _
                      have HW5 := Hid.of (HW4.out.below bV)
                      have I5 := Hid.of (I4.out.below bV HW4.out.bel.size)
                      obtain ⟨vs2, ho2, hin2⟩ := HW5.out.ow
                      have HO2 := Hid.of ho2
                      have HIN2 := Hid.of hin2
                      rw [wl_len] at ho2
                      have HO3 := Hid.of ho2
                      clear ho2 hin2 bV
                      have hB5 := HW5.out.bel.size
                      go_wp2_with (at_builtin; refine wpList_append_block _ rfl (.tmp 89) (.tmp 91) 69 rfl w.heap.size 22 r0 (.slice none 0 0) 1 24 Tryd.underlying69 ri rz0 rz1 rz2 rfl (by decide) _ _ _ rfl HO3.out ⟨w7.heap.size, 0, none⟩ 1 1 [.slice va2 (word.length + 1) vc2] rfl rfl (cells_oneQ w7 _ rfl _ _) (by intro u hu; rw [List.mem_singleton.1 hu]; rfl) (by decide) (by unfold maxLen; omega) (by omega) hB5 ?_)
                      intro v8 w8 o8 g8 n8
                      rw [← wl_len seen] at o8
                      have HW6 := Hid.of (LQ.pushW HW5.out HO2.out HIN2.out I5.out o8 g8)
                      have HWE : Hid (wl seen (l1 ++ [(to, x.2 ++ [(e : Int)])]) = wl seen l1 ++ [word ++ [y]]) := by show _ = _; rw [wl_snoc, HWN.out]
                      have HR6 : Hid (RepQ ⟨st, ev, starts, ars, ends⟩ ⟨st2, ev2, starts2, ars2, ends2⟩ (QL1 ++ [q2]) (l1 ++ [(to, x.2 ++ [(e : Int)])])) := HR.out.snoc HQ2I.out HT.out
                      clear o8 g8 n8 HO2 HO3 HIN2 HW5 I5 hB5 HW4 I4
                      go_wp2_with fail
                      go_roundw
                      case rel => exact ⟨e + 1, QL1 ++ [q2], by go_num, by omega, by rw [HNX.out, HWE.out]; exact HW6, by rw [HNX.out]; exact HR6⟩
                      case measure => simp [intOf]; omega
                    · clear hS
                      go_simp
                      have hb : Below Y11.heap.size Y11 (Y11.alloc (.cells #[.int .i64 y] 3)) := (Below.refl _ _).alloc (Nat.le_refl _) _
                      have P64 : Hid (wF.heap.size ≤ Y11.heap.size) := BF.out.size
                      have NE := Hid.of (Nat.ne_of_lt K52.out.lt)
                      replace BF := Hid.of (BF.out.trans (hb.mono BF.out.size))
                      replace K52 := Hid.of (K52.out.below hb K52.out.lt)
                      have K64 := Hid.of (Blk.new Y11 3 #[.int .i64 y])
                      refine hK'.out _ _ (SA.out _ BF.out) (fun hS => ?_)
                      clear hK' K' hb
                      revert P64 NE BF K52 K64 hS
                      generalize Y11.alloc (.cells #[.int .i64 y] 3) = Y15
                      generalize Y11.heap.size = p64
                      intro P64 NE BF K52 K64 hS
                      refine wpAnyH_ready (rs := [5]) (by kernel_rfl) (by simp) ?_
                      refine AllReadyH.cons rfl (fun K' hK' => ?_) AllReadyH.nil
                      clear hS
                      have o0 : Own Y15 p52 (.slice (some ⟨p52, 0, none⟩) 0 0) [] := own_empty_blk K52.out
                      obtain ⟨za', zc', hze, hza, -, -⟩ := (IZ1.out.below BF.out HW.out.bel.size).at
                      cases hze
                      have hw64 := hWl.out
                      refine step_append_ints rfl (.tmp 73) (.tmp 77) 22 rfl p52 k0 Tryd.underlying22 ki kz0 kz1 kz2 _ [] rfl o0 za zc word rfl hza HZN.out (by simp only [List.length_nil]; omega) (Nat.le_of_lt K52.out.lt) ?_
                      intro v58 Y16 o1 gr
                      replace o1 : Own Y16 p52 v58 word := o1
                      have hb : Below wF.heap.size Y15 Y16 := (Below.refl _ _).grown gr BF.out.size (fun j hj => by cases hj; exact P52.out)
                      replace BF := Hid.of (BF.out.trans hb)
                      replace K64 : Hid (Blk Y16 p64 3 #[.int .i64 y]) := (gr.block p64 K64.out.lt (fun e => by cases e; exact NE.out rfl)).trans K64.out
                      have S58 : Hid (p52 ≤ Y16.heap.size) := Nat.le_trans (Nat.le_of_lt K52.out.lt) gr.size
                      obtain ⟨ua, uc, hva, -, -, -⟩ := own_form2 o1
                      subst hva
                      have O58 := Hid.of o1
                      refine hK'.out _ _ (SA.out _ BF.out) (fun hS => ?_)
                      clear hK' K' hb o0 o1 gr hza hw64 K52
                      refine wpAnyH_ready (rs := [11]) (by kernel_rfl) (by simp) ?_
                      refine AllReadyH.cons rfl (fun K' hK' => ?_) AllReadyH.nil
                      clear hS
                      have hw64 := hWl.out
                      have hax : At Y16 (some ⟨p64, 0, none⟩) [y] := at_one_blk K64.out
                      refine step_append_ints rfl (.tmp 78) (.tmp 83) 22 rfl p52 k0 Tryd.underlying22 ki kz0 kz1 kz2 _ word rfl O58.out (some ⟨p64, 0, none⟩) 1 [y] rfl hax (fun h => by cases h) (by simp only [List.length_cons, List.length_nil]; omega) S58.out ?_
                      intro v65 Y17 o2 gr
                      have hb : Below wF.heap.size Y16 Y17 := (Below.refl _ _).grown gr BF.out.size (fun j hj => Nat.le_trans P52.out (World.ownsRow.lt O58.out j hj).1)
                      replace BF := Hid.of (BF.out.trans hb)
                      obtain ⟨va2, vc2, hv2, -, -, -⟩ := own_form2 o2
                      have hl2 : (word ++ [y]).length = word.length + 1 := by simp
                      rw [hl2] at hv2
                      subst hv2
                      have I2 : Hid (InnW w.heap.size Y17 (.slice va2 (word.length + 1) vc2) (word ++ [y])) := InnW.of_own o2
                      refine hK'.out _ _ (SA.out _ BF.out) (fun hS => ?_)
                      clear hK' K' hb o2 gr hl2 hw64 hax O58 K64 S58
                      refine wpAnyH_take (i := 12) (v := .slice va2 (word.length + 1) vc2) rfl (by kernel_rfl) (by kernel_rfl) (by kernel_rfl) (fun _ _ _ h => h) (Or.inl ⟨by kernel_rfl, fun w' hw' => by obtain ⟨q0, q1⟩ := hw'; go_simp⟩) hS ?_
                      refine wpAnyH_done (by kernel_rfl) ?_ _
                      clear hS
                      have HW2 := Hid.of (HW.out.below BF.out)
                      have AQ4 := Hid.of (AQ2.out.below BF.out HW.out.bel.size)
                      clear BF SA
                      have bV : Below Y17.heap.size Y17 (Y17.alloc (.cells #[.slice va q2.length vc] 143)) := (Below.refl _ _).alloc (Nat.le_refl _) _
                      have HW3 := Hid.of (HW2.out.below bV)
                      have AQ5 := Hid.of (AQ4.out.below bV HW2.out.bel.size)
                      have I3 := Hid.of (I2.out.below bV HW2.out.bel.size)
                      obtain ⟨vs, ho, hin⟩ := HW3.out.oq
                      have HO := Hid.of ho
                      have HIN := Hid.of hin
                      rw [HR.out.len] at ho
                      have HO1 := Hid.of ho
                      clear ho hin bV
                      have hB3 := HW3.out.bel.size
                      go_wp2_with (at_builtin; refine wpList_append_block _ rfl (.tmp 85) (.tmp 87) 145 rfl w.heap.size 143 i0 (.slice none 0 0) 1 24 Tryd.underlying145 hi hz0 hz1 hz2 rfl (by decide) _ _ _ rfl HO1.out ⟨Y17.heap.size, 0, none⟩ 1 1 [.slice va q2.length vc] rfl rfl (cells_oneQ Y17 _ rfl _ _) (by intro u hu; rw [List.mem_singleton.1 hu]; rfl) (by decide) (by unfold maxLen; omega) (by omega) hB3 ?_)
                      intro v7 w7 o7 g7 n7
                      rw [← HR.out.len] at o7
                      have HW4 := Hid.of (LQ.pushQ HW3.out HO.out HIN.out AQ5.out o7 g7)
                      have I4 := Hid.of (I3.out.kep (kepT_grown (n := w.heap.size) HO.out g7 (Nat.le_refl _) HW3.out.bel.size) (by decide))
                      clear o7 g7 n7 HO HO1 HIN HW3 AQ5 I3 hB3 HW2 AQ4 I2
                      obtain ⟨fa7, fc7, hf7⟩ := HW4.out.oq.form
                      rw [List.length_append, HR.out.len, List.length_cons, List.length_nil, Nat.zero_add] at hf7
                      subst hf7
                      have bV : Below w7.heap.size w7 (w7.alloc (.cells #[.slice va2 (word.length + 1) vc2] 22)) := (Below.refl _ _).alloc (Nat.le_refl _) _
                      have HW5 := Hid.of (HW4.out.below bV)
                      have I5 := Hid.of (I4.out.below bV HW4.out.bel.size)
                      obtain ⟨vs2, ho2, hin2⟩ := HW5.out.ow
                      have HO2 := Hid.of ho2
                      have HIN2 := Hid.of hin2
                      rw [wl_len] at ho2
                      have HO3 := Hid.of ho2
                      clear ho2 hin2 bV
                      have hB5 := HW5.out.bel.size
                      go_wp2_with (at_builtin; refine wpList_append_block _ rfl (.tmp 89) (.tmp 91) 69 rfl w.heap.size 22 r0 (.slice none 0 0) 1 24 Tryd.underlying69 ri rz0 rz1 rz2 rfl (by decide) _ _ _ rfl HO3.out ⟨w7.heap.size, 0, none⟩ 1 1 [.slice va2 (word.length + 1) vc2] rfl rfl (cells_oneQ w7 _ rfl _ _) (by intro u hu; rw [List.mem_singleton.1 hu]; rfl) (by decide) (by unfold maxLen; omega) (by omega) hB5 ?_)
                      intro v8 w8 o8 g8 n8
                      rw [← wl_len seen] at o8
                      have HW6 := Hid.of (LQ.pushW HW5.out HO2.out HIN2.out I5.out o8 g8)
                      have HWE : Hid (wl seen (l1 ++ [(to, x.2 ++ [(e : Int)])]) = wl seen l1 ++ [word ++ [y]]) := by show _ = _; rw [wl_snoc, HWN.out]
                      have HR6 : Hid (RepQ ⟨st, ev, starts, ars, ends⟩ ⟨st2, ev2, starts2, ars2, ends2⟩ (QL1 ++ [q2]) (l1 ++ [(to, x.2 ++ [(e : Int)])])) := HR.out.snoc HQ2I.out HT.out
                      clear o8 g8 n8 HO2 HO3 HIN2 HW5 I5 hB5 HW4 I4
                      go_wp2_with fail
                      go_roundw
                      case rel => exact ⟨e + 1, QL1 ++ [q2], by go_num, by omega, by rw [HNX.out, HWE.out]; exact HW6, by rw [HNX.out]; exact HR6⟩
                      case measure => simp [intOf]; omega
                  · clear hS
                    go_simp
                    have hb : Below Y0.heap.size Y0 (Y0.alloc (.cells #[.int .i64 y] 3)) := (Below.refl _ _).alloc (Nat.le_refl _) _
                    have P64 : Hid (wF.heap.size ≤ Y0.heap.size) := BF.out.size
                    replace BF := Hid.of (BF.out.trans (hb.mono BF.out.size))
                    have K64 := Hid.of (Blk.new Y0 3 #[.int .i64 y])
                    refine hK'.out _ _ (SA.out _ BF.out) (fun hS => ?_)
                    clear hK' K' hb
                    revert P64 BF K64 hS
                    generalize Y0.alloc (.cells #[.int .i64 y] 3) = Y18
                    generalize Y0.heap.size = p64
                    intro P64 BF K64 hS
                    refine wpAnyH_ready (rs := [0]) (by kernel_rfl) (by simp) ?_
                    refine AllReadyH.cons rfl (fun K' hK' => ?_) AllReadyH.nil
                    clear hS
                    go_simp
                    have hb : Below Y18.heap.size Y18 (Y18.alloc (.cells #[] 3)) := (Below.refl _ _).alloc (Nat.le_refl _) _
                    have P52 : Hid (wF.heap.size ≤ Y18.heap.size) := BF.out.size
                    have NE := Hid.of (Nat.ne_of_gt K64.out.lt)
                    replace BF := Hid.of (BF.out.trans (hb.mono BF.out.size))
                    replace K64 := Hid.of (K64.out.below hb K64.out.lt)
                    have K52 := Hid.of (Blk.new Y18 3 #[])
                    refine hK'.out _ _ (SA.out _ BF.out) (fun hS => ?_)
                    clear hK' K' hb
                    revert P52 NE BF K64 K52 hS
                    generalize Y18.alloc (.cells #[] 3) = Y19
                    generalize Y18.heap.size = p52
                    intro P52 NE BF K64 K52 hS
                    refine wpAnyH_ready (rs := [5]) (by kernel_rfl) (by simp) ?_
                    refine AllReadyH.cons rfl (fun K' hK' => ?_) AllReadyH.nil
                    clear hS
                    have o0 : Own Y19 p52 (.slice (some ⟨p52, 0, none⟩) 0 0) [] := own_empty_blk K52.out
                    obtain ⟨za', zc', hze, hza, -, -⟩ := (IZ1.out.below BF.out HW.out.bel.size).at
                    cases hze
                    have hw64 := hWl.out
                    refine step_append_ints rfl (.tmp 73) (.tmp 77) 22 rfl p52 k0 Tryd.underlying22 ki kz0 kz1 kz2 _ [] rfl o0 za zc word rfl hza HZN.out (by simp only [List.length_nil]; omega) (Nat.le_of_lt K52.out.lt) ?_
                    intro v58 Y20 o1 gr
                    replace o1 : Own Y20 p52 v58 word := o1
                    have hb : Below wF.heap.size Y19 Y20 := (Below.refl _ _).grown gr BF.out.size (fun j hj => by cases hj; exact P52.out)
                    replace BF := Hid.of (BF.out.trans hb)
                    replace K64 : Hid (Blk Y20 p64 3 #[.int .i64 y]) := (gr.block p64 K64.out.lt (fun e => by cases e; exact NE.out rfl)).trans K64.out
                    have S58 : Hid (p52 ≤ Y20.heap.size) := Nat.le_trans (Nat.le_of_lt K52.out.lt) gr.size
                    obtain ⟨ua, uc, hva, -, -, -⟩ := own_form2 o1
                    subst hva
                    have O58 := Hid.of o1
                    refine hK'.out _ _ (SA.out _ BF.out) (fun hS => ?_)
                    clear hK' K' hb o0 o1 gr hza hw64 K52
                    refine wpAnyH_ready (rs := [11]) (by kernel_rfl) (by simp) ?_
                    refine AllReadyH.cons rfl (fun K' hK' => ?_) AllReadyH.nil
                    clear hS
                    have hw64 := hWl.out
                    have hax : At Y20 (some ⟨p64, 0, none⟩) [y] := at_one_blk K64.out
                    refine step_append_ints rfl (.tmp 78) (.tmp 83) 22 rfl p52 k0 Tryd.underlying22 ki kz0 kz1 kz2 _ word rfl O58.out (some ⟨p64, 0, none⟩) 1 [y] rfl hax (fun h => by cases h) (by simp only [List.length_cons, List.length_nil]; omega) S58.out ?_
                    intro v65 Y21 o2 gr
                    have hb : Below wF.heap.size Y20 Y21 := (Below.refl _ _).grown gr BF.out.size (fun j hj => Nat.le_trans P52.out (World.ownsRow.lt O58.out j hj).1)
                    replace BF := Hid.of (BF.out.trans hb)
                    obtain ⟨va2, vc2, hv2, -, -, -⟩ := own_form2 o2
                    have hl2 : (word ++ [y]).length = word.length + 1 := by simp
                    rw [hl2] at hv2
                    subst hv2
                    have I2 : Hid (InnW w.heap.size Y21 (.slice va2 (word.length + 1) vc2) (word ++ [y])) := InnW.of_own o2
                    refine hK'.out _ _ (SA.out _ BF.out) (fun hS => ?_)
                    clear hK' K' hb o2 gr hl2 hw64 hax O58 K64 S58
                    refine wpAnyH_take (i := 12) (v := .slice va2 (word.length + 1) vc2) rfl (by kernel_rfl) (by kernel_rfl) (by kernel_rfl) (fun _ _ _ h => h) (Or.inl ⟨by kernel_rfl, fun w' hw' => by obtain ⟨q0, q1⟩ := hw'; go_simp⟩) hS ?_
                    refine wpAnyH_done (by kernel_rfl) ?_ _
                    clear hS
                    have HW2 := Hid.of (HW.out.below BF.out)
                    have AQ4 := Hid.of (AQ2.out.below BF.out HW.out.bel.size)
                    clear BF SA
                    have bV : Below Y21.heap.size Y21 (Y21.alloc (.cells #[.slice va q2.length vc] 143)) := (Below.refl _ _).alloc (Nat.le_refl _) _
                    have HW3 := Hid.of (HW2.out.below bV)
                    have AQ5 := Hid.of (AQ4.out.below bV HW2.out.bel.size)
                    have I3 := Hid.of (I2.out.below bV HW2.out.bel.size)
                    obtain ⟨vs, ho, hin⟩ := HW3.out.oq
                    have HO := Hid.of ho
                    have HIN := Hid.of hin
                    rw [HR.out.len] at ho
                    have HO1 := Hid.of ho
                    clear ho hin bV
                    have hB3 := HW3.out.bel.size
                    go_wp2_with (at_builtin; refine wpList_append_block _ rfl (.tmp 85) (.tmp 87) 145 rfl w.heap.size 143 i0 (.slice none 0 0) 1 24 Tryd.underlying145 hi hz0 hz1 hz2 rfl (by decide) _ _ _ rfl HO1.out ⟨Y21.heap.size, 0, none⟩ 1 1 [.slice va q2.length vc] rfl rfl (cells_oneQ Y21 _ rfl _ _) (by intro u hu; rw [List.mem_singleton.1 hu]; rfl) (by decide) (by unfold maxLen; omega) (by omega) hB3 ?_)
                    intro v7 w7 o7 g7 n7
                    rw [← HR.out.len] at o7
                    have HW4 := Hid.of (LQ.pushQ HW3.out HO.out HIN.out AQ5.out o7 g7)
                    have I4 := Hid.of (I3.out.kep (kepT_grown (n := w.heap.size) HO.out g7 (Nat.le_refl _) HW3.out.bel.size) (by decide))
                    clear o7 g7 n7 HO HO1 HIN HW3 AQ5 I3 hB3 HW2 AQ4 I2
                    obtain ⟨fa7, fc7, hf7⟩ := HW4.out.oq.form
                    rw [List.length_append, HR.out.len, List.length_cons, List.length_nil, Nat.zero_add] at hf7
                    subst hf7
                    have bV : Below w7.heap.size w7 (w7.alloc (.cells #[.slice va2 (word.length + 1) vc2] 22)) := (Below.refl _ _).alloc (Nat.le_refl _) _
                    have HW5 := Hid.of (HW4.out.below bV)
                    have I5 := Hid.of (I4.out.below bV HW4.out.bel.size)
                    obtain ⟨vs2, ho2, hin2⟩ := HW5.out.ow
                    have HO2 := Hid.of ho2
                    have HIN2 := Hid.of hin2
                    rw [wl_len] at ho2
                    have HO3 := Hid.of ho2
                    clear ho2 hin2 bV
                    have hB5 := HW5.out.bel.size
                    go_wp2_with (at_builtin; refine wpList_append_block _ rfl (.tmp 89) (.tmp 91) 69 rfl w.heap.size 22 r0 (.slice none 0 0) 1 24 Tryd.underlying69 ri rz0 rz1 rz2 rfl (by decide) _ _ _ rfl HO3.out ⟨w7.heap.size, 0, none⟩ 1 1 [.slice va2 (word.length + 1) vc2] rfl rfl (cells_oneQ w7 _ rfl _ _) (by intro u hu; rw [List.mem_singleton.1 hu]; rfl) (by decide) (by unfold maxLen; omega) (by omega) hB5 ?_)
                    intro v8 w8 o8 g8 n8
                    rw [← wl_len seen] at o8
                    have HW6 := Hid.of (LQ.pushW HW5.out HO2.out HIN2.out I5.out o8 g8)
                    have HWE : Hid (wl seen (l1 ++ [(to, x.2 ++ [(e : Int)])]) = wl seen l1 ++ [word ++ [y]]) := by show _ = _; rw [wl_snoc, HWN.out]
                    have HR6 : Hid (RepQ ⟨st, ev, starts, ars, ends⟩ ⟨st2, ev2, starts2, ars2, ends2⟩ (QL1 ++ [q2]) (l1 ++ [(to, x.2 ++ [(e : Int)])])) := HR.out.snoc HQ2I.out HT.out
                    clear o8 g8 n8 HO2 HO3 HIN2 HW5 I5 hB5 HW4 I4
                    go_wp2_with fail
                    go_roundw
                    case rel => exact ⟨e + 1, QL1 ++ [q2], by go_num, by omega, by rw [HNX.out, HWE.out]; exact HW6, by rw [HNX.out]; exact HR6⟩
                    case measure => simp [intOf]; omega
          · have hleD : decide ((e : Int) < (seen.length : Int)) = false := by simp; omega
            have he2 : e = seen.length := by omega
            have HLN : Hid (LK ⟨st, ev, starts, ars, ends⟩ ⟨st2, ev2, starts2, ars2, ends2⟩ seen (k + 1) l1) := by
              have := HL.out.next HX.out (by omega)
              rw [HS1.out, he2]; exact this
            clear he2
            go_wp2_with fail
            go_roundw
            case rel => exact ⟨k + 1, l1, QL1, by go_num, by omega, hl1, HW, HR, HLN⟩
            case measure => simp [intOf]; omega
    · have hltD : decide ((k : Int) < (l.length : Int)) = false := by simp; omega
      have HFN : Hid (fndQ ⟨st, ev, starts, ars, ends⟩ ⟨st2, ev2, starts2, ars2, ends2⟩ seen = some l) := HL.out.fin hlt
      go_wp2_with fail
      go_loopw [18] (fun i wr' => ∃ (j : Nat), i = .int .i64 j ∧ j ≤ l.length ∧ Hid (LQ w wr' ⟨st, ev, starts, ars, ends⟩ ⟨st2, ev2, starts2, ars2, ends2⟩ ⟨a1, c1, a2, c2, a3, c3⟩ ⟨d1, e1, d2, e2, d3, e3⟩ (.slice qqa l.length qqc) (.slice wwa l.length wwc) QL (wl seen l)) ∧ Hid (∀ (i : Nat) (y : List Pla × List Int), i < j → l[i]? = some y → leakQ ⟨st, ev, starts, ars, ends⟩ ⟨st2, ev2, starts2, ars2, ends2⟩ y.1 = false)) (fun i _ => l.length - (intOf i).toNat)
      case atStart => exact ⟨0, rfl, Nat.zero_le _, HW, fun i y h => absurd h (Nat.not_lt_zero _)⟩
      case round =>
        clear HW
        obtain ⟨j, rfl, hj, HW, HNO⟩ := hrel
        by_cases hjl : j < l.length
        · have hjD : decide ((j : Int) < (l.length : Int)) = true := by simp; omega
          obtain ⟨x, HX⟩ : ∃ x, Hid (l[j]? = some x) := ⟨_, List.getElem?_eq_getElem hjl⟩
          obtain ⟨q, hq, hqi, hqx⟩ := HR.out.at HX.out
          have HLK : Hid (leakQ ⟨st, ev, starts, ars, ends⟩ ⟨st2, ev2, starts2, ars2, ends2⟩ x.1 = (secQ ⟨st, ev, starts, ars, ends⟩ ⟨st2, ev2, starts2, ars2, ends2⟩ q && !opnQ ⟨st, ev, starts, ars, ends⟩ ⟨st2, ev2, starts2, ars2, ends2⟩ q)) := by show _ = _; rw [hqx, leak_can _ _ hqi.2]; rfl
          have HQS : Hid (∀ y ∈ q, y.2.length ≤ 4096) := fun y hy => allQ_row (hqi.2 y hy)
          have hq96 : q.length ≤ 96 := HSM.out q hqi
          obtain ⟨g, cap, qa, qc, hve, hg, cq, aq⟩ := HW.out.oq.get hq
          rw [HR.out.len] at hve
          cases hve
          obtain ⟨gw, capw, za, zc, hvw, hgw, cz, iz⟩ := HW.out.ow.get (wl_at HX.out)
          rw [wl_len] at hvw
          cases hvw
          have AQ := Hid.of aq
          have HG := Hid.of hg
          have HGW := Hid.of hgw
          have CZ := Hid.of cz
          have IZ := Hid.of iz
          clear hq hqi hqx aq hg hgw cz iz
          have SA : Hid (∀ W, Blk W w.heap.size 25 (mcells ⟨st, ev, starts, ars, ends⟩ ⟨a1, c1, a2, c2, a3, c3⟩) → Blk W (w.heap.size + 1) 25 (mcells ⟨st2, ev2, starts2, ars2, ends2⟩ ⟨d1, e1, d2, e2, d3, e3⟩) → W.cell? ⟨g, j, none⟩ = some (.slice qa q.length qc) → W.cell? ⟨w.heap.size, 0, none⟩ = some (.int .i64 st) ∧ W.cell? ⟨w.heap.size, 1, none⟩ = some (.int .i64 ev) ∧ W.cell? ⟨w.heap.size, 2, none⟩ = some (.slice a1 starts.length c1) ∧ W.cell? ⟨w.heap.size, 3, none⟩ = some (.slice a2 ars.length c2) ∧ W.cell? ⟨w.heap.size, 4, none⟩ = some (.slice a3 ends.length c3) ∧ W.cell? ⟨w.heap.size + 1, 0, none⟩ = some (.int .i64 st2) ∧ W.cell? ⟨w.heap.size + 1, 1, none⟩ = some (.int .i64 ev2) ∧ W.cell? ⟨w.heap.size + 1, 2, none⟩ = some (.slice d1 starts2.length e1) ∧ W.cell? ⟨w.heap.size + 1, 3, none⟩ = some (.slice d2 ars2.length e2) ∧ W.cell? ⟨w.heap.size + 1, 4, none⟩ = some (.slice d3 ends2.length e3) ∧ W.cell? ⟨g, j, none⟩ = some (.slice qa q.length qc)) := fun W h1 h2 h3 => by
            obtain ⟨x0, x1, x2, x3, x4⟩ := mcell_at h1
            obtain ⟨y0, y1, y2, y3, y4⟩ := mcell_at h2
            exact ⟨x0, x1, x2, x3, x4, y0, y1, y2, y3, y4, h3⟩
          go_wp2_with fail
          have bd : Below wr.heap.size wr wr.drew := (Below.refl _ _).drew
          have hn := HW.out.bel.size
          replace AQ := Hid.of (AQ.out.below bd hn)
          replace IZ := Hid.of (IZ.out.below bd hn)
          replace HW := Hid.of (HW.out.below bd)
          replace cq : wr.drew.cell? ⟨g, j, none⟩ = some (.slice qa q.length qc) := cq
          replace CZ : Hid (wr.drew.cell? ⟨gw, j, none⟩ = some (.slice za (wordS seen x.2).length zc)) := CZ.out
          replace HG : Hid (g < wr.drew.heap.size) := HG.out
          replace HGW : Hid (gw < wr.drew.heap.size) := HGW.out
          refine wp_region_held_drew (S := fun w' => w'.cell? ⟨w.heap.size, 0, none⟩ = some (.int .i64 st) ∧ w'.cell? ⟨w.heap.size, 1, none⟩ = some (.int .i64 ev) ∧ w'.cell? ⟨w.heap.size, 2, none⟩ = some (.slice a1 starts.length c1) ∧ w'.cell? ⟨w.heap.size, 3, none⟩ = some (.slice a2 ars.length c2) ∧ w'.cell? ⟨w.heap.size, 4, none⟩ = some (.slice a3 ends.length c3) ∧ w'.cell? ⟨w.heap.size + 1, 0, none⟩ = some (.int .i64 st2) ∧ w'.cell? ⟨w.heap.size + 1, 1, none⟩ = some (.int .i64 ev2) ∧ w'.cell? ⟨w.heap.size + 1, 2, none⟩ = some (.slice d1 starts2.length e1) ∧ w'.cell? ⟨w.heap.size + 1, 3, none⟩ = some (.slice d2 ars2.length e2) ∧ w'.cell? ⟨w.heap.size + 1, 4, none⟩ = some (.slice d3 ends2.length e3) ∧ w'.cell? ⟨g, j, none⟩ = some (.slice qa q.length qc)) (by kernel_rfl) (SA.out _ HW.out.km HW.out.ks cq) (fun hS => ?_)
          clear bd hn
          revert AQ IZ HW cq CZ HG HGW hS
          generalize wr.drew = Y
          intro AQ IZ HW cq CZ HG HGW hS
          refine wpAnyH_take (i := 0) (v := .agg #[.int .i64 st, .int .i64 ev, .slice a1 starts.length c1, .slice a2 ars.length c2, .slice a3 ends.length c3]) rfl (by kernel_rfl) (by kernel_rfl) (by kernel_rfl) (fun _ _ _ h => h) (Or.inl ⟨by kernel_rfl, fun w' hw' => by obtain ⟨q0, q1, q2, q3, q4, q5, q6, q7, q8, q9, q10⟩ := hw'; go_simp⟩) hS ?_
          refine wpAnyH_take (i := 1) (v := .agg #[.int .i64 st2, .int .i64 ev2, .slice d1 starts2.length e1, .slice d2 ars2.length e2, .slice d3 ends2.length e3]) rfl (by kernel_rfl) (by kernel_rfl) (by kernel_rfl) (fun _ _ _ h => h) (Or.inl ⟨by kernel_rfl, fun w' hw' => by obtain ⟨q0, q1, q2, q3, q4, q5, q6, q7, q8, q9, q10⟩ := hw'; go_simp⟩) hS ?_
          refine wpAnyH_take (i := 2) (v := .slice (some ⟨g, 0, none⟩) l.length qqc) rfl (by kernel_rfl) (by kernel_rfl) (by kernel_rfl) (fun _ _ _ h => h) (Or.inl ⟨by kernel_rfl, fun w' hw' => by obtain ⟨q0, q1, q2, q3, q4, q5, q6, q7, q8, q9, q10⟩ := hw'; go_simp⟩) hS ?_
          refine wpAnyH_take (i := 3) (v := .int .i64 j) rfl (by kernel_rfl) (by kernel_rfl) (by kernel_rfl) (fun _ _ _ h => h) (Or.inl ⟨by kernel_rfl, fun w' hw' => by obtain ⟨q0, q1, q2, q3, q4, q5, q6, q7, q8, q9, q10⟩ := hw'; go_simp⟩) hS ?_
          refine wpAnyH_take (i := 4) (v := .pointer (some ⟨g, j, none⟩)) rfl (by kernel_rfl) (by kernel_rfl) (by kernel_rfl) (fun _ _ _ h => h) (Or.inl ⟨by kernel_rfl, fun w' hw' => by obtain ⟨q0, q1, q2, q3, q4, q5, q6, q7, q8, q9, q10⟩ := hw'; go_simp⟩) hS ?_
          refine wpAnyH_take (i := 5) (v := .slice qa q.length qc) rfl (by kernel_rfl) (by kernel_rfl) (by kernel_rfl) (fun _ _ _ h => h) (Or.inl ⟨by kernel_rfl, fun w' hw' => by obtain ⟨q0, q1, q2, q3, q4, q5, q6, q7, q8, q9, q10⟩ := hw'; go_simp⟩) hS ?_
          simp only [Act.put, List.setIfInBounds_toArray]
          refine wpAnyH_ready (rs := [6]) (by kernel_rfl) (by simp) ?_
          refine AllReadyH.cons rfl (fun K' hK' => ?_) AllReadyH.nil
          clear hS
          go_simp
          refine (rqjudge_any ⟨st, ev, starts, ars, ends⟩ ⟨st2, ev2, starts2, ars2, ends2⟩ ⟨a1, c1, a2, c2, a3, c3⟩ ⟨d1, e1, d2, e2, d3, e3⟩ w.heap.size qa qc q Y (hma.out.below HW.out.bel (Nat.le_refl _)) (hms.out.below HW.out.bel (Nat.le_refl _)) HW.out.bel.size AQ.out (by omega) HQS.out).mono ?_
          rintro e' Y1 ⟨rfl, hb⟩
          obtain ⟨bs, HBS⟩ : ∃ b, Hid (b = secQ ⟨st, ev, starts, ars, ends⟩ ⟨st2, ev2, starts2, ars2, ends2⟩ q) := ⟨_, rfl⟩
          obtain ⟨bo, HBO⟩ : ∃ b, Hid (b = opnQ ⟨st, ev, starts, ars, ends⟩ ⟨st2, ev2, starts2, ars2, ends2⟩ q) := ⟨_, rfl⟩
          rw [← HBS.out, ← HBO.out] at HLK
          rw [← HBS.out, ← HBO.out]
          have hn := HW.out.bel.size
          replace IZ := Hid.of (IZ.out.below hb hn)
          replace HW := Hid.of (HW.out.below hb)
          replace cq := (hb.cell (p := ⟨g, j, none⟩) HG.out).trans cq
          replace CZ := Hid.of ((hb.cell (p := ⟨gw, j, none⟩) HGW.out).trans CZ.out)
          refine hK'.out _ _ (SA.out _ HW.out.km HW.out.ks cq) (fun hS => ?_)
          clear hK' K' hb SA AQ cq HG HGW hn
          refine wpAnyH_take (i := 7) (v := .tuple #[.bool bs, .bool bo]) rfl (by kernel_rfl) (by kernel_rfl) (by kernel_rfl) (fun _ _ _ h => h) (Or.inl ⟨by kernel_rfl, fun w' hw' => by obtain ⟨q0, q1, q2, q3, q4, q5, q6, q7, q8, q9, q10⟩ := hw'; go_simp⟩) hS ?_
          refine wpAnyH_take (i := 8) (v := .bool bs) rfl (by kernel_rfl) (by kernel_rfl) (by kernel_rfl) (fun _ _ _ h => h) (Or.inl ⟨by kernel_rfl, fun w' hw' => by obtain ⟨q0, q1, q2, q3, q4, q5, q6, q7, q8, q9, q10⟩ := hw'; go_simp⟩) hS ?_
          refine wpAnyH_take (i := 9) (v := .bool bo) rfl (by kernel_rfl) (by kernel_rfl) (by kernel_rfl) (fun _ _ _ h => h) (Or.inl ⟨by kernel_rfl, fun w' hw' => by obtain ⟨q0, q1, q2, q3, q4, q5, q6, q7, q8, q9, q10⟩ := hw'; go_simp⟩) hS ?_
          refine wpAnyH_take (i := 10) (v := .bool bs) rfl (by kernel_rfl) (by kernel_rfl) (by kernel_rfl) (fun _ _ _ h => h) (Or.inl ⟨by kernel_rfl, fun w' hw' => by obtain ⟨q0, q1, q2, q3, q4, q5, q6, q7, q8, q9, q10⟩ := hw'; go_simp⟩) hS ?_
          refine wpAnyH_take (i := 11) (v := .bool bo) rfl (by kernel_rfl) (by kernel_rfl) (by kernel_rfl) (fun _ _ _ h => h) (Or.inl ⟨by kernel_rfl, fun w' hw' => by obtain ⟨q0, q1, q2, q3, q4, q5, q6, q7, q8, q9, q10⟩ := hw'; go_simp⟩) hS ?_
          refine wpAnyH_done (by kernel_rfl) ?_ _
          clear hS
          have NEXT : Hid ((bs && !bo) = false → ∀ (i : Nat) (y : List Pla × List Int), i < j + 1 → l[i]? = some y → leakQ ⟨st, ev, starts, ars, ends⟩ ⟨st2, ev2, starts2, ars2, ends2⟩ y.1 = false) := fun hf i y hi hy => by
            by_cases e : i < j
            · exact HNO.out i y e hy
            · have : i = j := by omega
              subst this
              rw [HX.out] at hy
              have := Option.some.inj hy
              subst this
              rw [HLK.out]; exact hf
          cases bs with
          | false =>
            have NX := Hid.of (NEXT.out rfl)
            go_wp2_with fail
            go_roundw
            case rel => exact ⟨j + 1, by go_num, by omega, HW, NX⟩
            case measure => simp [intOf]; omega
          | true =>
            cases bo with
            | true =>
              have NX := Hid.of (NEXT.out rfl)
              go_wp2_with fail
              go_roundw
              case rel => exact ⟨j + 1, by go_num, by omega, HW, NX⟩
              case measure => simp [intOf]; omega
            | false =>
              have HO : Hid (leakR (outQ ⟨st, ev, starts, ars, ends⟩ ⟨st2, ev2, starts2, ars2, ends2⟩ seen) = (true, wordS seen x.2, true)) := by show _ = _; rw [out_found HFN.out HX.out HNO.out (by rw [HLK.out]; rfl)]; rfl
              obtain ⟨word, HWD⟩ : ∃ word, Hid (word = wordS seen x.2) := ⟨_, rfl⟩
              rw [← HWD.out] at HO CZ IZ
              have cz := CZ.out
              go_wp2_with fail
              go_quiet (fail)
              clear cz
              have IZ2 : Hid (InnW w.heap.size (Y1.drewN nq) (.slice za word.length zc) word) := IZ.out.below (below_drewN (Below.refl _ _) nq) HW.out.bel.size
              have B9 : Hid (Below w.heap.size w (Y1.drewN nq)) := below_drewN HW.out.bel nq
              obtain ⟨za', zc', hze, zat, zln, -⟩ := IZ2.out.at
              cases hze
              have ZA := Hid.of zat
              have ZL := Hid.of zln
              clear zat zln
              go_wp2_with fail
              refine bodyPost_ret (v := .tuple #[.bool true, .slice za word.length zc, .bool true]) (by simp [results, go_sem]) rfl ?_
              rw [HO.out]
              exact ⟨za, zc, rfl, ZA.out, ZL.out, B9.out⟩
        · have hjD : decide ((j : Int) < (l.length : Int)) = false := by simp; omega
          have hj2 : j = l.length := by omega
          have HO : Hid (leakR (outQ ⟨st, ev, starts, ars, ends⟩ ⟨st2, ev2, starts2, ars2, ends2⟩ seen) = (false, [], true)) := by show _ = _; rw [out_nothing HFN.out (fun i y hi hy => HNO.out i y (by omega) hy)]; rfl
          clear hj2
          go_wp2_with fail
          refine bodyPost_ret (v := .tuple #[.bool false, .slice none 0 0, .bool true]) (by simp [results, go_sem]) rfl ?_
          rw [HO.out]
          exact ⟨none, 0, rfl, .inl rfl, Nat.zero_le _, HW.out.bel⟩

theorem rqleak_any (m s : Mach) (lm ls : ML) (sa : Option Addr) (sc : Nat) (seen : List Int) (w : World) (hma : MAt w m lm) (hms : MAt w s ls) (hse : At w sa seen) (hsl : seen.length ≤ 8) (mm : mayB m = true) (ms : mayB s = true) (zm : m.st ≤ 6) (zs : s.st ≤ 4) :
    Calls Tryd.prog 46 #[mval m lm, mval s ls, .slice sa seen.length sc] w fun e w' => LeakQPost w (leakR (outQ m s seen)) e w' := by
  obtain ⟨st, ev, starts, ars, ends⟩ := m
  obtain ⟨st2, ev2, starts2, ars2, ends2⟩ := s
  obtain ⟨a1, c1, a2, c2, a3, c3⟩ := lm
  obtain ⟨d1, e1, d2, e2, d3, e3⟩ := ls
  exact rqleak_go st ev starts ars ends a1 c1 a2 c2 a3 c3 st2 ev2 starts2 ars2 ends2 d1 e1 d2 e2 d3 e3 sa sc seen w (Hid.of hma) (Hid.of hms) (Hid.of hse) hsl (Hid.of mm) (Hid.of ms) (Hid.of zm) (Hid.of zs)

end Go.Proofs.YtmlkpdeidpcidaaDoor
