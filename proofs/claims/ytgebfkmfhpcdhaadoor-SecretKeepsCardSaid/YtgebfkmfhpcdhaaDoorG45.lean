/-
  How long a list of integers that comes in may be: what the reach of a call says.
  The walk of the law SecretKeeps.
-/
import Derived.SizedLaws
import Derived.Test.YtgebfkmfhpcdhaaDoorG05
import Derived.Test.YtgebfkmfhpcdhaaDoorCPSec
import Derived.Test.YtgebfkmfhpcdhaaDoorCRefMay
import Derived.Test.YtgebfkmfhpcdhaaDoorG23
import Derived.Test.YtgebfkmfhpcdhaaDoorG31
namespace Go.Proofs.YtgebfkmfhpcdhaaDoor
open Go.ChangeShapes Go.WideShapes Go.ChangeAt Go.RowKit Go.Deep
set_option linter.unusedVariables false
set_option maxRecDepth 100000

theorem bytesInt : Tryd.prog.bytesOf 3 = 8 := by kernel_rfl
theorem len_sized1 {H : Type} {enc : TypeId × Value → H} {W : World} {ts : List TypeId} {ds : List (DataW H)} {j len c : Nat} {a : Option Addr} {d : DataW H} {p : List MemPlace} (hz : (DataW.weightsEach Tryd.prog ts ds).all (· ≤ reachBytes) = true) (ht : ts[j]? = some 22) (hd : ds[j]? = some d) (h : DataW.Trod enc Tryd.prog W 0 (fun _ => true) true 22 (.slice a len c) d p) : len ≤ 17592186044415 := by
  obtain ⟨fuel, hf⟩ := h
  have hf : DataW.trod enc Tryd.prog W 0 (fun _ => true) true fuel 22 [.slice a len c] = some (d, p) := by simpa [Value.cells] using hf
  rcases open_ints Tryd.underlying22 Tryd.underlying3 (by kernel_rfl) hf with ⟨e, _⟩ | ⟨a', len', cap', zs, e, _, hl, hm, hzs, hx, hc, _⟩
  · simp only [List.cons.injEq, and_true, Value.slice.injEq] at e
    omega
  · simp only [List.cons.injEq, and_true, Value.slice.injEq] at e
    obtain ⟨-, rfl, -⟩ := e
    simp only [if_true] at hzs
    have hdx : d = .slice (lits .i64 (zs.take len)) (lits .i64 (zs.drop len)) := congrArg Prod.fst hx
    rw [hdx] at hd
    have h1 := sized_slice hz ht hd Tryd.underlying22
    rw [bytesInt] at h1
    have h2 := reachBytes_lt
    simp only [lits, List.length_map, List.length_take] at h1
    omega
theorem len_sized {H : Type} {enc : TypeId × Value → H} {W : World} {ts : List TypeId} {ds : List (DataW H)} {j len c : Nat} {a : Option Addr} {d : DataW H} {p : List MemPlace} (hz : (DataW.weightsEach Tryd.prog ts ds).all (· ≤ reachBytes) = true) (ht : ts[j]? = some 22) (hd : ds[j]? = some d) (h : DataW.Trod enc Tryd.prog W 0 (fun _ => true) true 22 (.slice a len c) d p) : len ≤ 17592186044416 := Nat.le_trans (len_sized1 hz ht hd h) (by decide)

end Go.Proofs.YtgebfkmfhpcdhaaDoor
namespace Go.Proofs.YtgebfkmfhpcdhaaDoor
open Go.RowKit
set_option linter.unusedVariables false

set_option maxRecDepth 100000 in
set_option maxHeartbeats 8000000 in
theorem seck_any (m s : Mach) (lm ls : ML) (sa : Option Addr) (sc : Nat) (seen : List Int) (wa : Option Addr) (wc : Nat) (word : List Int) (w : World) (hT : Hid (Tab w)) (h : Hid (MAt w m lm)) (h' : Hid (MAt w s ls)) (hse : Hid (At w sa seen)) (hsl : Hid (seen.length ≤ maxLen)) (hw : Hid (At w wa word)) (hwl : Hid (word.length ≤ 17592186044416)) :
    Calls Tryd.prog 9 #[mval m lm, mval s ls, .slice sa seen.length sc, .slice wa word.length wc] w fun e w' => e = .returned (.bool true) ∧ Below w.heap.size w w' := by
  have B : Hid (Below w.heap.size w ((w.alloc (.cells (mcells m lm) 25)).alloc (.cells (mcells s ls) 25))) := ((Below.refl _ _).alloc (Nat.le_refl _) _).alloc (by simp) _
  have KA : Hid (Blk ((w.alloc (.cells (mcells m lm) 25)).alloc (.cells (mcells s ls) 25)) w.heap.size 25 (mcells m lm)) := (Blk.new w _ _).alloc _
  have KB : Hid (Blk ((w.alloc (.cells (mcells m lm) 25)).alloc (.cells (mcells s ls) 25)) (w.heap.size + 1) 25 (mcells s ls)) := by
    have := Blk.new (w.alloc (.cells (mcells m lm) 25)) 25 (mcells s ls)
    rwa [World.size_alloc] at this
  go_enter Tryd.func9, Tryd.ntmps9
  obtain ⟨x0, x1, x2, x3, x4⟩ := mcell_at KA.out
  obtain ⟨y0, y1, y2, y3, y4⟩ := mcell_at KB.out
  go_wp2_with fail
  clear x0 x1 x2 x3 x4 y0 y1 y2 y3 y4
  revert B KA KB
  generalize ((w.alloc (.cells (mcells m lm) 25)).alloc (.cells (mcells s ls) 25)) = V0
  intro B KA KB
  refine (refMay_any m lm _ (h.out.below B.out (Nat.le_refl _))).mono ?_
  rintro e W1 ⟨rfl, hb⟩
  replace B := Hid.of (B.out.trans (hb.mono B.out.size))
  replace KA := Hid.of (KA.out.below hb KA.out.lt)
  replace KB := Hid.of (KB.out.below hb KB.out.lt)
  clear hb
  cases hm : mayB m with
  | false =>
    go_wp2_with fail
    go_ret
    exact ⟨rfl, B.out⟩
  | true =>
    have HM := Hid.of hm
    clear hm
    obtain ⟨x0, x1, x2, x3, x4⟩ := mcell_at KA.out
    obtain ⟨y0, y1, y2, y3, y4⟩ := mcell_at KB.out
    go_wp2_with fail
    clear x0 x1 x2 x3 x4 y0 y1 y2 y3 y4
    refine (refMay_any s ls _ (h'.out.below B.out (Nat.le_refl _))).mono ?_
    rintro e W2 ⟨rfl, hb⟩
    replace B := Hid.of (B.out.trans (hb.mono B.out.size))
    replace KA := Hid.of (KA.out.below hb KA.out.lt)
    replace KB := Hid.of (KB.out.below hb KB.out.lt)
    clear hb
    cases hs : mayB s with
    | false =>
      go_wp2_with fail
      go_ret
      exact ⟨rfl, B.out⟩
    | true =>
      have HS := Hid.of hs
      clear hs
      by_cases he : m.ev = s.ev
      · have d1 : (m.ev != s.ev) = false := by simp [he]
        have HE := Hid.of he
        clear he
        obtain ⟨x0, x1, x2, x3, x4⟩ := mcell_at KA.out
        obtain ⟨y0, y1, y2, y3, y4⟩ := mcell_at KB.out
        go_wp2_with fail
        clear x0 x1 x2 x3 x4 y0 y1 y2 y3 y4
        refine (refIs_any sa sc seen m.ev _ (hse.out.below B.out (Nat.le_refl _)) hsl.out).mono ?_
        rintro e W3 ⟨rfl, qd, hqd⟩
        have hb : Below W2.heap.size W2 W3 := by rw [hqd]; exact below_drewN (Below.refl _ _) qd
        clear hqd
        replace B := Hid.of (B.out.trans (hb.mono B.out.size))
        replace KA := Hid.of (KA.out.below hb KA.out.lt)
        replace KB := Hid.of (KB.out.below hb KB.out.lt)
        clear hb
        cases hr : rowB m.ev seen with
        | false =>
          go_wp2_with fail
          go_ret
          exact ⟨rfl, B.out⟩
        | true =>
          have HR := Hid.of hr
          clear hr
          have HIS : Hid (Inc seen) := by
            have hz := mayB_size HM.out
            unfold sizeOk at hz
            exact ((rowB_iff _ (by omega) _).1 HR.out).1
          by_cases z1 : m.st ≤ 6
          · have d2 : decide ((6 : Int) < m.st) = false := by simp; omega
            by_cases z2 : s.st ≤ 4
            · have d3 : decide ((4 : Int) < s.st) = false := by simp; omega
              have HZ := Hid.of (secErr_ok HM.out HS.out HE.out HR.out z1 z2)
              have Z1 := Hid.of z1
              have Z2 := Hid.of z2
              clear z1 z2
              obtain ⟨x0, x1, x2, x3, x4⟩ := mcell_at KA.out
              obtain ⟨y0, y1, y2, y3, y4⟩ := mcell_at KB.out
              go_wp2_with fail
              clear x0 x1 x2 x3 x4 y0 y1 y2 y3 y4
              refine (refSeen_any wa sa wc sc word seen _ (hw.out.below B.out (Nat.le_refl _)) hwl.out (hse.out.below B.out (Nat.le_refl _)) hsl.out).mono ?_
              rintro e W4 ⟨ta, tk, rfl, tat, tln, hb⟩
              replace B := Hid.of (B.out.trans (hb.mono B.out.size))
              replace KA := Hid.of (KA.out.below hb KA.out.lt)
              replace KB := Hid.of (KB.out.below hb KB.out.lt)
              clear hb
              obtain ⟨list, HLI⟩ : ∃ list, Hid (list = seenL seen word) := ⟨_, rfl⟩
              rw [← HLI.out] at tat tln
              rw [← HLI.out]
              have HIN : Hid (∀ e ∈ list, e ∈ seen) := fun e he => by
                rw [HLI.out] at he
                exact (hasB_iff _ _).1 (by simpa using (List.mem_filter.1 he).2)
              have tA := Hid.of tat
              have tL := Hid.of tln
              clear tat tln
              obtain ⟨x0, x1, x2, x3, x4⟩ := mcell_at KA.out
              obtain ⟨y0, y1, y2, y3, y4⟩ := mcell_at KB.out
              go_wp2_with fail
              clear x0 x1 x2 x3 x4 y0 y1 y2 y3 y4
              obtain ⟨lb, lw, lc, lH⟩ : ∃ b l c, Hid (secOut m s seen = (b, l, c)) := ⟨_, _, _, rfl⟩
              refine (pSec_any m s lm ls sa sc seen _ (h.out.below B.out (Nat.le_refl _)) (h'.out.below B.out (Nat.le_refl _)) (hse.out.below B.out (Nat.le_refl _)) hsl.out (hT.out.below B.out hT.out.lt)).mono ?_
              intro e W5 hp
              unfold LeakPost at hp
              rw [lH.out] at hp
              dsimp only at hp
              obtain ⟨la, lk, rfl, lat, lln, hb⟩ := hp
              replace B := Hid.of (B.out.trans (hb.mono B.out.size))
              replace KA := Hid.of (KA.out.below hb KA.out.lt)
              replace KB := Hid.of (KB.out.below hb KB.out.lt)
              replace tA := Hid.of (tA.out.below hb (Nat.le_refl _))
              clear hb
              have lA := Hid.of lat
              have lL := Hid.of lln
              clear lat lln
              cases ho : outQ m s seen with
              | none =>
                have q1 := lH.out
                rw [secOut_big HZ.out ho] at q1
                cases q1
                go_wp2_with fail
                go_ret
                exact ⟨rfl, B.out⟩
              | some o =>
                have q1 := lH.out
                rw [secOut_ok HZ.out ho] at q1
                obtain ⟨rfl, rfl, rfl⟩ : lb = o.isSome ∧ lw = o.getD [] ∧ lc = 0 := by cases q1; exact ⟨rfl, rfl, rfl⟩
                have HO := Hid.of ho
                clear q1 lH ho
                cases o with
                | none =>
                  dsimp only [Option.isSome, Option.getD] at lA lL ⊢
                  obtain ⟨x0, x1, x2, x3, x4⟩ := mcell_at KA.out
                  obtain ⟨y0, y1, y2, y3, y4⟩ := mcell_at KB.out
                  go_wp2_with fail
                  clear x0 x1 x2 x3 x4 y0 y1 y2 y3 y4
                  refine (rqafter_any m s lm ls sa sc seen ta tk list _ (h.out.below B.out (Nat.le_refl _)) (h'.out.below B.out (Nat.le_refl _)) (hse.out.below B.out (Nat.le_refl _)) hsl.out HM.out HS.out Z1.out Z2.out tA.out tL.out).mono ?_
                  rintro e W6 ⟨ga, gk, rfl, gq, hb⟩
                  have gz := Hid.of hb.size
                  replace B := Hid.of (B.out.trans (hb.mono B.out.size))
                  replace KA := Hid.of (KA.out.below hb KA.out.lt)
                  replace KB := Hid.of (KB.out.below hb KB.out.lt)
                  replace tA := Hid.of (tA.out.below hb (Nat.le_refl _))
                  replace lA := Hid.of (lA.out.below hb (Nat.le_refl _))
                  clear hb
                  have gN : Hid ((afterQ m s seen list).length ≤ 4096 ∧ ∀ x ∈ (afterQ m s seen list), x.2.length ≤ 4096) := by
                    obtain ⟨g1, g2⟩ := after_in HM.out HS.out Z1.out Z2.out seen list
                    exact ⟨Nat.le_trans (nodup_sub g1 g2) (Nat.le_trans (allQ_len Z1.out _) (by decide)), fun x hx => allQ_row (g2 x hx)⟩
                  obtain ⟨gL, gH⟩ : ∃ L, Hid (L = afterQ m s seen list) := ⟨_, rfl⟩
                  rw [← gH.out] at gq gN
                  rw [← gH.out]
                  obtain ⟨x0, x1, x2, x3, x4⟩ := mcell_at KA.out
                  obtain ⟨y0, y1, y2, y3, y4⟩ := mcell_at KB.out
                  go_wp2_with fail
                  clear x0 x1 x2 x3 x4 y0 y1 y2 y3 y4
                  refine (rqjudge_any m s lm ls _ ga gk gL _ (h.out.below B.out (Nat.le_refl _)) (h'.out.below B.out (Nat.le_refl _)) gz.out (gq) gN.out.1 gN.out.2).mono ?_
                  rintro e W7 ⟨rfl, hb⟩
                  replace B := Hid.of (B.out.trans (hb.mono B.out.size))
                  replace KA := Hid.of (KA.out.below hb KA.out.lt)
                  replace KB := Hid.of (KB.out.below hb KB.out.lt)
                  replace tA := Hid.of (tA.out.below hb (Nat.le_refl _))
                  replace lA := Hid.of (lA.out.below hb (Nat.le_refl _))
                  clear hb
                  obtain ⟨gs, gS⟩ : ∃ b, Hid (b = secQ m s gL) := ⟨_, rfl⟩
                  obtain ⟨go, gO⟩ : ∃ b, Hid (b = opnQ m s gL) := ⟨_, rfl⟩
                  rw [← gS.out, ← gO.out]
                  clear gq
                  have HGL : Hid (leakQ m s (afterQ m s seen list) = (gs && !go)) := by show _ = _; rw [← gH.out, gS.out, gO.out]; rfl
                  cases gs with
                  | false =>
                    go_wp2_with fail
                    go_ret
                    exact ⟨rfl, B.out⟩
                  | true =>
                    cases go with
                    | true =>
                      go_wp2_with fail
                      go_ret
                      exact ⟨rfl, B.out⟩
                    | false =>
                      exfalso
                      have := outQ_none HM.out HS.out Z1.out Z2.out HO.out HIN.out
                      rw [HGL.out] at this
                      cases this
                | some wo =>
                  obtain ⟨k1, k2, k3, k4⟩ := outQ_some HM.out HS.out Z1.out Z2.out HIS.out HO.out
                  have HLT := Hid.of k1
                  have HMIN := Hid.of k4
                  clear k1 k2 k3 k4
                  dsimp only [Option.isSome, Option.getD] at lA lL ⊢
                  obtain ⟨x0, x1, x2, x3, x4⟩ := mcell_at KA.out
                  obtain ⟨y0, y1, y2, y3, y4⟩ := mcell_at KB.out
                  go_wp2_with fail
                  clear x0 x1 x2 x3 x4 y0 y1 y2 y3 y4
                  refine (rqafter_any m s lm ls sa sc seen ta tk list _ (h.out.below B.out (Nat.le_refl _)) (h'.out.below B.out (Nat.le_refl _)) (hse.out.below B.out (Nat.le_refl _)) hsl.out HM.out HS.out Z1.out Z2.out tA.out tL.out).mono ?_
                  rintro e W6 ⟨ga, gk, rfl, gq, hb⟩
                  have gz := Hid.of hb.size
                  replace B := Hid.of (B.out.trans (hb.mono B.out.size))
                  replace KA := Hid.of (KA.out.below hb KA.out.lt)
                  replace KB := Hid.of (KB.out.below hb KB.out.lt)
                  replace tA := Hid.of (tA.out.below hb (Nat.le_refl _))
                  replace lA := Hid.of (lA.out.below hb (Nat.le_refl _))
                  clear hb
                  have gN : Hid ((afterQ m s seen list).length ≤ 4096 ∧ ∀ x ∈ (afterQ m s seen list), x.2.length ≤ 4096) := by
                    obtain ⟨g1, g2⟩ := after_in HM.out HS.out Z1.out Z2.out seen list
                    exact ⟨Nat.le_trans (nodup_sub g1 g2) (Nat.le_trans (allQ_len Z1.out _) (by decide)), fun x hx => allQ_row (g2 x hx)⟩
                  obtain ⟨gL, gH⟩ : ∃ L, Hid (L = afterQ m s seen list) := ⟨_, rfl⟩
                  rw [← gH.out] at gq gN
                  rw [← gH.out]
                  obtain ⟨x0, x1, x2, x3, x4⟩ := mcell_at KA.out
                  obtain ⟨y0, y1, y2, y3, y4⟩ := mcell_at KB.out
                  go_wp2_with fail
                  clear x0 x1 x2 x3 x4 y0 y1 y2 y3 y4
                  refine (rqjudge_any m s lm ls _ ga gk gL _ (h.out.below B.out (Nat.le_refl _)) (h'.out.below B.out (Nat.le_refl _)) gz.out (gq) gN.out.1 gN.out.2).mono ?_
                  rintro e W7 ⟨rfl, hb⟩
                  replace B := Hid.of (B.out.trans (hb.mono B.out.size))
                  replace KA := Hid.of (KA.out.below hb KA.out.lt)
                  replace KB := Hid.of (KB.out.below hb KB.out.lt)
                  replace tA := Hid.of (tA.out.below hb (Nat.le_refl _))
                  replace lA := Hid.of (lA.out.below hb (Nat.le_refl _))
                  clear hb
                  obtain ⟨gs, gS⟩ : ∃ b, Hid (b = secQ m s gL) := ⟨_, rfl⟩
                  obtain ⟨go, gO⟩ : ∃ b, Hid (b = opnQ m s gL) := ⟨_, rfl⟩
                  rw [← gS.out, ← gO.out]
                  clear gq
                  have HGL : Hid (leakQ m s (afterQ m s seen list) = (gs && !go)) := by show _ = _; rw [← gH.out, gS.out, gO.out]; rfl
                  cases gs with
                  | false =>
                    obtain ⟨x0, x1, x2, x3, x4⟩ := mcell_at KA.out
                    obtain ⟨y0, y1, y2, y3, y4⟩ := mcell_at KB.out
                    go_wp2_with fail
                    clear x0 x1 x2 x3 x4 y0 y1 y2 y3 y4
                    refine (rqafter_any m s lm ls sa sc seen la lk wo _ (h.out.below B.out (Nat.le_refl _)) (h'.out.below B.out (Nat.le_refl _)) (hse.out.below B.out (Nat.le_refl _)) hsl.out HM.out HS.out Z1.out Z2.out lA.out lL.out).mono ?_
                    rintro e W9 ⟨ka, kk, rfl, kq, hb⟩
                    have kz := Hid.of hb.size
                    replace B := Hid.of (B.out.trans (hb.mono B.out.size))
                    replace KA := Hid.of (KA.out.below hb KA.out.lt)
                    replace KB := Hid.of (KB.out.below hb KB.out.lt)
                    replace tA := Hid.of (tA.out.below hb (Nat.le_refl _))
                    replace lA := Hid.of (lA.out.below hb (Nat.le_refl _))
                    clear hb
                    have kN : Hid ((afterQ m s seen wo).length ≤ 4096 ∧ ∀ x ∈ (afterQ m s seen wo), x.2.length ≤ 4096) := by
                      obtain ⟨g1, g2⟩ := after_in HM.out HS.out Z1.out Z2.out seen wo
                      exact ⟨Nat.le_trans (nodup_sub g1 g2) (Nat.le_trans (allQ_len Z1.out _) (by decide)), fun x hx => allQ_row (g2 x hx)⟩
                    obtain ⟨kL, kH⟩ : ∃ L, Hid (L = afterQ m s seen wo) := ⟨_, rfl⟩
                    rw [← kH.out] at kq kN
                    rw [← kH.out]
                    obtain ⟨x0, x1, x2, x3, x4⟩ := mcell_at KA.out
                    obtain ⟨y0, y1, y2, y3, y4⟩ := mcell_at KB.out
                    go_wp2_with fail
                    clear x0 x1 x2 x3 x4 y0 y1 y2 y3 y4
                    refine (rqjudge_any m s lm ls _ ka kk kL _ (h.out.below B.out (Nat.le_refl _)) (h'.out.below B.out (Nat.le_refl _)) kz.out (kq) kN.out.1 kN.out.2).mono ?_
                    rintro e W10 ⟨rfl, hb⟩
                    replace B := Hid.of (B.out.trans (hb.mono B.out.size))
                    replace KA := Hid.of (KA.out.below hb KA.out.lt)
                    replace KB := Hid.of (KB.out.below hb KB.out.lt)
                    replace tA := Hid.of (tA.out.below hb (Nat.le_refl _))
                    replace lA := Hid.of (lA.out.below hb (Nat.le_refl _))
                    clear hb
                    obtain ⟨ks, kS⟩ : ∃ b, Hid (b = secQ m s kL) := ⟨_, rfl⟩
                    obtain ⟨ko, kO⟩ : ∃ b, Hid (b = opnQ m s kL) := ⟨_, rfl⟩
                    rw [← kS.out, ← kO.out]
                    clear kq
                    have HKL : Hid ((ks && !ko) = true) := by
                      have := HLT.out
                      rw [← kH.out] at this
                      rw [kS.out, kO.out]; exact this
                    obtain ⟨rfl, rfl⟩ : ks = true ∧ ko = false := by
                      have := HKL.out
                      cases ks <;> cases ko <;> simp_all
                    clear kS kO HKL
                    go_wp2_with fail
                    go_ret
                    exact ⟨rfl, B.out⟩
                  | true =>
                    cases go with
                    | true =>
                      obtain ⟨x0, x1, x2, x3, x4⟩ := mcell_at KA.out
                      obtain ⟨y0, y1, y2, y3, y4⟩ := mcell_at KB.out
                      go_wp2_with fail
                      clear x0 x1 x2 x3 x4 y0 y1 y2 y3 y4
                      refine (rqafter_any m s lm ls sa sc seen la lk wo _ (h.out.below B.out (Nat.le_refl _)) (h'.out.below B.out (Nat.le_refl _)) (hse.out.below B.out (Nat.le_refl _)) hsl.out HM.out HS.out Z1.out Z2.out lA.out lL.out).mono ?_
                      rintro e W9 ⟨ka, kk, rfl, kq, hb⟩
                      have kz := Hid.of hb.size
                      replace B := Hid.of (B.out.trans (hb.mono B.out.size))
                      replace KA := Hid.of (KA.out.below hb KA.out.lt)
                      replace KB := Hid.of (KB.out.below hb KB.out.lt)
                      replace tA := Hid.of (tA.out.below hb (Nat.le_refl _))
                      replace lA := Hid.of (lA.out.below hb (Nat.le_refl _))
                      clear hb
                      have kN : Hid ((afterQ m s seen wo).length ≤ 4096 ∧ ∀ x ∈ (afterQ m s seen wo), x.2.length ≤ 4096) := by
                        obtain ⟨g1, g2⟩ := after_in HM.out HS.out Z1.out Z2.out seen wo
                        exact ⟨Nat.le_trans (nodup_sub g1 g2) (Nat.le_trans (allQ_len Z1.out _) (by decide)), fun x hx => allQ_row (g2 x hx)⟩
                      obtain ⟨kL, kH⟩ : ∃ L, Hid (L = afterQ m s seen wo) := ⟨_, rfl⟩
                      rw [← kH.out] at kq kN
                      rw [← kH.out]
                      obtain ⟨x0, x1, x2, x3, x4⟩ := mcell_at KA.out
                      obtain ⟨y0, y1, y2, y3, y4⟩ := mcell_at KB.out
                      go_wp2_with fail
                      clear x0 x1 x2 x3 x4 y0 y1 y2 y3 y4
                      refine (rqjudge_any m s lm ls _ ka kk kL _ (h.out.below B.out (Nat.le_refl _)) (h'.out.below B.out (Nat.le_refl _)) kz.out (kq) kN.out.1 kN.out.2).mono ?_
                      rintro e W10 ⟨rfl, hb⟩
                      replace B := Hid.of (B.out.trans (hb.mono B.out.size))
                      replace KA := Hid.of (KA.out.below hb KA.out.lt)
                      replace KB := Hid.of (KB.out.below hb KB.out.lt)
                      replace tA := Hid.of (tA.out.below hb (Nat.le_refl _))
                      replace lA := Hid.of (lA.out.below hb (Nat.le_refl _))
                      clear hb
                      obtain ⟨ks, kS⟩ : ∃ b, Hid (b = secQ m s kL) := ⟨_, rfl⟩
                      obtain ⟨ko, kO⟩ : ∃ b, Hid (b = opnQ m s kL) := ⟨_, rfl⟩
                      rw [← kS.out, ← kO.out]
                      clear kq
                      have HKL : Hid ((ks && !ko) = true) := by
                        have := HLT.out
                        rw [← kH.out] at this
                        rw [kS.out, kO.out]; exact this
                      obtain ⟨rfl, rfl⟩ : ks = true ∧ ko = false := by
                        have := HKL.out
                        cases ks <;> cases ko <;> simp_all
                      clear kS kO HKL
                      go_wp2_with fail
                      go_ret
                      exact ⟨rfl, B.out⟩
                    | false =>
                      have HLS : Hid (lessB list wo = false) := HMIN.out list HIN.out (by rw [HGL.out]; rfl)
                      have KL := Hid.of (rless_any ta la tk lk list wo _ tA.out lA.out tL.out lL.out)
                      rw [HLS.out] at KL
                      go_wp2_with fail
                      refine KL.out.mono ?_
                      rintro e W8 ⟨rfl, qd, hqd⟩
                      have hb : Below W7.heap.size W7 W8 := by rw [hqd]; exact below_drewN (Below.refl _ _) qd
                      clear KL hqd
                      replace B := Hid.of (B.out.trans (hb.mono B.out.size))
                      replace KA := Hid.of (KA.out.below hb KA.out.lt)
                      replace KB := Hid.of (KB.out.below hb KB.out.lt)
                      replace tA := Hid.of (tA.out.below hb (Nat.le_refl _))
                      replace lA := Hid.of (lA.out.below hb (Nat.le_refl _))
                      clear hb
                      go_wp2_with fail
                      go_ret
                      exact ⟨rfl, B.out⟩
            · have d3 : decide ((4 : Int) < s.st) = true := by simp; omega
              clear z2
              obtain ⟨x0, x1, x2, x3, x4⟩ := mcell_at KA.out
              obtain ⟨y0, y1, y2, y3, y4⟩ := mcell_at KB.out
              go_wp2_with fail
              clear x0 x1 x2 x3 x4 y0 y1 y2 y3 y4
              go_ret
              exact ⟨rfl, B.out⟩
          · have d2 : decide ((6 : Int) < m.st) = true := by simp; omega
            clear z1
            obtain ⟨x0, x1, x2, x3, x4⟩ := mcell_at KA.out
            obtain ⟨y0, y1, y2, y3, y4⟩ := mcell_at KB.out
            go_wp2_with fail
            clear x0 x1 x2 x3 x4 y0 y1 y2 y3 y4
            go_ret
            exact ⟨rfl, B.out⟩
      · have d1 : (m.ev != s.ev) = true := by simp [he]
        clear he
        obtain ⟨x0, x1, x2, x3, x4⟩ := mcell_at KA.out
        obtain ⟨y0, y1, y2, y3, y4⟩ := mcell_at KB.out
        go_wp2_with fail
        clear x0 x1 x2 x3 x4 y0 y1 y2 y3 y4
        go_ret
        exact ⟨rfl, B.out⟩

end Go.Proofs.YtgebfkmfhpcdhaaDoor
