/-
  The walk of the law ControlMost.
  How long a list of integers that comes in may be: what the reach of a call says.
-/
import Derived.Test.YtkodmnooibpflaaDoorCPCtl
import Derived.Test.YtkodmnooibpflaaDoorG18
import Derived.Test.YtkodmnooibpflaaDoorCRefMay
import Derived.Test.YtkodmnooibpflaaDoorG04
import Derived.Test.YtkodmnooibpflaaDoorG09
import Derived.Test.YtkodmnooibpflaaDoorG14
import Derived.Test.YtkodmnooibpflaaDoorG11
import Derived.Test.YtkodmnooibpflaaDoorG15
import Derived.SizedLaws
namespace Go.Proofs.YtkodmnooibpflaaDoor
open Go.RowKit
set_option linter.unusedVariables false

set_option maxRecDepth 100000 in
set_option maxHeartbeats 8000000 in
theorem ctlh_any (m : Mach) (l : ML) (fa : Option Addr) (fc : Nat) (free : List Int) (ba : Option Addr) (bc : Nat) (bad : List Int) (oa : Option Addr) (oc : Nat) (other : List Int) (w : World) (hT : Hid (Tab w)) (h : Hid (MAt w m l)) (hF : Hid (At w fa free)) (hFl : Hid (free.length ≤ maxLen)) (hB : Hid (At w ba bad)) (hBl : Hid (bad.length ≤ maxLen)) (hO : Hid (At w oa other)) (hOl : Hid (other.length ≤ 17592186044416)) :
    Calls Tryd.prog 8 #[mval m l, .slice fa free.length fc, .slice ba bad.length bc, .slice oa other.length oc] w fun e w' => e = .returned (.bool true) ∧ Below w.heap.size w w' := by
  have B : Hid (Below w.heap.size w (w.alloc (.cells (mcells m l) 25))) := (Below.refl _ _).alloc (Nat.le_refl _) _
  have KM : Hid (Blk (w.alloc (.cells (mcells m l) 25)) w.heap.size 25 (mcells m l)) := Blk.new w _ _
  go_enter Tryd.func8, Tryd.ntmps8
  obtain ⟨x0, x1, x2, x3, x4⟩ := mcell_at KM.out
  go_wp2_with fail
  clear x0 x1 x2 x3 x4
  revert B KM
  generalize (w.alloc (.cells (mcells m l) 25)) = U0
  intro B KM
  refine (refMay_any m l _ (h.out.below B.out (Nat.le_refl _))).mono ?_
  rintro e W1 ⟨rfl, hb⟩
  replace B := Hid.of (B.out.trans (hb.mono B.out.size))
  replace KM := Hid.of (KM.out.below hb KM.out.lt)
  clear hb
  cases c1 : mayB m with
  | false =>
    have HC : Hid ((mayB m && (rowB m.ev free && rowB m.st bad)) = false) := by show _ = _; rw [c1]; rfl
    clear c1
    obtain ⟨x0, x1, x2, x3, x4⟩ := mcell_at KM.out
    go_wp2_with fail
    clear x0 x1 x2 x3 x4
    go_ret
    exact ⟨rfl, B.out⟩
  | true =>
    have C1 := Hid.of c1
    clear c1
    obtain ⟨x0, x1, x2, x3, x4⟩ := mcell_at KM.out
    go_wp2_with fail
    clear x0 x1 x2 x3 x4
    refine (isB_any fa fc free m.ev _ (hF.out.below B.out (Nat.le_refl _)) hFl.out).mono ?_
    rintro e W2 ⟨rfl, hb⟩
    replace B := Hid.of (B.out.trans (hb.mono B.out.size))
    replace KM := Hid.of (KM.out.below hb KM.out.lt)
    clear hb
    cases c2 : rowB m.ev free with
    | false =>
      have HC : Hid ((mayB m && (rowB m.ev free && rowB m.st bad)) = false) := by show _ = _; rw [C1.out, c2]; rfl
      clear c2
      obtain ⟨x0, x1, x2, x3, x4⟩ := mcell_at KM.out
      go_wp2_with fail
      clear x0 x1 x2 x3 x4
      go_ret
      exact ⟨rfl, B.out⟩
    | true =>
      have C2 := Hid.of c2
      clear c2
      obtain ⟨x0, x1, x2, x3, x4⟩ := mcell_at KM.out
      go_wp2_with fail
      clear x0 x1 x2 x3 x4
      refine (isB_any ba bc bad m.st _ (hB.out.below B.out (Nat.le_refl _)) hBl.out).mono ?_
      rintro e W3 ⟨rfl, hb⟩
      replace B := Hid.of (B.out.trans (hb.mono B.out.size))
      replace KM := Hid.of (KM.out.below hb KM.out.lt)
      clear hb
      cases c3 : rowB m.st bad with
      | false =>
        have HC : Hid ((mayB m && (rowB m.ev free && rowB m.st bad)) = false) := by show _ = _; rw [C1.out, C2.out, c3]; rfl
        clear c3
        obtain ⟨x0, x1, x2, x3, x4⟩ := mcell_at KM.out
        go_wp2_with fail
        clear x0 x1 x2 x3 x4
        go_ret
        exact ⟨rfl, B.out⟩
      | true =>
        have HC : Hid ((mayB m && (rowB m.ev free && rowB m.st bad)) = true) := by show _ = _; rw [C1.out, C2.out, c3]; rfl
        clear c3
        obtain ⟨x0, x1, x2, x3, x4⟩ := mcell_at KM.out
        go_wp2_with fail
        clear x0 x1 x2 x3 x4
        obtain ⟨el, ec, EH⟩ : ∃ l c, Hid (ctlOut m free bad = (l, c)) := ⟨_, _, rfl⟩
        refine (pCtl_any m l fa fc free ba bc bad _ (h.out.below B.out (Nat.le_refl _)) (hF.out.below B.out (Nat.le_refl _)) hFl.out (hB.out.below B.out (Nat.le_refl _)) hBl.out (hT.out.below B.out hT.out.lt)).mono ?_
        intro e W4 hp
        unfold CtlPost at hp
        rw [EH.out] at hp
        dsimp only at hp
        obtain ⟨va, vc, rfl, vat, vln, hb⟩ := hp
        replace B := Hid.of (B.out.trans (hb.mono B.out.size))
        replace KM := Hid.of (KM.out.below hb KM.out.lt)
        clear hb
        have VA := Hid.of vat
        have VL := Hid.of vln
        clear vat vln
        have e1 := EH.out
        rw [ctlOut_ok HC.out] at e1
        obtain ⟨rfl, rfl⟩ : el = keepL m free bad ∧ ec = 0 := by cases e1; exact ⟨rfl, rfl⟩
        clear e1 EH
        have HR1 : Hid (rowB m.st (keepL m free bad) = true) := keep_row C1.out free bad
        have HR2 : Hid (safeB m free bad (keepL m free bad) = true) := keep_safe C1.out free bad
        obtain ⟨K, HK⟩ : ∃ K, Hid (K = keepL m free bad) := ⟨_, rfl⟩
        rw [← HK.out] at VA VL HR1 HR2
        rw [← HK.out]
        obtain ⟨x0, x1, x2, x3, x4⟩ := mcell_at KM.out
        go_wp2_with fail
        clear x0 x1 x2 x3 x4
        refine (isB_any va vc K m.st _ VA.out VL.out).mono ?_
        rintro e W5 ⟨rfl, hb⟩
        replace B := Hid.of (B.out.trans (hb.mono B.out.size))
        replace KM := Hid.of (KM.out.below hb KM.out.lt)
        replace VA := Hid.of (VA.out.below hb (Nat.le_refl _))
        clear hb
        rw [HR1.out]
        obtain ⟨x0, x1, x2, x3, x4⟩ := mcell_at KM.out
        go_wp2_with fail
        clear x0 x1 x2 x3 x4
        refine (rsafe_any m l fa fc free ba bc bad va vc K _ (h.out.below B.out (Nat.le_refl _)) (hF.out.below B.out (Nat.le_refl _)) hFl.out (hB.out.below B.out (Nat.le_refl _)) hBl.out VA.out VL.out).mono ?_
        rintro e W6 ⟨rfl, hb⟩
        replace B := Hid.of (B.out.trans (hb.mono B.out.size))
        replace KM := Hid.of (KM.out.below hb KM.out.lt)
        replace VA := Hid.of (VA.out.below hb (Nat.le_refl _))
        clear hb
        rw [HR2.out]
        obtain ⟨x0, x1, x2, x3, x4⟩ := mcell_at KM.out
        go_wp2_with fail
        clear x0 x1 x2 x3 x4
        refine (isB_any oa oc other m.st _ (hO.out.below B.out (Nat.le_refl _)) (Nat.le_trans hOl.out (by decide))).mono ?_
        rintro e W7 ⟨rfl, hb⟩
        replace B := Hid.of (B.out.trans (hb.mono B.out.size))
        replace KM := Hid.of (KM.out.below hb KM.out.lt)
        replace VA := Hid.of (VA.out.below hb (Nat.le_refl _))
        clear hb
        cases c4 : rowB m.st other with
        | false =>
          clear c4
          obtain ⟨x0, x1, x2, x3, x4⟩ := mcell_at KM.out
          go_wp2_with fail
          clear x0 x1 x2 x3 x4
          go_ret
          exact ⟨rfl, B.out⟩
        | true =>
          have C4 := Hid.of c4
          clear c4
          obtain ⟨x0, x1, x2, x3, x4⟩ := mcell_at KM.out
          go_wp2_with fail
          clear x0 x1 x2 x3 x4
          refine (rsafe_any m l fa fc free ba bc bad oa oc other _ (h.out.below B.out (Nat.le_refl _)) (hF.out.below B.out (Nat.le_refl _)) hFl.out (hB.out.below B.out (Nat.le_refl _)) hBl.out (hO.out.below B.out (Nat.le_refl _)) (Nat.le_trans hOl.out (by decide))).mono ?_
          rintro e W8 ⟨rfl, hb⟩
          replace B := Hid.of (B.out.trans (hb.mono B.out.size))
          replace KM := Hid.of (KM.out.below hb KM.out.lt)
          replace VA := Hid.of (VA.out.below hb (Nat.le_refl _))
          clear hb
          cases c5 : safeB m free bad other with
          | false =>
            clear c5
            obtain ⟨x0, x1, x2, x3, x4⟩ := mcell_at KM.out
            go_wp2_with fail
            clear x0 x1 x2 x3 x4
            go_ret
            exact ⟨rfl, B.out⟩
          | true =>
            have HM : Hid ((other.filter fun n => hasB K n == false) = []) := by
              have hz := mayB_size C1.out
              unfold sizeOk at hz
              have hb := ((rowB_iff _ (by omega) _).1 C4.out).2
              show _ = _
              rw [List.filter_eq_nil_iff]
              intro a ha
              have h1 := keep_most C1.out hb c5 a ha
              rw [← HK.out] at h1
              unfold hasB
              simpa using h1
            clear c5
            obtain ⟨x0, x1, x2, x3, x4⟩ := mcell_at KM.out
            go_wp2_with fail
            clear x0 x1 x2 x3 x4
            refine (only_any oa va oc vc other K false _ (hO.out.below B.out (Nat.le_refl _)) hOl.out VA.out VL.out).mono ?_
            rintro e W9 ⟨ya, yc, rfl, yat, yln, hb⟩
            replace B := Hid.of (B.out.trans (hb.mono B.out.size))
            replace KM := Hid.of (KM.out.below hb KM.out.lt)
            replace VA := Hid.of (VA.out.below hb (Nat.le_refl _))
            clear hb
            clear yat yln
            rw [HM.out]
            go_wp2_with fail
            go_ret
            exact ⟨rfl, B.out⟩

end Go.Proofs.YtkodmnooibpflaaDoor
namespace Go.Proofs.YtkodmnooibpflaaDoor
open Go.ChangeShapes Go.WideShapes Go.ChangeAt Go.RowKit Go.Deep
set_option linter.unusedVariables false
set_option maxRecDepth 100000

theorem bytesInt : Tryd.prog.bytesOf 3 = 8 := by kernel_rfl
theorem len_sized1 {H : Type} {enc : TypeId × Value → H} {W : World} {ts : List TypeId} {ds : List (DataW H)} {j len c : Nat} {a : Option Addr} {d : DataW H} {p : List MemPlace} (hz : (DataW.weightsEach Tryd.prog ts ds).all (· ≤ reachBytes) = true) (ht : ts[j]? = some 22) (hd : ds[j]? = some d) (h : DataW.Trod enc Tryd.prog W 0 (fun _ => true) true 22 (.slice a len c) d p) : len ≤ 17592186044415 := by
  obtain ⟨fuel, hf⟩ := h
  have hf : DataW.trod enc Tryd.prog W 0 (fun _ => true) true fuel 22 [.slice a len c] = some (d, p) := by simpa [Value.cells] using hf
  rcases open_ints Tryd.underlying22 Tryd.underlying3 (by kernel_rfl) hf with ⟨e, _⟩ | ⟨a', len', cap', zs, e, _, hl, hm, hzs, hx, hc, _⟩
  · simp only [List.cons.injEq, and_true, Value.slice.injEq] at e
    omega
  · simp only [List.cons.injEq, and_true, Value.slice.injEq] at e
    obtain ⟨-, rfl, -⟩ := e
    simp only [if_true] at hzs
    have hdx : d = .slice (lits .i64 (zs.take len)) (lits .i64 (zs.drop len)) := congrArg Prod.fst hx
    rw [hdx] at hd
    have h1 := sized_slice hz ht hd Tryd.underlying22
    rw [bytesInt] at h1
    have h2 := reachBytes_lt
    simp only [lits, List.length_map, List.length_take] at h1
    omega
theorem len_sized {H : Type} {enc : TypeId × Value → H} {W : World} {ts : List TypeId} {ds : List (DataW H)} {j len c : Nat} {a : Option Addr} {d : DataW H} {p : List MemPlace} (hz : (DataW.weightsEach Tryd.prog ts ds).all (· ≤ reachBytes) = true) (ht : ts[j]? = some 22) (hd : ds[j]? = some d) (h : DataW.Trod enc Tryd.prog W 0 (fun _ => true) true 22 (.slice a len c) d p) : len ≤ 17592186044416 := Nat.le_trans (len_sized1 hz ht hd h) (by decide)

end Go.Proofs.YtkodmnooibpflaaDoor
