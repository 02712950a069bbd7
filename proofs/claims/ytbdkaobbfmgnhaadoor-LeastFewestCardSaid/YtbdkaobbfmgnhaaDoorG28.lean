/-
  The walk of determine.Is.
  The walk of jalousielaw.rows: are two lists of lists one?
  The walks of jalousieref6.Find and jalousieref6.Is.
-/
import Derived.Test.YtbdkaobbfmgnhaaDoorG10
import Derived.Test.YtbdkaobbfmgnhaaDoorG15
import Derived.Test.YtbdkaobbfmgnhaaDoorG18
import Derived.Test.YtbdkaobbfmgnhaaDoorG20
import Derived.Test.YtbdkaobbfmgnhaaDoorG04
import Derived.Test.YtbdkaobbfmgnhaaDoorCRefMay
namespace Go.Proofs.YtbdkaobbfmgnhaaDoor
open Go.RowKit
set_option linter.unusedVariables false

theorem detB_no1 {m : Mach} (h : mayB m = false) : detB m = false := by unfold detB; rw [h]; rfl
theorem detB_no2 {m : Mach} (h : ¬ m.starts.length = 1) : detB m = false := by unfold detB; simp [h]
end Go.Proofs.YtbdkaobbfmgnhaaDoor
namespace Go.Proofs.YtbdkaobbfmgnhaaDoor
open Go.RowKit
set_option linter.unusedVariables false

theorem dropL {p : List (List Int)} {k : Nat} {x : List Int} (h : p[k]? = some x) : p.drop k = x :: p.drop (k + 1) := by
  obtain ⟨h1, h2⟩ := List.getElem?_eq_some_iff.1 h
  rw [List.drop_eq_getElem_cons h1, h2]
/-- What a slice of slices has in a place. -/
def CellsL (w : World) (b off : Nat) (LL : List (List Int)) : Prop := ∀ (k : Nat) (xs : List Int), LL[k]? = some xs → ∃ a' c', w.cell? ⟨b, off + k, none⟩ = some (.slice a' xs.length c') ∧ At w a' xs ∧ xs.length ≤ maxLen

end Go.Proofs.YtbdkaobbfmgnhaaDoor
namespace Go.Proofs.YtbdkaobbfmgnhaaDoor
open Go.RowKit
set_option linter.unusedVariables false

theorem findL_hit {L : List (List Int)} {k : Nat} {x s : List Int} (h : Hid (L[k]? = some x)) (e : Hid (findL L s = k + findL (L.drop k) s)) (h1 : Hid (sameB x s = true)) : (k : Int) = (findL L s : Nat) := by
  have h2 : x = s := by have := h1.out; simpa [sameB] using this
  rw [e.out, dropL h.out, findL, if_pos h2]; simp
theorem findL_miss {L : List (List Int)} {k : Nat} {x s : List Int} (h : Hid (L[k]? = some x)) (e : Hid (findL L s = k + findL (L.drop k) s)) (h1 : Hid (sameB x s = false)) : Hid (findL L s = (k + 1) + findL (L.drop (k + 1)) s) := by
  have h2 : ¬ x = s := by have := h1.out; simpa [sameB] using this
  show _ = _
  rw [e.out, dropL h.out, findL, if_neg h2]; omega
theorem findL_end {L : List (List Int)} {k : Nat} {s : List Int} (h : ¬ k < L.length) (hk : k ≤ L.length) (e : Hid (findL L s = k + findL (L.drop k) s)) : (L.length : Int) = (findL L s : Nat) := by
  rw [e.out, List.drop_eq_nil_of_le (by omega)]; simp [findL]; omega
theorem ret_i64g {a b : Int} (h : a = b) : Ending.returned (.int .i64 a) = .returned (.int .i64 b) := by rw [h]

set_option maxHeartbeats 2000000 in
theorem rfind_some (ba oa ca : Nat) (sa : Option Addr) (sc : Nat) (LL : List (List Int)) (s : List Int) (w : World) (hl : LL.length ≤ 9223372036854775807) (hca : Hid (CellsL w ba oa LL)) (hs : Hid (At w sa s)) (hsl : Hid (s.length ≤ maxLen)) :
    Calls Tryd.prog 79 #[.slice (some ⟨ba, oa, none⟩) LL.length ca, .slice sa s.length sc] w fun e w' => e = .returned (.int .i64 (findL LL s : Nat)) ∧ ∃ q, w' = w.drewN q := by
  go_enter Tryd.func79, Tryd.ntmps79
  go_wp2
  go_loopw [5] (fun i wr => ∃ k q : Nat, k ≤ LL.length ∧ i = .int .i64 k ∧ wr = w.drewN q ∧ Hid (findL LL s = k + findL (LL.drop k) s)) (fun i _ => LL.length - (intOf i).toNat)
  case atStart => exact ⟨0, 0, Nat.zero_le _, rfl, rfl, by show _ = _; simp⟩
  case round =>
    obtain ⟨k, q, hk, rfl, rfl, he⟩ := hrel
    by_cases hlt : k < LL.length
    · obtain ⟨x, HX⟩ : ∃ x, Hid (LL[k]? = some x) := ⟨_, List.getElem?_eq_getElem hlt⟩
      obtain ⟨xa, xc, cx, ax, lx⟩ := hca.out k x HX.out
      obtain ⟨V, HV⟩ : ∃ V, Hid (V = w.drewN q) := ⟨_, rfl⟩
      replace cx : V.cell? ⟨ba, oa + k, none⟩ = some (.slice xa x.length xc) := by rw [HV.out]; exact cx
      have KEY : Hid (Calls Tryd.prog 22 #[.slice xa x.length xc, .slice sa s.length sc] V fun e w' => e = .returned (.bool (sameB x s)) ∧ ∃ r, w' = V.drewN r) := by
        rw [HV.out]; exact same_any xa sa xc sc x s _ (At.drewN ax q) (At.drewN hs.out q) lx hsl.out
      rw [← HV.out]
      clear ax lx
      go_wp2_with fail
      refine KEY.out.mono ?_
      rintro e V' ⟨rfl, r, rfl⟩
      have HVr : Hid (V.drewN r = w.drewN (q + r)) := by show _ = _; rw [HV.out, World.drewN_drewN]
      rw [HVr.out]
      clear KEY cx
      cases hxy : sameB x s with
      | true =>
        have HXY := Hid.of hxy
        clear hxy
        go_wp2
        go_ret
        exact ⟨ret_i64g (findL_hit HX he HXY), _, rfl⟩
      | false =>
        have HXY := Hid.of hxy
        clear hxy
        go_wp2
        go_roundw
        case rel => exact ⟨k + 1, _, by omega, by go_num, rfl, findL_miss HX he HXY⟩
        case measure => simp [intOf]; omega
    · go_wp2
      go_ret
      exact ⟨ret_i64g (findL_end hlt hk he), q, rfl⟩
set_option maxHeartbeats 400000 in
theorem rfind_nil (a sa : Option Addr) (ca sc : Nat) (s : List Int) (w : World) :
    Calls Tryd.prog 79 #[.slice a 0 ca, .slice sa s.length sc] w fun e w' => e = .returned (.int .i64 (findL [] s : Nat)) ∧ ∃ q, w' = w.drewN q := by
  go_enter Tryd.func79, Tryd.ntmps79
  go_wp2
  refine wp_loop_rounds 1 ?_
  rw [rounds_succ]
  go_wp2
  go_ret
  exact ⟨rfl, 0, rfl⟩
theorem rfind_any (a sa : Option Addr) (ca sc : Nat) (LL : List (List Int)) (s : List Int) (w : World) (h : At2 w a LL) (hl : LL.length ≤ maxLen) (hs : At w sa s) (hsl : s.length ≤ maxLen) :
    Calls Tryd.prog 79 #[.slice a LL.length ca, .slice sa s.length sc] w fun e w' => e = .returned (.int .i64 (findL LL s : Nat)) ∧ ∃ q, w' = w.drewN q := by
  rcases h with rfl | ⟨b, off, rfl, -, hc⟩
  · exact rfind_nil a sa ca sc s w
  · exact rfind_some b off ca sa sc LL s w hl (Hid.of hc) (Hid.of hs) (Hid.of hsl)

/-! jalousieref6.Is -/
theorem cntL_take {ars : List Arr} {k : Nat} {a : Arr} {s e : Int} (h : k < ars.length) (ha : Hid (a = ars[k]?.getD arr0)) : cntL (ars.take (k + 1)) s e = if (decide (a.f = s) && decide (a.e = e)) = true then cntL (ars.take k) s e + 1 else cntL (ars.take k) s e := by
  have ha := ha.out
  rw [List.getElem?_eq_getElem h, Option.getD_some] at ha
  unfold cntL
  rw [List.take_add_one, List.getElem?_eq_getElem h, List.filter_append, ← ha, List.length_append]
  by_cases c : (decide (a.f = s) && decide (a.e = e)) = true
  · rw [if_pos c]; simp only [Option.toList_some, List.filter_cons, c, if_true, List.filter_nil, List.length_cons, List.length_nil]
  · rw [if_neg c]; simp only [Option.toList_some, List.filter_cons, c, Bool.false_eq_true, if_false, List.filter_nil, List.length_nil, Nat.add_zero]
theorem cntL_le (ars : List Arr) (s e : Int) : cntL ars s e ≤ ars.length := List.length_filter_le _ _
theorem detB_one {s v : Nat} {starts : List Int} {ars : List Arr} {ends : List Int} (hm : mayB ⟨(s : Int), (v : Int), starts, ars, ends⟩ = true) (h1 : starts.length = 1) : detB ⟨(s : Int), (v : Int), starts, ars, ends⟩ = allOne ars v s := by
  unfold detB
  rw [hm, ← det_same (may_arrs hm) (may_inc hm)]
  simp [h1]
theorem allOne_no {ars : List Arr} {v s k e : Nat} (hk : k < s) (he : e < v) (h : ¬ cntL ars (k : Int) (e : Int) = 1) : allOne ars v s = false := by
  cases hh : allOne ars v s with
  | false => rfl
  | true =>
    unfold allOne oneRow at hh
    simp only [List.all_eq_true, List.mem_range, decide_eq_true_eq] at hh
    exact absurd (hh k hk e he) h
theorem allOne_yes {ars : List Arr} {v s : Nat} (h : ∀ k, k < s → ∀ e, e < v → cntL ars (k : Int) (e : Int) = 1) : allOne ars v s = true := by
  unfold allOne oneRow
  simp only [List.all_eq_true, List.mem_range, decide_eq_true_eq]
  exact h

set_option maxRecDepth 100000 in
set_option maxHeartbeats 4000000 in
theorem rIs_any (m : Mach) (l : ML) (w : World) (h : Hid (MAt w m l)) :
    Calls Tryd.prog 36 #[mval m l] w fun e w' => e = .returned (.bool (detB m)) ∧ Below w.heap.size w w' := by
  have B0 : Hid (Below w.heap.size w (w.alloc (.cells (mcells m l) 25))) := (Below.refl _ _).alloc (Nat.le_refl _) _
  have K0 : Hid (Blk (w.alloc (.cells (mcells m l) 25)) w.heap.size 25 (mcells m l)) := Blk.new w _ _
  go_enter Tryd.func36, Tryd.ntmps36
  go_wp2_with fail
  revert B0 K0
  generalize w.alloc (.cells (mcells m l) 25) = V0
  intro B0 K0
  refine (refMay_any m l _ (h.out.below B0.out (Nat.le_refl _))).mono ?_
  rintro e V ⟨rfl, hb1⟩
  have B1 := Hid.of (B0.out.trans (hb1.mono B0.out.size))
  have K1 := Hid.of (K0.out.below hb1 K0.out.lt)
  clear hb1 B0 K0
  cases hm : mayB m with
  | false =>
    have HF := Hid.of (detB_no1 hm)
    clear hm
    go_wp2
    go_ret
    exact ⟨ret_bool HF.out.symm, B1.out⟩
  | true =>
    have hz := mayB_size hm
    have hin := Hid.of (may_arrs hm)
    have HMY := Hid.of hm
    obtain ⟨st, ev, starts, ars, ends⟩ := m
    obtain ⟨a1, c1, a2, c2, a3, c3⟩ := l
    obtain ⟨z1, z2, z3, z4, z5⟩ := hz
    simp only at z1 z2 z3 z4 z5
    obtain ⟨s, rfl⟩ : ∃ s : Nat, st = (s : Int) := ⟨st.toNat, by omega⟩
    obtain ⟨v, rfl⟩ : ∃ v : Nat, ev = (v : Int) := ⟨ev.toNat, by omega⟩
    obtain ⟨x0, x1, x2, x3, x4⟩ := mcell_at K1.out
    dsimp only at x0 x1 x2 x3 x4
    clear hm
    by_cases h1 : starts.length = 1
    · have d1 : ((starts.length : Int) != 1) = false := by rw [h1]; rfl
      have HO : Hid (detB ⟨(s : Int), (v : Int), starts, ars, ends⟩ = allOne ars v s) := detB_one HMY.out h1
      clear h1
      go_wp2
      go_loop [3] (fun i => ∃ k : Nat, k ≤ s ∧ i = .int .i64 k ∧ Hid (∀ j, j < k → ∀ e, e < v → cntL ars (j : Int) (e : Int) = 1)) (fun i => s - (intOf i).toNat)
      case atStart => exact ⟨0, Nat.zero_le _, rfl, fun j hj => by omega⟩
      case round =>
        obtain ⟨k, hk, rfl, HK⟩ := hrel
        by_cases hlt : k < s
        · go_wp2
          go_loop [4] (fun i => ∃ q : Nat, q ≤ v ∧ i = .int .i64 q ∧ Hid (∀ e, e < q → cntL ars (k : Int) (e : Int) = 1)) (fun i => v - (intOf i).toNat)
          case atStart => exact ⟨0, Nat.zero_le _, rfl, fun j hj => by omega⟩
          case round =>
            obtain ⟨q, hq, rfl, HQ⟩ := hrel
            by_cases hqt : q < v
            · go_wp2
              go_loop [5, 6] (fun c i => ∃ n : Nat, n ≤ ars.length ∧ i = .int .i64 n ∧ c = .int .i64 (cntL (ars.take n) (k : Int) (q : Int) : Nat)) (fun _ i => ars.length - (intOf i).toNat)
              case atStart => exact ⟨0, Nat.zero_le _, rfl, rfl⟩
              case round =>
                obtain ⟨n, hn, rfl, rfl⟩ := hrel
                have hcl := cntL_le (ars.take n) (k : Int) (q : Int)
                rw [List.length_take] at hcl
                by_cases hnt : n < ars.length
                · obtain ⟨b, off, rfl, hb, hc⟩ : ∃ b off, a2 = some ⟨b, off, none⟩ ∧ b < w.heap.size ∧ CellsA w b off ars := by
                    rcases h.out.a with h0 | ⟨b, off, h0⟩
                    · have h0 : ars = [] := h0
                      rw [h0] at hnt; simp at hnt
                    · exact ⟨b, off, h0⟩
                  obtain ⟨a, HA, y1, y2, y3⟩ := hc.at hnt
                  replace y1 := (B1.out.cell (p := ⟨b, off + n * 3, none⟩) hb).trans y1
                  replace y2 := (B1.out.cell (p := ⟨b, off + n * 3 + 1, none⟩) hb).trans y2
                  replace y3 := (B1.out.cell (p := ⟨b, off + n * 3 + 2, none⟩) hb).trans y3
                  have HC := Hid.of (cntL_take (s := (k : Int)) (e := (q : Int)) hnt HA)
                  obtain ⟨cn, HCN⟩ : ∃ cn, Hid (cn = cntL (ars.take n) (k : Int) (q : Int)) := ⟨_, rfl⟩
                  rw [← HCN.out] at HC hcl ⊢
                  by_cases e1 : a.f = (k : Int)
                  · have d3 : (a.f == (k : Int)) = true := by simpa using e1
                    by_cases e2 : a.e = (q : Int)
                    · have d4 : (a.e == (q : Int)) = true := by simpa using e2
                      rw [if_pos (by simp [e1, e2])] at HC
                      clear e1 e2
                      go_wp2
                      go_round
                      case rel => exact ⟨n + 1, by omega, by go_num, by rw [HC.out]; go_num⟩
                      case measure => simp [intOf]; omega
                    · have d4 : (a.e == (q : Int)) = false := by simpa using e2
                      rw [if_neg (by simp [e2])] at HC
                      clear e1 e2
                      go_wp2
                      go_round
                      case rel => exact ⟨n + 1, by omega, by go_num, by rw [HC.out]⟩
                      case measure => simp [intOf]; omega
                  · have d3 : (a.f == (k : Int)) = false := by simpa using e1
                    rw [if_neg (by simp [e1])] at HC
                    clear e1
                    go_wp2
                    go_round
                    case rel => exact ⟨n + 1, by omega, by go_num, by rw [HC.out]⟩
                    case measure => simp [intOf]; omega
                · have HT : Hid (ars.take n = ars) := List.take_of_length_le (by omega)
                  rw [HT.out]
                  obtain ⟨cn, HCN⟩ : ∃ cn, Hid (cn = cntL ars (k : Int) (q : Int)) := ⟨_, rfl⟩
                  rw [← HCN.out]
                  by_cases hc1 : cn = 1
                  · have d5 : ((cn : Int) != 1) = false := by rw [hc1]; rfl
                    have HQ' : Hid (∀ e, e < q + 1 → cntL ars (k : Int) (e : Int) = 1) := fun e he => by
                      by_cases h9 : e < q
                      · exact HQ.out e h9
                      · have : e = q := by omega
                        rw [this, ← HCN.out]; exact hc1
                    clear hc1
                    go_wp2
                    go_round
                    case rel => exact ⟨q + 1, by omega, by go_num, HQ'⟩
                    case measure => simp [intOf]; omega
                  · have d5 : ((cn : Int) != 1) = true := by rw [bne_iff_ne]; omega
                    have HNO : Hid (allOne ars v s = false) := allOne_no hlt hqt (by rw [← HCN.out]; exact hc1)
                    clear hc1
                    go_wp2
                    go_ret
                    exact ⟨ret_bool (by rw [HO.out, HNO.out]), B1.out⟩
            · have HK' : Hid (∀ j, j < k + 1 → ∀ e, e < v → cntL ars (j : Int) (e : Int) = 1) := fun j hj e he => by
                by_cases h9 : j < k
                · exact HK.out j h9 e he
                · have : j = k := by omega
                  rw [this]; exact HQ.out e (by omega)
              go_wp2
              go_round
              case rel => exact ⟨k + 1, by omega, by go_num, HK'⟩
              case measure => simp [intOf]; omega
        · have HY : Hid (allOne ars v s = true) := allOne_yes (fun j hj => HK.out j (by omega))
          go_wp2
          go_ret
          exact ⟨ret_bool (by rw [HO.out, HY.out]), B1.out⟩
    · have d1 : ((starts.length : Int) != 1) = true := by rw [bne_iff_ne]; omega
      have HF : Hid (detB ⟨(s : Int), (v : Int), starts, ars, ends⟩ = false) := detB_no2 h1
      clear h1
      go_wp2
      go_ret
      exact ⟨ret_bool HF.out.symm, B1.out⟩

end Go.Proofs.YtbdkaobbfmgnhaaDoor
