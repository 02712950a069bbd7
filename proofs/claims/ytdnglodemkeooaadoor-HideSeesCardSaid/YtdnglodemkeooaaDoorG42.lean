/-
  hide.Hide, whatever comes in.
  The walk of the law HideSees.
-/
import Derived.Test.YtdnglodemkeooaaDoorCHHide
import Derived.Test.YtdnglodemkeooaaDoorCHSeen
import Derived.Test.YtdnglodemkeooaaDoorCAccAny
namespace Go.Proofs.YtdnglodemkeooaaDoor
open Go.RowKit
set_option linter.unusedVariables false

theorem pHide_any (m : Mach) (l : ML) (sa : Option Addr) (sc : Nat) (seen : List Int) (w : World) (h : MAt w m l) (hs : At w sa seen) (hsl : seen.length ≤ maxLen) (hT : Tab w) :
    Calls Tryd.prog 37 #[mval m l, .slice sa seen.length sc] w fun e w' => HidePost w m seen e w' := by
  by_cases hbad : mayB m = false ∨ rowB m.ev seen = false
  · refine (hide_err m l sa sc seen w (Hid.of h) (Hid.of hs) (Hid.of hsl) (Hid.of hbad)).mono fun e w' h => ?_
    unfold HidePost; rw [if_pos hbad]; exact h
  · have hm : mayB m = true := by cases e : mayB m with
      | true => rfl
      | false => exact absurd (.inl e) hbad
    have hr : rowB m.ev seen = true := by cases e : rowB m.ev seen with
      | true => rfl
      | false => exact absurd (.inr e) hbad
    obtain ⟨mst, ev, starts, ars, ends⟩ := m
    obtain ⟨a1, c1, a2, c2, a3, c3⟩ := l
    obtain ⟨st, rfl⟩ : ∃ st : Nat, mst = (st : Int) := by
      have := mayB_size hm
      unfold sizeOk at this
      exact ⟨mst.toNat, by dsimp only at this; omega⟩
    refine (hide_ok st ev starts ars ends a1 c1 a2 c2 a3 c3 sa sc seen w (Hid.of h) (Hid.of hs) (Hid.of hsl) (Hid.of hm) (Hid.of hr) (Hid.of hT)).mono fun e w' h => ?_
    unfold HidePost; rw [if_neg hbad]; exact h

end Go.Proofs.YtdnglodemkeooaaDoor
namespace Go.Proofs.YtdnglodemkeooaaDoor
open Go.RowKit
set_option linter.unusedVariables false

/-- The first i of the seen events by their numbers, the others as they are. -/
def numTo (seen word : List Int) (i : Nat) : List Int := (numL seen word).take i ++ (seenL seen word).drop i
theorem num_len (seen word : List Int) : (numL seen word).length = (seenL seen word).length := by simp [numL]
theorem numTo_len (seen word : List Int) (i : Nat) : (numTo seen word i).length = (seenL seen word).length := by
  unfold numTo; rw [List.length_append, List.length_take, List.length_drop, num_len]; omega
theorem numTo_zero (seen word : List Int) : numTo seen word 0 = seenL seen word := by simp [numTo]
theorem numTo_end {seen word : List Int} {i : Nat} (h : ¬ i < (seenL seen word).length) : numTo seen word i = numL seen word := by
  unfold numTo
  rw [List.take_of_length_le (by rw [num_len]; omega), List.drop_eq_nil_of_le (by omega), List.append_nil]
theorem numTo_at {seen word : List Int} {i : Nat} (h : i < (seenL seen word).length) : (numTo seen word i)[i]?.getD 0 = (seenL seen word)[i] := by
  unfold numTo
  have hl : ((numL seen word).take i).length = i := by rw [List.length_take, num_len]; omega
  rw [List.getElem?_append_right (by omega), hl]
  simp [h]
theorem numTo_set {seen word : List Int} {i : Nat} (h : i < (seenL seen word).length) : (numTo seen word i).set i (placeI seen (seenL seen word)[i]) = numTo seen word (i + 1) := by
  apply List.ext_getElem?
  intro t
  have hn := num_len seen word
  unfold numTo
  have hl : ((numL seen word).take i).length = i := by rw [List.length_take, hn]; omega
  have hl2 : ((numL seen word).take (i + 1)).length = i + 1 := by rw [List.length_take, hn]; omega
  rw [List.getElem?_set]
  by_cases e : i = t
  · subst e
    rw [if_pos rfl, List.getElem?_append_left (by omega), List.getElem?_take_of_lt (by omega)]
    rw [if_pos (by rw [List.length_append, hl, List.length_drop]; omega)]
    unfold numL
    rw [List.getElem?_map, List.getElem?_eq_getElem h]; rfl
  · rw [if_neg e]
    by_cases ht : t < i
    · rw [List.getElem?_append_left (by omega), List.getElem?_append_left (by omega), List.getElem?_take_of_lt ht, List.getElem?_take_of_lt (by omega)]
    · rw [List.getElem?_append_right (by omega), List.getElem?_append_right (by omega), hl, hl2, List.getElem?_drop, List.getElem?_drop]
      congr 1; omega
theorem wordB_iff' (ev : Int) : ∀ xs : List Int, wordB ev xs = true ↔ ∀ e ∈ xs, 0 ≤ e ∧ e < ev
  | [] => by simp [wordB]
  | x :: r => by
    rw [wordB]
    by_cases h : x < 0 ∨ ev ≤ x
    · rw [if_pos h]
      constructor
      · intro h'; cases h'
      · intro h'; have := h' x (by simp); omega
    · rw [if_neg h, wordB_iff' ev r]
      constructor
      · intro h' e he
        rcases List.mem_cons.1 he with rfl | he
        · omega
        · exact h' e he
      · intro h' e he; exact h' e (by simp [he])
theorem inc_lt {xs : List Int} (h : Inc xs) {p q : Nat} {x y : Int} (hp : xs[p]? = some x) (hq : xs[q]? = some y) (hpq : p < q) : x < y := by
  obtain ⟨h1, rfl⟩ := List.getElem?_eq_some_iff.1 hp
  obtain ⟨h2, rfl⟩ := List.getElem?_eq_some_iff.1 hq
  exact List.pairwise_iff_getElem.1 h p q h1 h2 hpq
theorem num_word (seen word : List Int) : wordB (seen.length : Int) (numL seen word) = true := by
  refine (wordB_iff' _ _).2 fun e he => ?_
  obtain ⟨x, hx, rfl⟩ := List.mem_map.1 he
  have hm := (hasB_iff seen x).1 (by have := (List.mem_filter.1 hx).2; simpa using this)
  exact ⟨(placeI_nn _ _).2 hm, placeI_lt hm⟩

set_option maxRecDepth 100000 in
set_option maxHeartbeats 4000000 in
theorem hsees_any (m : Mach) (l : ML) (sa wa : Option Addr) (sc wc : Nat) (seen word : List Int) (w : World) (hT : Hid (Tab w)) (h : Hid (MAt w m l)) (hs : Hid (At w sa seen)) (hsl : Hid (seen.length ≤ 17592186044416)) (hw : Hid (At w wa word)) (hwl : word.length ≤ 17592186044416) :
    Calls Tryd.prog 9 #[mval m l, .slice sa seen.length sc, .slice wa word.length wc] w fun e w' => e = .returned (.bool true) ∧ Below w.heap.size w w' := by
  have B0 : Hid (Below w.heap.size w (w.alloc (.cells (mcells m l) 25))) := (Below.refl _ _).alloc (Nat.le_refl _) _
  have K0 := Hid.of (Blk.new w 25 (mcells m l))
  have hslM : Hid (seen.length ≤ maxLen) := by show _ ≤ maxLen; unfold maxLen; have := hsl.out; omega
  go_enter Tryd.func9, Tryd.ntmps9
  go_wp2_with fail
  refine (pHide_any m l sa sc seen _ (h.out.below B0.out (Nat.le_refl _)) (hs.out.below B0.out (Nat.le_refl _)) hslM.out (hT.out.below B0.out hT.out.lt)).mono ?_
  intro e w1 h1
  unfold HidePost at h1
  by_cases hbad : mayB m = false ∨ rowB m.ev seen = false
  · rw [if_pos hbad] at h1
    obtain ⟨rfl, hb1⟩ := h1
    have B1 := Hid.of (B0.out.trans (hb1.mono B0.out.size))
    have B2 := Hid.of (B1.out.alloc B1.out.size (.cells (mcells m0 ml0) 25))
    have n0 : (w1.alloc (.cells (mcells m0 ml0) 25)).cell? ⟨w1.heap.size, 0, none⟩ = some (.int .i64 0) := (Blk.new w1 25 (mcells m0 ml0)).cell 0 rfl
    clear hb1 hbad
    go_wp2
    go_ret
    exact ⟨rfl, B2.out⟩
  · rw [if_neg hbad] at h1
    have hm : mayB m = true := by cases e : mayB m with
      | true => rfl
      | false => exact absurd (.inl e) hbad
    have hr : rowB m.ev seen = true := by cases e : rowB m.ev seen with
      | true => rfl
      | false => exact absurd (.inr e) hbad
    clear hbad
    by_cases hfit : (hAll m seen m.st.toNat).length ≤ 4096
    · rw [if_pos hfit] at h1
      obtain ⟨L, rfl, mt1, hb1⟩ := h1
      have HM := Hid.of hm
      have HI : Hid (Inc seen) := rowB_inc hr
      have HMAY := Hid.of (may_hide hm hr hfit)
      have hsz : (hideM m seen).st = m.st := rfl
      obtain ⟨H, HH⟩ : ∃ H, Hid (H = hideM m seen) := ⟨_, rfl⟩
      rw [← HH.out] at mt1 HMAY hsz ⊢
      have HSZ := Hid.of hsz
      have HEV : Hid (H.ev = (seen.length : Int)) := by show _ = _; rw [HH.out]; rfl
      have B1 := Hid.of (B0.out.trans (hb1.mono B0.out.size))
      have K1 := K0.out.below hb1 K0.out.lt
      have b2 : Below w1.heap.size w1 (w1.alloc (.cells (mcells H L) 25)) := (Below.refl _ _).alloc (Nat.le_refl _) _
      have B2 := Hid.of (B1.out.trans (b2.mono B1.out.size))
      have K2 := Hid.of (K1.below b2 K1.lt)
      have N2 := Hid.of (Blk.new w1 25 (mcells H L))
      have MT2 := Hid.of (mt1.below b2 (Nat.le_refl _))
      clear hb1 b2 mt1 B0 K0 K1 B1 hm hr hfit hsz
      obtain ⟨x0, x1, x2, x3, x4⟩ := mcell_at K2.out
      obtain ⟨y0, y1, y2, y3, y4⟩ := mcell_at N2.out
      rw [HSZ.out] at y0
      go_wp2_with fail
      revert B2 K2 N2 MT2
      show Hid (Below w.heap.size w (w1.alloc (.cells #[.int .i64 H.st, .int .i64 H.ev, .slice L.a1 H.starts.length L.c1, .slice L.a2 H.arrows.length L.c2, .slice L.a3 H.ends.length L.c3] 25))) → _
      generalize w1.alloc (.cells #[.int .i64 H.st, .int .i64 H.ev, .slice L.a1 H.starts.length L.c1, .slice L.a2 H.arrows.length L.c2, .slice L.a3 H.ends.length L.c3] 25) = w2
      intro B2 K2 N2 MT2
      try clear x0 x1 x2 x3 x4
      try clear y0 y1 y2 y3 y4
      refine (accepts_any m l wa wc word _ (h.out.below B2.out (Nat.le_refl _)) (hT.out.below B2.out hT.out.lt) HM.out (hw.out.below B2.out (Nat.le_refl _)) (by unfold maxLen; omega)).mono ?_
      rintro e w3 ⟨rfl, hb3⟩
      have B3 := Hid.of (B2.out.trans (hb3.mono B2.out.size))
      have N3 := Hid.of (N2.out.below hb3 N2.out.lt)
      have MT3 := Hid.of (MT2.out.below hb3 (Nat.le_refl _))
      clear hb3 B2 K2 N2 MT2
      cases hwd : wordB m.ev word with
      | false =>
        clear hwd
        go_wp2
        go_ret
        exact ⟨rfl, B3.out⟩
      | true =>
        have HSE : Hid (acceptsB m word = true → acceptsB H (numL seen word) = true) := fun hp => by rw [HH.out]; exact hide_sees HM.out hp
        clear hwd
        generalize acceptsB m word = p at *
        go_wp2_with fail
        refine (pSeen_any wa sa wc sc word seen _ (hw.out.below B3.out (Nat.le_refl _)) hwl (hs.out.below B3.out (Nat.le_refl _)) hsl.out).mono ?_
        rintro e w4 ⟨lv, rfl, ol, hb4⟩
        have LEN : Hid ((seenL seen word).length ≤ maxLen) := by obtain ⟨_, _, _, _, h⟩ := ol.at; exact h
        have hln : (seenL seen word).length ≤ word.length := List.length_filter_le _ _
        obtain ⟨la, lc, rfl, -, -⟩ := ol.at
        obtain ⟨n, HN⟩ : ∃ n, Hid ((seenL seen word).length = n) := ⟨_, rfl⟩
        rw [HN.out] at hln ⊢
        have OL0 : Hid (Own w4 w3.heap.size (.slice la n lc) (numTo seen word 0)) := by
          show Own _ _ _ _
          rw [numTo_zero, ← HN.out]; exact ol
        have BL0 := Hid.of hb4
        clear ol hb4
        go_wp2
        go_loopw [12] (fun ii wr => ∃ i : Nat, i ≤ n ∧ ii = .int .i64 i ∧ Hid (Own wr w3.heap.size (.slice la n lc) (numTo seen word i)) ∧ Hid (Below w3.heap.size w3 wr)) (fun ii _ => n - (intOf ii).toNat)
        case atStart => exact ⟨0, by omega, rfl, OL0, BL0⟩
        case round =>
          clear OL0 BL0
          obtain ⟨i, hi, rfl, OL, BL⟩ := hrel
          by_cases hit : i < n
          · have hiS : i < (seenL seen word).length := by rw [HN.out]; exact hit
            obtain ⟨x, HX⟩ : ∃ x : Int, Hid (x = (seenL seen word)[i]'hiS) := ⟨(seenL seen word)[i]'hiS, Hid.of rfl⟩
            have hxm : x ∈ seen := by
              have h1 : x ∈ seenL seen word := by rw [HX.out]; exact List.getElem_mem hiS
              exact (hasB_iff seen x).1 (by have := (List.mem_filter.1 h1).2; simpa using this)
            obtain ⟨pos, hpos⟩ := placeN_mem hxm
            have HP := Hid.of (placeI_of hpos)
            have hsp := placeN_some hpos
            have hpl := (List.getElem?_eq_some_iff.1 hsp).1
            obtain ⟨bs, os, rfl, hbs, hcs⟩ : ∃ b off, sa = some ⟨b, off, none⟩ ∧ b < w.heap.size ∧ Cells w b off seen := by
              rcases hs.out with h0 | h
              · rw [h0] at hpl; simp at hpl
              · exact h
            have hlT := numTo_len seen word i
            obtain ⟨gl, cl, hgl⟩ := OL.out.shape (by rw [hlT]; omega)
            simp only [Value.slice.injEq] at hgl
            obtain ⟨rfl, -, -⟩ := hgl
            obtain ⟨cx0, fx0, hBg⟩ := OL.out.cellAt (j := i) (by rw [hlT]; exact hiS)
            rw [numTo_at hiS, ← HX.out] at cx0
            have BW := Hid.of (B3.out.trans (BL.out.mono B3.out.size))
            have HSP := Hid.of hsp
            have HNE : Hid (∀ k : Nat, k < pos → ∀ y, seen[k]? = some y → ¬ y = x) := fun k hk y hy e => by
              have := inc_lt HI.out hy HSP.out hk; omega
            have HCS := Hid.of hcs
            have hl3 := B3.out.size
            clear hlT hsp hpos hxm hcs
            go_wp2
            go_loopw [13] (fun kk wr' => ∃ k q : Nat, k ≤ pos ∧ kk = .int .i64 k ∧ wr' = wr.drewN q) (fun kk _ => pos - (intOf kk).toNat)
            case atStart => exact ⟨0, 0, by omega, rfl, rfl⟩
            case round =>
              obtain ⟨k, q, hk, rfl, rfl⟩ := hrel
              have hkl : k < seen.length := by omega
              have hkI : (k : Int) < (seen.length : Int) := by omega
              have hkb : k < 17592186044416 := by have := hsl.out; omega
              have hk0 : (0 : Int) ≤ (k : Int) := by omega
              have hi0 : (0 : Int) ≤ (i : Int) := by omega
              have hiI : (i : Int) < (n : Int) := by omega
              obtain ⟨y, HY, cy0⟩ := HCS.out.at hkl
              have cy : wr.cell? ⟨bs, os + k, none⟩ = some (.int .i64 y) := (BW.out.cell (p := ⟨bs, os + k, none⟩) hbs).trans cy0
              have cx : wr.cell? ⟨gl, i, none⟩ = some (.int .i64 x) := cx0
              have hys : seen[k]? = some y := by
                have := HY.out
                rw [List.getElem?_eq_getElem hkl, Option.getD_some] at this
                rw [this]; exact List.getElem?_eq_getElem hkl
              clear cy0
              by_cases hkp : k < pos
              · have hyx : ¬ y = x := HNE.out k hkp y hys
                clear hys HY
                go_wp2
                refine wp_region_held_drew (S := fun w' => w'.cell? ⟨bs, os + k, none⟩ = some (.int .i64 y) ∧ w'.cell? ⟨gl, i, none⟩ = some (.int .i64 x)) (by kernel_rfl) ⟨cy, cx⟩ (fun hS => ?_)
                refine wpAnyH_take (i := 0) (v := .int .i64 k) rfl (by kernel_rfl) (by kernel_rfl) (by kernel_rfl) (fun _ _ _ h => h) (Or.inl ⟨by kernel_rfl, fun w' hw' => by obtain ⟨q0, q1⟩ := hw'; go_simp⟩) hS ?_
                refine wpAnyH_take (i := 1) (v := .slice (some ⟨bs, os, none⟩) seen.length sc) rfl (by kernel_rfl) (by kernel_rfl) (by kernel_rfl) (fun _ _ _ h => h) (Or.inl ⟨by kernel_rfl, fun w' hw' => by obtain ⟨q0, q1⟩ := hw'; go_simp⟩) hS ?_
                refine wpAnyH_take (i := 2) (v := .int .i64 seen.length) rfl (by kernel_rfl) (by kernel_rfl) (by kernel_rfl) (fun _ _ _ h => h) (Or.inl ⟨by kernel_rfl, fun w' hw' => by obtain ⟨q0, q1⟩ := hw'; go_simp⟩) hS ?_
                refine wpAnyH_take (i := 3) (v := .bool true) rfl (by kernel_rfl) (by kernel_rfl) (by kernel_rfl) (fun _ _ _ h => h) (Or.inl ⟨by kernel_rfl, fun w' hw' => by obtain ⟨q0, q1⟩ := hw'; go_simp⟩) hS ?_
                refine wpAnyH_take (i := 4) (v := .bool true) rfl (by kernel_rfl) (by kernel_rfl) (by kernel_rfl) (fun _ _ _ h => h) (Or.inl ⟨by kernel_rfl, fun w' hw' => by obtain ⟨q0, q1⟩ := hw'; go_simp⟩) hS ?_
                refine wpAnyH_take (i := 5) (v := .slice (some ⟨bs, os, none⟩) seen.length sc) rfl (by kernel_rfl) (by kernel_rfl) (by kernel_rfl) (fun _ _ _ h => h) (Or.inl ⟨by kernel_rfl, fun w' hw' => by obtain ⟨q0, q1⟩ := hw'; go_simp⟩) hS ?_
                refine wpAnyH_take (i := 6) (v := .int .i64 k) rfl (by kernel_rfl) (by kernel_rfl) (by kernel_rfl) (fun _ _ _ h => h) (Or.inl ⟨by kernel_rfl, fun w' hw' => by obtain ⟨q0, q1⟩ := hw'; go_simp⟩) hS ?_
                refine wpAnyH_take (i := 7) (v := .pointer (some ⟨bs, os + k, none⟩)) rfl (by kernel_rfl) (by kernel_rfl) (by kernel_rfl) (fun _ _ _ h => h) (Or.inl ⟨by kernel_rfl, fun w' hw' => by obtain ⟨q0, q1⟩ := hw'; go_simp⟩) hS ?_
                refine wpAnyH_take (i := 8) (v := .int .i64 y) rfl (by kernel_rfl) (by kernel_rfl) (by kernel_rfl) (fun _ _ _ h => h) (Or.inl ⟨by kernel_rfl, fun w' hw' => by obtain ⟨q0, q1⟩ := hw'; go_simp⟩) hS ?_
                refine wpAnyH_take (i := 9) (v := .slice (some ⟨gl, 0, none⟩) n lc) rfl (by kernel_rfl) (by kernel_rfl) (by kernel_rfl) (fun _ _ _ h => h) (Or.inl ⟨by kernel_rfl, fun w' hw' => by obtain ⟨q0, q1⟩ := hw'; go_simp⟩) hS ?_
                refine wpAnyH_take (i := 10) (v := .int .i64 i) rfl (by kernel_rfl) (by kernel_rfl) (by kernel_rfl) (fun _ _ _ h => h) (Or.inl ⟨by kernel_rfl, fun w' hw' => by obtain ⟨q0, q1⟩ := hw'; go_simp⟩) hS ?_
                refine wpAnyH_take (i := 11) (v := .pointer (some ⟨gl, i, none⟩)) rfl (by kernel_rfl) (by kernel_rfl) (by kernel_rfl) (fun _ _ _ h => h) (Or.inl ⟨by kernel_rfl, fun w' hw' => by obtain ⟨q0, q1⟩ := hw'; go_simp⟩) hS ?_
                refine wpAnyH_take (i := 12) (v := .int .i64 x) rfl (by kernel_rfl) (by kernel_rfl) (by kernel_rfl) (fun _ _ _ h => h) (Or.inl ⟨by kernel_rfl, fun w' hw' => by obtain ⟨q0, q1⟩ := hw'; go_simp⟩) hS ?_
                refine wpAnyH_take (i := 13) (v := .bool true) rfl (by kernel_rfl) (by kernel_rfl) (by kernel_rfl) (fun _ _ _ h => h) (Or.inl ⟨by kernel_rfl, fun w' hw' => by obtain ⟨q0, q1⟩ := hw'; go_simp⟩) hS ?_
                refine wpAnyH_take (i := 14) (v := .bool true) rfl (by kernel_rfl) (by kernel_rfl) (by kernel_rfl) (fun _ _ _ h => h) (Or.inl ⟨by kernel_rfl, fun w' hw' => by obtain ⟨q0, q1⟩ := hw'; go_simp⟩) hS ?_
                refine wpAnyH_done (by kernel_rfl) ?_ _
                simp only [Act.put, List.setIfInBounds_toArray, List.set_cons_succ, List.set_cons_zero, List.getElem_toArray, List.getElem_cons_succ, List.getElem_cons_zero]
                go_wp2
                go_roundw
                case rel => exact ⟨k + 1, q + 1, by omega, by go_num, rfl⟩
                case measure => simp [intOf]; omega
              · have hkp2 : pos = k := by omega
                subst hkp2
                have hyx : y = x := by
                  have := HSP.out
                  rw [hys] at this
                  exact Option.some.inj this
                subst hyx
                clear hys HY
                have OS := Hid.of ((show Own (wr.drewN q).drew w3.heap.size _ _ from OL.out).stored i (placeI seen y))
                rw [HX.out, numTo_set hiS, ← HX.out, HP.out] at OS
                have BS := Hid.of ((below_drewN BL.out q).drew.setCell (p := ⟨gl, i, none⟩) hBg (.int .i64 (pos : Int)))
                go_wp2
                refine wp_region_held_drew (S := fun w' => w'.cell? ⟨bs, os + pos, none⟩ = some (.int .i64 y) ∧ w'.cell? ⟨gl, i, none⟩ = some (.int .i64 y)) (by kernel_rfl) ⟨cy, cx⟩ (fun hS => ?_)
                refine wpAnyH_take (i := 0) (v := .int .i64 pos) rfl (by kernel_rfl) (by kernel_rfl) (by kernel_rfl) (fun _ _ _ h => h) (Or.inl ⟨by kernel_rfl, fun w' hw' => by obtain ⟨q0, q1⟩ := hw'; go_simp⟩) hS ?_
                refine wpAnyH_take (i := 1) (v := .slice (some ⟨bs, os, none⟩) seen.length sc) rfl (by kernel_rfl) (by kernel_rfl) (by kernel_rfl) (fun _ _ _ h => h) (Or.inl ⟨by kernel_rfl, fun w' hw' => by obtain ⟨q0, q1⟩ := hw'; go_simp⟩) hS ?_
                refine wpAnyH_take (i := 2) (v := .int .i64 seen.length) rfl (by kernel_rfl) (by kernel_rfl) (by kernel_rfl) (fun _ _ _ h => h) (Or.inl ⟨by kernel_rfl, fun w' hw' => by obtain ⟨q0, q1⟩ := hw'; go_simp⟩) hS ?_
                refine wpAnyH_take (i := 3) (v := .bool true) rfl (by kernel_rfl) (by kernel_rfl) (by kernel_rfl) (fun _ _ _ h => h) (Or.inl ⟨by kernel_rfl, fun w' hw' => by obtain ⟨q0, q1⟩ := hw'; go_simp⟩) hS ?_
                refine wpAnyH_take (i := 4) (v := .bool true) rfl (by kernel_rfl) (by kernel_rfl) (by kernel_rfl) (fun _ _ _ h => h) (Or.inl ⟨by kernel_rfl, fun w' hw' => by obtain ⟨q0, q1⟩ := hw'; go_simp⟩) hS ?_
                refine wpAnyH_take (i := 5) (v := .slice (some ⟨bs, os, none⟩) seen.length sc) rfl (by kernel_rfl) (by kernel_rfl) (by kernel_rfl) (fun _ _ _ h => h) (Or.inl ⟨by kernel_rfl, fun w' hw' => by obtain ⟨q0, q1⟩ := hw'; go_simp⟩) hS ?_
                refine wpAnyH_take (i := 6) (v := .int .i64 pos) rfl (by kernel_rfl) (by kernel_rfl) (by kernel_rfl) (fun _ _ _ h => h) (Or.inl ⟨by kernel_rfl, fun w' hw' => by obtain ⟨q0, q1⟩ := hw'; go_simp⟩) hS ?_
                refine wpAnyH_take (i := 7) (v := .pointer (some ⟨bs, os + pos, none⟩)) rfl (by kernel_rfl) (by kernel_rfl) (by kernel_rfl) (fun _ _ _ h => h) (Or.inl ⟨by kernel_rfl, fun w' hw' => by obtain ⟨q0, q1⟩ := hw'; go_simp⟩) hS ?_
                refine wpAnyH_take (i := 8) (v := .int .i64 y) rfl (by kernel_rfl) (by kernel_rfl) (by kernel_rfl) (fun _ _ _ h => h) (Or.inl ⟨by kernel_rfl, fun w' hw' => by obtain ⟨q0, q1⟩ := hw'; go_simp⟩) hS ?_
                refine wpAnyH_take (i := 9) (v := .slice (some ⟨gl, 0, none⟩) n lc) rfl (by kernel_rfl) (by kernel_rfl) (by kernel_rfl) (fun _ _ _ h => h) (Or.inl ⟨by kernel_rfl, fun w' hw' => by obtain ⟨q0, q1⟩ := hw'; go_simp⟩) hS ?_
                refine wpAnyH_take (i := 10) (v := .int .i64 i) rfl (by kernel_rfl) (by kernel_rfl) (by kernel_rfl) (fun _ _ _ h => h) (Or.inl ⟨by kernel_rfl, fun w' hw' => by obtain ⟨q0, q1⟩ := hw'; go_simp⟩) hS ?_
                refine wpAnyH_take (i := 11) (v := .pointer (some ⟨gl, i, none⟩)) rfl (by kernel_rfl) (by kernel_rfl) (by kernel_rfl) (fun _ _ _ h => h) (Or.inl ⟨by kernel_rfl, fun w' hw' => by obtain ⟨q0, q1⟩ := hw'; go_simp⟩) hS ?_
                refine wpAnyH_take (i := 12) (v := .int .i64 y) rfl (by kernel_rfl) (by kernel_rfl) (by kernel_rfl) (fun _ _ _ h => h) (Or.inl ⟨by kernel_rfl, fun w' hw' => by obtain ⟨q0, q1⟩ := hw'; go_simp⟩) hS ?_
                refine wpAnyH_take (i := 13) (v := .bool false) rfl (by kernel_rfl) (by kernel_rfl) (by kernel_rfl) (fun _ _ _ h => h) (Or.inl ⟨by kernel_rfl, fun w' hw' => by obtain ⟨q0, q1⟩ := hw'; go_simp⟩) hS ?_
                refine wpAnyH_take (i := 14) (v := .bool false) rfl (by kernel_rfl) (by kernel_rfl) (by kernel_rfl) (fun _ _ _ h => h) (Or.inl ⟨by kernel_rfl, fun w' hw' => by obtain ⟨q0, q1⟩ := hw'; go_simp⟩) hS ?_
                refine wpAnyH_done (by kernel_rfl) ?_ _
                simp only [Act.put, List.setIfInBounds_toArray, List.set_cons_succ, List.set_cons_zero, List.getElem_toArray, List.getElem_cons_succ, List.getElem_cons_zero]
                go_wp2
                go_roundw
                case rel => exact ⟨i + 1, by omega, by go_num, OS, BS⟩
                case measure => simp [intOf]; omega
          · rw [numTo_end (by rw [HN.out]; exact hit)] at OL
            obtain ⟨a', c', e', hat, hlen'⟩ := OL.out.at
            simp only [Value.slice.injEq] at e'
            obtain ⟨rfl, hn', rfl⟩ := e'
            have BW := B3.out.trans (BL.out.mono B3.out.size)
            have N5 := N3.out.below BL.out N3.out.lt
            have MT5 := MT3.out.below BL.out (Nat.le_refl _)
            have hacc := pAccepts_ok H L la lc (numL seen word) wr MT5 (Hid.of (hT.out.below BW hT.out.lt)) HMAY (Hid.of hat) (Hid.of hlen') (by show _ = _; rw [HEV.out]; exact num_word seen word)
            rw [← hn'] at hacc
            have HACC := Hid.of hacc
            have HBW := Hid.of BW
            obtain ⟨y0, y1, y2, y3, y4⟩ := mcell_at N5
            clear hacc hat hlen' hn' BW MT5 N5
            go_wp2_with fail
            refine HACC.out.mono ?_
            rintro e w6 ⟨rfl, hb6⟩
            have B6 := Hid.of (HBW.out.trans (hb6.mono HBW.out.size))
            clear hb6 HACC
            cases p with
            | false =>
              go_wp2
              go_ret
              exact ⟨rfl, B6.out⟩
            | true =>
              rw [HSE.out rfl]
              go_wp2
              go_ret
              exact ⟨rfl, B6.out⟩
    · rw [if_neg hfit] at h1
      obtain ⟨rfl, hb1⟩ := h1
      have B1 := Hid.of (B0.out.trans (hb1.mono B0.out.size))
      have B2 := Hid.of (B1.out.alloc B1.out.size (.cells (mcells m0 ml0) 25))
      have n0 : (w1.alloc (.cells (mcells m0 ml0) 25)).cell? ⟨w1.heap.size, 0, none⟩ = some (.int .i64 0) := (Blk.new w1 25 (mcells m0 ml0)).cell 0 rfl
      clear hb1 hfit
      go_wp2
      go_ret
      exact ⟨rfl, B2.out⟩

end Go.Proofs.YtdnglodemkeooaaDoor
