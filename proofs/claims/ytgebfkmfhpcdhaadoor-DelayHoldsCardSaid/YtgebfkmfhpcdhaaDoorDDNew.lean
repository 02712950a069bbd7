/-
  The walk of diagnose.newWatcher.
-/
import Derived.Deep.RegionHeld3
import Derived.Laws.Tables
import Derived.Test.YtgebfkmfhpcdhaaDoorH22
import Derived.Test.YtgebfkmfhpcdhaaDoorH07
import Derived.Test.YtgebfkmfhpcdhaaDoorH05
import Derived.Test.YtgebfkmfhpcdhaaDoorH15
import Derived.Test.YtgebfkmfhpcdhaaDoorH13
namespace Go.Proofs.YtgebfkmfhpcdhaaDoor
open Go.RowKit
set_option linter.unusedVariables false

/-- Which operations are done, written out. -/
theorem wpAnyH_at {P : Program} {md : Region.Mode} {ops : Array Oper} {Q : Exit → Act → World → Prop} {S : World → Prop} {fuel : Nat} {listed listed' : Array Bool} {a : Act} {w : World} (h : listed = listed') (hw : wpAnyH P md ops Q S fuel listed' a w) : wpAnyH P md ops Q S fuel listed a w := h ▸ hw
/-- The watcher as it is laid. -/
abbrev zcD (Z : Array Value) (m : Mach) (l : ML) (r : Nat) : Array Value := ((((((Z.setIfInBounds 0 (.int .i64 m.st)).setIfInBounds 1 (.int .i64 m.ev)).setIfInBounds 2 (.slice l.a1 m.starts.length l.c1)).setIfInBounds 3 (.slice l.a2 m.arrows.length l.c2)).setIfInBounds 4 (.slice l.a3 m.ends.length l.c3)).setIfInBounds 405 (.map (some r)))
set_option maxRecDepth 100000 in
theorem zcD_is (m : Mach) (l : ML) (r : Nat) : zcD Tryd.zeroCells195 m l r = ((List.range 407).map (wclD m l (fun _ => false) (fun _ => false) (fun _ => zeroS) (fun _ => zeroS) (.map (some r)) (.slice none 0 0))).toArray := by kernel_rfl
theorem zcD_size (m : Mach) (l : ML) (r : Nat) : (zcD Tryd.zeroCells195 m l r).size = 407 := by rw [zcD_is]; simp
theorem zcD_at (m : Mach) (l : ML) (r : Nat) {j : Nat} (h : j < 407) : (zcD Tryd.zeroCells195 m l r)[j]? = some (wclD m l (fun _ => false) (fun _ => false) (fun _ => zeroS) (fun _ => zeroS) (.map (some r)) (.slice none 0 0) j) := by
  rw [zcD_is, List.getElem?_toArray, List.getElem?_map, List.getElem?_range h]; rfl
/-- What is told of the first events. -/
def pF (xs : List Int) (k : Nat) : Nat → Bool := fun i => if i < k then hasB xs (i : Int) else false
theorem pF_zero (xs : List Int) : pF xs 0 = fun _ => false := by funext i; unfold pF; rw [if_neg (by omega)]
theorem pF_next (xs : List Int) (k : Nat) : (fun i => if i = k then hasB xs (k : Int) else pF xs k i) = pF xs (k + 1) := by
  funext i
  unfold pF
  by_cases e : i = k
  · subst e; rw [if_pos rfl, if_pos (by omega)]
  · rw [if_neg e]
    by_cases q : i < k
    · rw [if_pos q, if_pos (by omega)]
    · rw [if_neg q, if_neg (by omega)]
theorem heap_set4D (W : World) {p r : Nat} (h : r ≠ p) (j : Nat) (v0 v1 v2 v3 : Value) : ((((W.setCell ⟨p, j, none⟩ v0).setCell ⟨p, j + 1, none⟩ v1).setCell ⟨p, j + 2, none⟩ v2).setCell ⟨p, j + 3, none⟩ v3).heap[r]? = W.heap[r]? :=
  (((Below.heap_setCell _ _ _ r h).trans (Below.heap_setCell _ _ _ r h)).trans (Below.heap_setCell _ _ _ r h)).trans (Below.heap_setCell _ _ _ r h)
theorem fltA_yes {faults : List Int} {ars : List Arr} {j : Nat} {a : Arr} (h : ars[j]? = some a) (hh : hasB faults a.e = true) : fltA faults (ars.take (j + 1)) = fltA faults (ars.take j) := by
  unfold fltA
  rw [List.take_add_one, h, List.filter_append]; simp [hh]
theorem fltA_no {faults : List Int} {ars : List Arr} {j : Nat} {a : Arr} (h : ars[j]? = some a) (hh : hasB faults a.e = false) : fltA faults (ars.take (j + 1)) = fltA faults (ars.take j) ++ [a] := by
  unfold fltA
  rw [List.take_add_one, h, List.filter_append]; simp [hh]
theorem tabStep_is {T : Nat → Nat → Nat} {a : Arr} {f e t : Nat} (h1 : a.f = (f : Int)) (h2 : a.e = (e : Int)) (h3 : a.t = (t : Int)) : tabStep 8 T a = fun q => if q = f * 8 + e then withS (T (f * 8 + e)) t else T q := by
  funext q
  unfold tabStep
  rw [h1, h2, h3, Int.toNat_natCast, Int.toNat_natCast, Int.toNat_natCast]
  by_cases c : q = f * 8 + e
  · rw [if_pos c, if_pos c, c]
  · rw [if_neg c, if_neg c]

set_option maxRecDepth 100000 in
set_option maxHeartbeats 8000000 in
theorem newW_go (st ev : Nat) (starts : List Int) (ars : List Arr) (ends : List Int) (a1 : Option Addr) (c1 : Nat) (a2 : Option Addr) (c2 : Nat) (a3 : Option Addr) (c3 : Nat) (sa : Option Addr) (sc : Nat) (seen : List Int) (fa : Option Addr) (fc : Nat) (faults : List Int) (w : World) (h : Hid (MAt w ⟨(st : Int), (ev : Int), starts, ars, ends⟩ ⟨a1, c1, a2, c2, a3, c3⟩)) (HI : Hid (∀ a ∈ ars, arrIn st ev a)) (hst : st ≤ 6) (hev : ev ≤ 8) (hlen : ars.length ≤ 4096) (hs : Hid (At w sa seen)) (hsl : Hid (seen.length ≤ maxLen)) (hf : Hid (At w fa faults)) (hfl : Hid (faults.length ≤ maxLen)) :
    Calls Tryd.prog 100 #[mval ⟨(st : Int), (ev : Int), starts, ars, ends⟩ ⟨a1, c1, a2, c2, a3, c3⟩, .slice sa seen.length sc, .slice fa faults.length fc] w fun e w' => ∃ p r, e = .returned (.pointer (some ⟨p, 0, none⟩)) ∧ DW w' w.heap.size p r ⟨(st : Int), (ev : Int), starts, ars, ends⟩ ⟨a1, c1, a2, c2, a3, c3⟩ (pF seen ev) (pF faults ev) (tabS 8 ars) (tabS 8 (fltA faults ars)) (.slice none 0 0) ([], []) ∧ Below w.heap.size w w' := by
  have hmm := @run_makeMap Tryd.prog
  have HB : Hid (Below w.heap.size w (((w.alloc (.cells (mcells ⟨(st : Int), (ev : Int), starts, ars, ends⟩ ⟨a1, c1, a2, c2, a3, c3⟩) 25)).alloc (.map #[] 0)).alloc (.cells (zcD Tryd.zeroCells195 ⟨(st : Int), (ev : Int), starts, ars, ends⟩ ⟨a1, c1, a2, c2, a3, c3⟩ (w.heap.size + 1)) 195))) := (((Below.refl _ _).alloc (Nat.le_refl _) _).alloc (by simp) _).alloc (by simp; omega) _
  have HM : Hid ((((w.alloc (.cells (mcells ⟨(st : Int), (ev : Int), starts, ars, ends⟩ ⟨a1, c1, a2, c2, a3, c3⟩) 25)).alloc (.map #[] 0)).alloc (.cells (zcD Tryd.zeroCells195 ⟨(st : Int), (ev : Int), starts, ars, ends⟩ ⟨a1, c1, a2, c2, a3, c3⟩ (w.heap.size + 1)) 195)).heap[w.heap.size + 1]? = some (.map #[] 0)) := by
    show _ = _
    rw [heap_alloc_old _ _ (by simp), show w.heap.size + 1 = (w.alloc (.cells (mcells ⟨(st : Int), (ev : Int), starts, ars, ends⟩ ⟨a1, c1, a2, c2, a3, c3⟩) 25)).heap.size by simp]
    exact heap_alloc_new _ _
  have HW : Hid (WtB (((w.alloc (.cells (mcells ⟨(st : Int), (ev : Int), starts, ars, ends⟩ ⟨a1, c1, a2, c2, a3, c3⟩) 25)).alloc (.map #[] 0)).alloc (.cells (zcD Tryd.zeroCells195 ⟨(st : Int), (ev : Int), starts, ars, ends⟩ ⟨a1, c1, a2, c2, a3, c3⟩ (w.heap.size + 1)) 195)) (w.heap.size + 1 + 1) ⟨(st : Int), (ev : Int), starts, ars, ends⟩ ⟨a1, c1, a2, c2, a3, c3⟩ (pF seen 0) (pF faults 0) (fun _ => zeroS) (fun _ => zeroS) (.map (some (w.heap.size + 1))) (.slice none 0 0)) := by
    rw [pF_zero, pF_zero]
    refine ⟨_, ?_, zcD_size _ _ _, fun j hj => zcD_at _ _ _ hj⟩
    have := Blk.new ((w.alloc (.cells (mcells ⟨(st : Int), (ev : Int), starts, ars, ends⟩ ⟨a1, c1, a2, c2, a3, c3⟩) 25)).alloc (.map #[] 0)) 195 (zcD Tryd.zeroCells195 ⟨(st : Int), (ev : Int), starts, ars, ends⟩ ⟨a1, c1, a2, c2, a3, c3⟩ (w.heap.size + 1))
    rwa [World.size_alloc, World.size_alloc] at this
  have c1_ := (WtB.mach HW.out).2.1
  go_enter Tryd.func100, Tryd.ntmps100
  go_wp2_with fail
  clear hmm c1_
  have HP : Hid (w.heap.size ≤ w.heap.size + 1 + 1) := by show _ ≤ _; omega
  have HPR : Hid (w.heap.size + 1 ≠ w.heap.size + 1 + 1) := by show _ ≠ _; omega
  have HR : Hid (w.heap.size ≤ w.heap.size + 1) := by show _ ≤ _; omega
  revert HB HM HW HP HPR HR
  generalize (((w.alloc (.cells (mcells ⟨(st : Int), (ev : Int), starts, ars, ends⟩ ⟨a1, c1, a2, c2, a3, c3⟩) 25)).alloc (.map #[] 0)).alloc (.cells (zcD Tryd.zeroCells195 ⟨(st : Int), (ev : Int), starts, ars, ends⟩ ⟨a1, c1, a2, c2, a3, c3⟩ (w.heap.size + 1)) 195)) = X0
  generalize w.heap.size + 1 + 1 = p
  generalize w.heap.size + 1 = r
  intro HB HM HW HP HPR HR
  go_loopw [20] (fun i wr => ∃ k : Nat, k ≤ ev ∧ i = .int .i64 (k : Int) ∧ Hid (WtB wr p ⟨(st : Int), (ev : Int), starts, ars, ends⟩ ⟨a1, c1, a2, c2, a3, c3⟩ (pF seen k) (pF faults k) (fun _ => zeroS) (fun _ => zeroS) (.map (some r)) (.slice none 0 0)) ∧ Hid (wr.heap[r]? = some (.map #[] 0)) ∧ Hid (Below w.heap.size w wr)) (fun i _ => ev - (intOf i).toNat)
  case atStart => exact ⟨0, Nat.zero_le _, rfl, HW, HM, HB⟩
  case round =>
    clear HW HM HB
    obtain ⟨k, hk, rfl, HW, HM, HB⟩ := hrel
    by_cases hlt : k < ev
    · have hkD : decide ((k : Int) < (ev : Int)) = true := by simp; omega
      have hk0 : (0 : Int) ≤ (k : Int) := by omega
      have hk8 : (k : Int) < 8 := by omega
      go_wp2_with fail
      refine wp_region_held_drew (S := fun w' => True) (by kernel_rfl) trivial (fun hS => ?_)
      replace HW := Hid.of (RowC.same HW.out (W' := wr.drew) rfl)
      replace HM : Hid (wr.drew.heap[r]? = some (.map #[] 0)) := HM.out
      replace HB := Hid.of HB.out.drew
      revert hS HW HM HB
      generalize wr.drew = Y0
      intro hS HW HM HB
      refine wpAnyH_take (i := 0) (v := .pointer (some ⟨p, 0, none⟩)) rfl (by kernel_rfl) (by kernel_rfl) (by kernel_rfl) (fun _ _ _ h => h) (Or.inl ⟨by kernel_rfl, fun w' hw' => by go_simp⟩) hS ?_
      refine wpAnyH_take (i := 1) (v := .int .i64 (k : Int)) rfl (by kernel_rfl) (by kernel_rfl) (by kernel_rfl) (fun _ _ _ h => h) (Or.inl ⟨by kernel_rfl, fun w' hw' => by go_simp⟩) hS ?_
      refine wpAnyH_take (i := 2) (v := .pointer (some ⟨p, 0, none⟩)) rfl (by kernel_rfl) (by kernel_rfl) (by kernel_rfl) (fun _ _ _ h => h) (Or.inl ⟨by kernel_rfl, fun w' hw' => by go_simp⟩) hS ?_
      refine wpAnyH_take (i := 3) (v := .int .i64 (k : Int)) rfl (by kernel_rfl) (by kernel_rfl) (by kernel_rfl) (fun _ _ _ h => h) (Or.inl ⟨by kernel_rfl, fun w' hw' => by go_simp⟩) hS ?_
      refine wpAnyH_take (i := 4) (v := .slice sa seen.length sc) rfl (by kernel_rfl) (by kernel_rfl) (by kernel_rfl) (fun _ _ _ h => h) (Or.inl ⟨by kernel_rfl, fun w' hw' => by go_simp⟩) hS ?_
      refine wpAnyH_take (i := 5) (v := .int .i64 (k : Int)) rfl (by kernel_rfl) (by kernel_rfl) (by kernel_rfl) (fun _ _ _ h => h) (Or.inl ⟨by kernel_rfl, fun w' hw' => by go_simp⟩) hS ?_
      refine wpAnyH_take (i := 7) (v := .slice fa faults.length fc) rfl (by kernel_rfl) (by kernel_rfl) (by kernel_rfl) (fun _ _ _ h => h) (Or.inl ⟨by kernel_rfl, fun w' hw' => by go_simp⟩) hS ?_
      refine wpAnyH_take (i := 8) (v := .int .i64 (k : Int)) rfl (by kernel_rfl) (by kernel_rfl) (by kernel_rfl) (fun _ _ _ h => h) (Or.inl ⟨by kernel_rfl, fun w' hw' => by go_simp⟩) hS ?_
      refine wpAnyH_take (i := 10) (v := .pointer (some ⟨p, 0, none⟩)) rfl (by kernel_rfl) (by kernel_rfl) (by kernel_rfl) (fun _ _ _ h => h) (Or.inl ⟨by kernel_rfl, fun w' hw' => by go_simp⟩) hS ?_
      refine wpAnyH_take (i := 11) (v := .pointer (some ⟨p, 5, none⟩)) rfl (by kernel_rfl) (by kernel_rfl) (by kernel_rfl) (fun _ _ _ h => h) (Or.inl ⟨by kernel_rfl, fun w' hw' => by go_simp⟩) hS ?_
      refine wpAnyH_take (i := 14) (v := .pointer (some ⟨p, 0, none⟩)) rfl (by kernel_rfl) (by kernel_rfl) (by kernel_rfl) (fun _ _ _ h => h) (Or.inl ⟨by kernel_rfl, fun w' hw' => by go_simp⟩) hS ?_
      refine wpAnyH_take (i := 15) (v := .pointer (some ⟨p, 13, none⟩)) rfl (by kernel_rfl) (by kernel_rfl) (by kernel_rfl) (fun _ _ _ h => h) (Or.inl ⟨by kernel_rfl, fun w' hw' => by go_simp⟩) hS ?_
      simp only [Act.put, List.setIfInBounds_toArray]
      refine wpAnyH_ready (rs := [6]) (by kernel_rfl) (by simp) ?_
      refine AllReadyH.cons rfl (fun K' hK' => ?_) AllReadyH.nil
      clear hS
      go_simp
      refine (rowHas_any sa sc seen (k : Int) Y0 (hs.out.below HB.out (Nat.le_refl _)) hsl.out).mono ?_
      rintro e1 Y1 ⟨rfl, rfl⟩
      refine hK'.out _ _ trivial (fun hS => ?_)
      clear hK' K'
      refine wpAnyH_ready (rs := [9]) (by kernel_rfl) (by simp) ?_
      refine AllReadyH.cons rfl (fun K' hK' => ?_) AllReadyH.nil
      clear hS
      go_simp
      refine (rowHas_any fa fc faults (k : Int) Y1 (hf.out.below HB.out (Nat.le_refl _)) hfl.out).mono ?_
      rintro e1 Y2 ⟨rfl, rfl⟩
      refine hK'.out _ _ trivial (fun hS => ?_)
      clear hK' K'
      refine wpAnyH_take (i := 12) (v := .pointer (some ⟨p, 5 + k, none⟩)) rfl (by kernel_rfl) (by kernel_rfl) (by kernel_rfl) (fun _ _ _ h => h) (Or.inl ⟨by kernel_rfl, fun w' hw' => by go_simp⟩) hS ?_
      refine wpAnyH_ready (rs := [13]) (by kernel_rfl) (by simp) ?_
      refine AllReadyH.cons rfl (fun K' hK' => ?_) AllReadyH.nil
      clear hS
      have fz := WtB.frozen HW.out (5 + k)
      have cz := WtB.seen HW.out (e := k) (by omega)
      go_simp
      replace HW := Hid.of (WtB.setS HW.out (e := k) (by omega) (hasB seen (k : Int)))
      replace HM : Hid ((Y2.setCell ⟨p, 5 + k, none⟩ (.bool (hasB seen (k : Int)))).heap[r]? = some (.map #[] 0)) := (Below.heap_setCell _ _ _ r HPR.out).trans HM.out
      replace HB := Hid.of (HB.out.setCell (p := ⟨p, 5 + k, none⟩) HP.out (.bool (hasB seen (k : Int))))
      refine hK'.out _ _ trivial (fun hS => ?_)
      clear hK' K' fz cz
      revert HW HM HB
      generalize Y2.setCell ⟨p, 5 + k, none⟩ (.bool (hasB seen (k : Int))) = Y3
      intro HW HM HB
      refine wpAnyH_take (i := 16) (v := .pointer (some ⟨p, 13 + k, none⟩)) rfl (by kernel_rfl) (by kernel_rfl) (by kernel_rfl) (fun _ _ _ h => h) (Or.inl ⟨by kernel_rfl, fun w' hw' => by go_simp⟩) hS ?_
      refine wpAnyH_ready (rs := [17]) (by kernel_rfl) (by simp) ?_
      refine AllReadyH.cons rfl (fun K' hK' => ?_) AllReadyH.nil
      clear hS
      have fz := WtB.frozen HW.out (13 + k)
      have cz := WtB.flt HW.out (e := k) (by omega)
      go_simp
      replace HW := Hid.of (WtB.setF HW.out (e := k) (by omega) (hasB faults (k : Int)))
      replace HM : Hid ((Y3.setCell ⟨p, 13 + k, none⟩ (.bool (hasB faults (k : Int)))).heap[r]? = some (.map #[] 0)) := (Below.heap_setCell _ _ _ r HPR.out).trans HM.out
      replace HB := Hid.of (HB.out.setCell (p := ⟨p, 13 + k, none⟩) HP.out (.bool (hasB faults (k : Int))))
      refine hK'.out _ _ trivial (fun hS => ?_)
      clear hK' K' fz cz
      revert HW HM HB
      generalize Y3.setCell ⟨p, 13 + k, none⟩ (.bool (hasB faults (k : Int))) = Y4
      intro HW HM HB
      refine wpAnyH_done (by kernel_rfl) ?_ _
      clear hS
      rw [pF_next, pF_next] at HW
      go_wp2_with fail
      go_roundw
      case rel => exact ⟨k + 1, by omega, by go_num, HW, HM, HB⟩
      case measure => simp [intOf]; omega
    · have hke : ev = k := by omega
      subst hke
      have hkD : decide ((ev : Int) < (ev : Int)) = false := by simp
      clear hlt hk
      have c3_ := (WtB.mach HW.out).2.2.2.1
      go_wp2_with fail
      clear c3_
      go_loopw [46] (fun i wr => ∃ k : Nat, k ≤ ars.length ∧ i = .int .i64 (k : Int) ∧ Hid (WtB wr p ⟨(st : Int), (ev : Int), starts, ars, ends⟩ ⟨a1, c1, a2, c2, a3, c3⟩ (pF seen ev) (pF faults ev) (tabS 8 (ars.take k)) (tabS 8 (fltA faults (ars.take k))) (.map (some r)) (.slice none 0 0)) ∧ Hid (wr.heap[r]? = some (.map #[] 0)) ∧ Hid (Below w.heap.size w wr)) (fun i _ => ars.length - (intOf i).toNat)
      case atStart => exact ⟨0, Nat.zero_le _, rfl, HW, HM, HB⟩
      case round =>
        clear HW HM HB
        obtain ⟨k, hk, rfl, HW, HM, HB⟩ := hrel
        by_cases hlt : k < ars.length
        · rcases h.out.a with h0 | ⟨b, off, hab, hbl, hca⟩
          · have h0 : ars = [] := h0
            rw [h0] at hlt; simp at hlt
          dsimp only at hab hca
          subst hab
          obtain ⟨a, HA, x1, x2, x3⟩ := hca.at hlt
          have HAR : Hid (ars[k]? = some a) := by show _ = _; rw [HA.out, List.getElem?_eq_getElem hlt, Option.getD_some]
          have hia := HI.out a (List.mem_of_getElem? HAR.out)
          unfold arrIn at hia
          obtain ⟨f, ef⟩ : ∃ f : Nat, a.f = (f : Int) := ⟨a.f.toNat, by omega⟩
          obtain ⟨e, ee⟩ : ∃ e : Nat, a.e = (e : Int) := ⟨a.e.toNat, by omega⟩
          obtain ⟨t, et⟩ : ∃ t : Nat, a.t = (t : Int) := ⟨a.t.toNat, by omega⟩
          rw [ef] at x1
          rw [ee] at x2
          rw [et] at x3
          have hf6 : f < 6 := by omega
          have he8 : e < 8 := by omega
          have hee : e < ev := by omega
          have ht : t < 256 := by omega
          have hf0 : (0 : Int) ≤ (f : Int) := by omega
          have hf6I : (f : Int) < 6 := by omega
          have he0 : (0 : Int) ≤ (e : Int) := by omega
          have he8I : (e : Int) < 8 := by omega
          obtain ⟨fb, HFB⟩ : ∃ fb, Hid (fb = hasB faults (e : Int)) := ⟨_, rfl⟩
          have HFE : Hid (pF faults ev e = fb) := by show _ = _; unfold pF; rw [if_pos hee, HFB.out]
          obtain ⟨U10, HU10⟩ : ∃ U, Hid (U = tabS 8 (ars.take k) (f * 8 + e)) := ⟨_, rfl⟩
          obtain ⟨V10, HV10⟩ : ∃ V, Hid (V = withS U10 t) := ⟨_, rfl⟩
          obtain ⟨U12, HU12⟩ : ∃ U, Hid (U = tabS 8 (fltA faults (ars.take k)) (f * 8 + e)) := ⟨_, rfl⟩
          obtain ⟨V12, HV12⟩ : ∃ V, Hid (V = withS U12 t) := ⟨_, rfl⟩
          have HTA : Hid (tabS 8 (ars.take (k + 1)) = fun q => if q = f * 8 + e then V10 else tabS 8 (ars.take k) q) := by show _ = _; rw [HV10.out, HU10.out, tabS_take hlt HA, tabStep_is ef ee et]
          have HTF : Hid (fb = true → tabS 8 (fltA faults (ars.take (k + 1))) = tabS 8 (fltA faults (ars.take k))) := fun q => by rw [fltA_yes HAR.out (by rw [ee, ← HFB.out, q])]
          have HTB : Hid (fb = false → tabS 8 (fltA faults (ars.take (k + 1))) = fun q => if q = f * 8 + e then V12 else tabS 8 (fltA faults (ars.take k)) q) := fun q => by rw [HV12.out, HU12.out, fltA_no HAR.out (by rw [ee, ← HFB.out, q]), tabS_snoc, tabStep_is ef ee et]
          have HOK10 : Hid (okS U10) := by rw [HU10.out]; exact okS_tab _ _ _
          have HOK12 : Hid (okS U12) := by rw [HU12.out]; exact okS_tab _ _ _
          have y1 := (HB.out.cell (p := ⟨b, off + k * 3, none⟩) hbl).trans x1
          have y2 := (HB.out.cell (p := ⟨b, off + k * 3 + 1, none⟩) hbl).trans x2
          have y3 := (HB.out.cell (p := ⟨b, off + k * 3 + 2, none⟩) hbl).trans x3
          have hkD : decide ((k : Int) < (ars.length : Int)) = true := by simp; omega
          have KA := Hid.of (Blk.new wr 75 #[.int .i64 (f : Int), .int .i64 (e : Int), .int .i64 (t : Int)])
          have hbv : Below wr.heap.size wr (wr.alloc (.cells #[.int .i64 (f : Int), .int .i64 (e : Int), .int .i64 (t : Int)] 75)) := (Below.refl _ _).alloc (Nat.le_refl _) _
          have HPB : Hid (wr.heap.size ≠ p) := Nat.ne_of_gt (RowC.lt HW.out)
          replace HW := Hid.of (RowC.below HW.out hbv (RowC.lt HW.out))
          replace HM := Hid.of ((hbv.block r (Array.getElem?_eq_some_iff.1 HM.out).1).trans HM.out)
          replace HB := Hid.of (HB.out.trans (hbv.mono HB.out.size))
          clear hbv x1 x2 x3 hia ef ee et HA HAR hca
          go_wp2_with fail
          clear y1 y2 y3
          revert KA HPB HW HM HB
          generalize wr.alloc (.cells #[.int .i64 (f : Int), .int .i64 (e : Int), .int .i64 (t : Int)] 75) = Z10
          generalize wr.heap.size = pb
          intro KA HPB HW HM HB
          have SAA : Hid (∀ W, Blk W pb 75 #[.int .i64 (f : Int), .int .i64 (e : Int), .int .i64 (t : Int)] → W.cell? ⟨pb, 0, none⟩ = some (.int .i64 (f : Int)) ∧ W.cell? ⟨pb, 1, none⟩ = some (.int .i64 (e : Int)) ∧ W.cell? ⟨pb, 2, none⟩ = some (.int .i64 (t : Int))) := fun W hk => ⟨hk.cell 0 rfl, hk.cell 1 rfl, hk.cell 2 rfl⟩
          refine wp_region_held_drew (S := fun w' => w'.cell? ⟨pb, 0, none⟩ = some (.int .i64 (f : Int)) ∧ w'.cell? ⟨pb, 1, none⟩ = some (.int .i64 (e : Int)) ∧ w'.cell? ⟨pb, 2, none⟩ = some (.int .i64 (t : Int))) (by kernel_rfl) (SAA.out _ (Blk.drew KA.out)) (fun hS => ?_)
          replace KA := Hid.of (Blk.drew KA.out)
          replace HW := Hid.of (RowC.same HW.out (W' := Z10.drew) rfl)
          replace HM : Hid (Z10.drew.heap[r]? = some (.map #[] 0)) := HM.out
          replace HB := Hid.of HB.out.drew
          revert hS KA HW HM HB
          generalize Z10.drew = Y100
          intro hS KA HW HM HB
          refine wpAnyH_take (i := 0) (v := .pointer (some ⟨p, 0, none⟩)) rfl (by kernel_rfl) (by kernel_rfl) (by kernel_rfl) (fun _ _ _ h => h) (Or.inl ⟨by kernel_rfl, fun w' hw' => by obtain ⟨q0, q1, q2⟩ := hw'; go_simp⟩) hS ?_
          refine wpAnyH_take (i := 1) (v := .pointer (some ⟨pb, 0, none⟩)) rfl (by kernel_rfl) (by kernel_rfl) (by kernel_rfl) (fun _ _ _ h => h) (Or.inl ⟨by kernel_rfl, fun w' hw' => by obtain ⟨q0, q1, q2⟩ := hw'; go_simp⟩) hS ?_
          refine wpAnyH_take (i := 2) (v := .int .i64 (f : Int)) rfl (by kernel_rfl) (by kernel_rfl) (by kernel_rfl) (fun _ _ _ h => h) (Or.inl ⟨by kernel_rfl, fun w' hw' => by obtain ⟨q0, q1, q2⟩ := hw'; go_simp⟩) hS ?_
          refine wpAnyH_take (i := 3) (v := .pointer (some ⟨pb, 1, none⟩)) rfl (by kernel_rfl) (by kernel_rfl) (by kernel_rfl) (fun _ _ _ h => h) (Or.inl ⟨by kernel_rfl, fun w' hw' => by obtain ⟨q0, q1, q2⟩ := hw'; go_simp⟩) hS ?_
          refine wpAnyH_take (i := 4) (v := .int .i64 (e : Int)) rfl (by kernel_rfl) (by kernel_rfl) (by kernel_rfl) (fun _ _ _ h => h) (Or.inl ⟨by kernel_rfl, fun w' hw' => by obtain ⟨q0, q1, q2⟩ := hw'; go_simp⟩) hS ?_
          refine wpAnyH_take (i := 5) (v := .pointer (some ⟨p, 0, none⟩)) rfl (by kernel_rfl) (by kernel_rfl) (by kernel_rfl) (fun _ _ _ h => h) (Or.inl ⟨by kernel_rfl, fun w' hw' => by obtain ⟨q0, q1, q2⟩ := hw'; go_simp⟩) hS ?_
          refine wpAnyH_at (listed' := #[true, true, true, true, true, true, false, false, false, false, false, false, false, false, false, false, false, false, false, false, false, false, false]) (by kernel_rfl) ?_
          refine wpAnyH_take (i := 6) (v := .pointer (some ⟨pb, 0, none⟩)) rfl (by kernel_rfl) (by kernel_rfl) (by kernel_rfl) (fun _ _ _ h => h) (Or.inl ⟨by kernel_rfl, fun w' hw' => by obtain ⟨q0, q1, q2⟩ := hw'; go_simp⟩) hS ?_
          refine wpAnyH_take (i := 7) (v := .int .i64 (f : Int)) rfl (by kernel_rfl) (by kernel_rfl) (by kernel_rfl) (fun _ _ _ h => h) (Or.inl ⟨by kernel_rfl, fun w' hw' => by obtain ⟨q0, q1, q2⟩ := hw'; go_simp⟩) hS ?_
          refine wpAnyH_take (i := 8) (v := .pointer (some ⟨pb, 1, none⟩)) rfl (by kernel_rfl) (by kernel_rfl) (by kernel_rfl) (fun _ _ _ h => h) (Or.inl ⟨by kernel_rfl, fun w' hw' => by obtain ⟨q0, q1, q2⟩ := hw'; go_simp⟩) hS ?_
          refine wpAnyH_take (i := 9) (v := .int .i64 (e : Int)) rfl (by kernel_rfl) (by kernel_rfl) (by kernel_rfl) (fun _ _ _ h => h) (Or.inl ⟨by kernel_rfl, fun w' hw' => by obtain ⟨q0, q1, q2⟩ := hw'; go_simp⟩) hS ?_
          refine wpAnyH_take (i := 10) (v := .pointer (some ⟨p, 0, none⟩)) rfl (by kernel_rfl) (by kernel_rfl) (by kernel_rfl) (fun _ _ _ h => h) (Or.inl ⟨by kernel_rfl, fun w' hw' => by obtain ⟨q0, q1, q2⟩ := hw'; go_simp⟩) hS ?_
          refine wpAnyH_take (i := 11) (v := .pointer (some ⟨p, 21, none⟩)) rfl (by kernel_rfl) (by kernel_rfl) (by kernel_rfl) (fun _ _ _ h => h) (Or.inl ⟨by kernel_rfl, fun w' hw' => by obtain ⟨q0, q1, q2⟩ := hw'; go_simp⟩) hS ?_
          refine wpAnyH_at (listed' := #[true, true, true, true, true, true, true, true, true, true, true, true, false, false, false, false, false, false, false, false, false, false, false]) (by kernel_rfl) ?_
          refine wpAnyH_take (i := 12) (v := .pointer (some ⟨p, 21 + f * 32, none⟩)) rfl (by kernel_rfl) (by kernel_rfl) (by kernel_rfl) (fun _ _ _ h => h) (Or.inl ⟨by kernel_rfl, fun w' hw' => by obtain ⟨q0, q1, q2⟩ := hw'; go_simp⟩) hS ?_
          refine wpAnyH_take (i := 13) (v := .pointer (some ⟨p, 21 + f * 32 + e * 4, none⟩)) rfl (by kernel_rfl) (by kernel_rfl) (by kernel_rfl) (fun _ _ _ h => h) (Or.inl ⟨by kernel_rfl, fun w' hw' => by obtain ⟨q0, q1, q2⟩ := hw'; go_simp⟩) hS ?_
          refine wpAnyH_take (i := 15) (v := .pointer (some ⟨pb, 2, none⟩)) rfl (by kernel_rfl) (by kernel_rfl) (by kernel_rfl) (fun _ _ _ h => h) (Or.inl ⟨by kernel_rfl, fun w' hw' => by obtain ⟨q0, q1, q2⟩ := hw'; go_simp⟩) hS ?_
          refine wpAnyH_take (i := 16) (v := .int .i64 (t : Int)) rfl (by kernel_rfl) (by kernel_rfl) (by kernel_rfl) (fun _ _ _ h => h) (Or.inl ⟨by kernel_rfl, fun w' hw' => by obtain ⟨q0, q1, q2⟩ := hw'; go_simp⟩) hS ?_
          refine wpAnyH_take (i := 18) (v := .pointer (some ⟨p, 0, none⟩)) rfl (by kernel_rfl) (by kernel_rfl) (by kernel_rfl) (fun _ _ _ h => h) (Or.inl ⟨by kernel_rfl, fun w' hw' => by obtain ⟨q0, q1, q2⟩ := hw'; go_simp⟩) hS ?_
          refine wpAnyH_take (i := 19) (v := .pointer (some ⟨p, 21, none⟩)) rfl (by kernel_rfl) (by kernel_rfl) (by kernel_rfl) (fun _ _ _ h => h) (Or.inl ⟨by kernel_rfl, fun w' hw' => by obtain ⟨q0, q1, q2⟩ := hw'; go_simp⟩) hS ?_
          refine wpAnyH_at (listed' := #[true, true, true, true, true, true, true, true, true, true, true, true, true, true, false, true, true, false, true, true, false, false, false]) (by kernel_rfl) ?_
          refine wpAnyH_take (i := 20) (v := .pointer (some ⟨p, 21 + f * 32, none⟩)) rfl (by kernel_rfl) (by kernel_rfl) (by kernel_rfl) (fun _ _ _ h => h) (Or.inl ⟨by kernel_rfl, fun w' hw' => by obtain ⟨q0, q1, q2⟩ := hw'; go_simp⟩) hS ?_
          refine wpAnyH_at (listed' := #[true, true, true, true, true, true, true, true, true, true, true, true, true, true, false, true, true, false, true, true, true, false, false]) (by kernel_rfl) ?_
          simp only [Act.put, List.setIfInBounds_toArray]
          refine wpAnyH_ready (rs := [14]) (by kernel_rfl) (by simp) ?_
          refine AllReadyH.cons rfl (fun K' hK' => ?_) AllReadyH.nil
          clear hS
          have uu := WtB.ta HW.out (a := f) (e := e) hf6 he8
          have u0 := uu.1
          have u1 := uu.2.1
          have u2 := uu.2.2.1
          have u3 := uu.2.2.2
          clear uu
          rw [← HU10.out] at u0 u1 u2 u3
          go_simp
          refine hK'.out _ _ (SAA.out _ KA.out) (fun hS => ?_)
          clear hK' K' u0 u1 u2 u3
          refine wpAnyH_at (listed' := #[true, true, true, true, true, true, true, true, true, true, true, true, true, true, true, true, true, false, true, true, true, false, false]) (by kernel_rfl) ?_
          refine wpAnyH_ready (rs := [17]) (by kernel_rfl) (by simp) ?_
          refine AllReadyH.cons rfl (fun K' hK' => ?_) AllReadyH.nil
          clear hS
          go_simp
          refine (with_any U10 (t : Int) _ HOK10.out (by omega) (by omega)).mono ?_
          rintro e1 Y22 ⟨rfl, hb⟩
          rw [Int.toNat_natCast, ← HV10.out]
          replace HW := Hid.of (RowC.below HW.out hb HW.out.lt)
          replace HM := Hid.of ((hb.block r (Array.getElem?_eq_some_iff.1 HM.out).1).trans HM.out)
          replace KA := Hid.of (KA.out.below hb KA.out.lt)
          replace HB := Hid.of (HB.out.trans (hb.mono HB.out.size))
          refine hK'.out _ _ (SAA.out _ KA.out) (fun hS => ?_)
          clear hK' K' hb
          refine wpAnyH_take (i := 21) (v := .pointer (some ⟨p, 21 + f * 32 + e * 4, none⟩)) rfl (by kernel_rfl) (by kernel_rfl) (by kernel_rfl) (fun _ _ _ h => h) (Or.inl ⟨by kernel_rfl, fun w' hw' => by obtain ⟨q0, q1, q2⟩ := hw'; go_simp⟩) hS ?_
          refine wpAnyH_at (listed' := #[true, true, true, true, true, true, true, true, true, true, true, true, true, true, true, true, true, true, true, true, true, true, false]) (by kernel_rfl) ?_
          refine wpAnyH_ready (rs := [22]) (by kernel_rfl) (by simp) ?_
          refine AllReadyH.cons rfl (fun K' hK' => ?_) AllReadyH.nil
          clear hS
          have fz := WtB.frozen HW.out
          have uu := WtB.ta HW.out (a := f) (e := e) hf6 he8
          have u0 := uu.1
          have u1 := uu.2.1
          have u2 := uu.2.2.1
          have u3 := uu.2.2.2
          clear uu
          rw [← HU10.out] at u0 u1 u2 u3
          go_simp
          replace HW := Hid.of (WtB.setTA HW.out (a := f) (e := e) hf6 he8 V10)
          replace HM : Hid (((((Y22.setCell ⟨p, 21 + f * 32 + e * 4, none⟩ (.int .u64 (V10 0))).setCell ⟨p, 21 + f * 32 + e * 4 + 1, none⟩ (.int .u64 (V10 1))).setCell ⟨p, 21 + f * 32 + e * 4 + 2, none⟩ (.int .u64 (V10 2))).setCell ⟨p, 21 + f * 32 + e * 4 + 3, none⟩ (.int .u64 (V10 3))).heap[r]? = some (.map #[] 0)) := (heap_set4D _ HPR.out _ _ _ _ _).trans HM.out
          replace KA : Hid (Blk ((((Y22.setCell ⟨p, 21 + f * 32 + e * 4, none⟩ (.int .u64 (V10 0))).setCell ⟨p, 21 + f * 32 + e * 4 + 1, none⟩ (.int .u64 (V10 1))).setCell ⟨p, 21 + f * 32 + e * 4 + 2, none⟩ (.int .u64 (V10 2))).setCell ⟨p, 21 + f * 32 + e * 4 + 3, none⟩ (.int .u64 (V10 3))) pb 75 #[.int .i64 (f : Int), .int .i64 (e : Int), .int .i64 (t : Int)]) := (heap_set4D _ HPB.out _ _ _ _ _).trans KA.out
          replace HB := Hid.of (below_set4' HB.out (21 + f * 32 + e * 4) HP.out (.int .u64 (V10 0)) (.int .u64 (V10 1)) (.int .u64 (V10 2)) (.int .u64 (V10 3)))
          refine hK'.out _ _ (SAA.out _ KA.out) (fun hS => ?_)
          clear hK' K' fz u0 u1 u2 u3
          revert HW HM KA HB hS
          generalize ((((Y22.setCell ⟨p, 21 + f * 32 + e * 4, none⟩ (.int .u64 (V10 0))).setCell ⟨p, 21 + f * 32 + e * 4 + 1, none⟩ (.int .u64 (V10 1))).setCell ⟨p, 21 + f * 32 + e * 4 + 2, none⟩ (.int .u64 (V10 2))).setCell ⟨p, 21 + f * 32 + e * 4 + 3, none⟩ (.int .u64 (V10 3))) = Y23
          intro HW HM KA HB hS
          refine wpAnyH_at (listed' := #[true, true, true, true, true, true, true, true, true, true, true, true, true, true, true, true, true, true, true, true, true, true, true]) (by kernel_rfl) ?_
          refine wpAnyH_done (by kernel_rfl) ?_ _
          clear hS
          rw [← HTA.out] at HW
          go_wp2_with fail
          revert HW HM KA HB
          generalize Y23 = Z11
          intro HW HM KA HB
          have x1 := KA.out.cell 1 rfl
          have x2 := WtB.flt HW.out (e := e) he8
          rw [HFE.out] at x2
          go_quiet (fail)
          clear x1 x2
          replace KA : Hid (Blk (Z11.drewN nq) pb _ _) := KA.out
          replace HW := Hid.of (RowC.same HW.out (W' := Z11.drewN nq) rfl)
          replace HM : Hid ((Z11.drewN nq).heap[r]? = some (.map #[] 0)) := HM.out
          replace HB : Hid (Below w.heap.size w (Z11.drewN nq)) := below_drewN HB.out _
          revert KA HW HM HB
          generalize Z11.drewN nq = Z12
          intro KA HW HM HB
          cases hfb : fb with
          | true =>
            subst hfb
            rw [← HTF.out (by simp)] at HW
            go_wp2_with fail
            go_roundw
            case rel => exact ⟨k + 1, by omega, by go_num, HW, HM, HB⟩
            case measure => simp [intOf]; omega
          | false =>
            subst hfb
            go_wp2_with fail
            refine wp_region_held_drew (S := fun w' => w'.cell? ⟨pb, 0, none⟩ = some (.int .i64 (f : Int)) ∧ w'.cell? ⟨pb, 1, none⟩ = some (.int .i64 (e : Int)) ∧ w'.cell? ⟨pb, 2, none⟩ = some (.int .i64 (t : Int))) (by kernel_rfl) (SAA.out _ (Blk.drew KA.out)) (fun hS => ?_)
            replace KA := Hid.of (Blk.drew KA.out)
            replace HW := Hid.of (RowC.same HW.out (W' := Z12.drew) rfl)
            replace HM : Hid (Z12.drew.heap[r]? = some (.map #[] 0)) := HM.out
            replace HB := Hid.of HB.out.drew
            revert hS KA HW HM HB
            generalize Z12.drew = Y120
            intro hS KA HW HM HB
            refine wpAnyH_take (i := 0) (v := .pointer (some ⟨p, 0, none⟩)) rfl (by kernel_rfl) (by kernel_rfl) (by kernel_rfl) (fun _ _ _ h => h) (Or.inl ⟨by kernel_rfl, fun w' hw' => by obtain ⟨q0, q1, q2⟩ := hw'; go_simp⟩) hS ?_
            refine wpAnyH_take (i := 1) (v := .pointer (some ⟨pb, 0, none⟩)) rfl (by kernel_rfl) (by kernel_rfl) (by kernel_rfl) (fun _ _ _ h => h) (Or.inl ⟨by kernel_rfl, fun w' hw' => by obtain ⟨q0, q1, q2⟩ := hw'; go_simp⟩) hS ?_
            refine wpAnyH_take (i := 2) (v := .int .i64 (f : Int)) rfl (by kernel_rfl) (by kernel_rfl) (by kernel_rfl) (fun _ _ _ h => h) (Or.inl ⟨by kernel_rfl, fun w' hw' => by obtain ⟨q0, q1, q2⟩ := hw'; go_simp⟩) hS ?_
            refine wpAnyH_take (i := 3) (v := .pointer (some ⟨pb, 1, none⟩)) rfl (by kernel_rfl) (by kernel_rfl) (by kernel_rfl) (fun _ _ _ h => h) (Or.inl ⟨by kernel_rfl, fun w' hw' => by obtain ⟨q0, q1, q2⟩ := hw'; go_simp⟩) hS ?_
            refine wpAnyH_take (i := 4) (v := .int .i64 (e : Int)) rfl (by kernel_rfl) (by kernel_rfl) (by kernel_rfl) (fun _ _ _ h => h) (Or.inl ⟨by kernel_rfl, fun w' hw' => by obtain ⟨q0, q1, q2⟩ := hw'; go_simp⟩) hS ?_
            refine wpAnyH_take (i := 5) (v := .pointer (some ⟨p, 0, none⟩)) rfl (by kernel_rfl) (by kernel_rfl) (by kernel_rfl) (fun _ _ _ h => h) (Or.inl ⟨by kernel_rfl, fun w' hw' => by obtain ⟨q0, q1, q2⟩ := hw'; go_simp⟩) hS ?_
            refine wpAnyH_at (listed' := #[true, true, true, true, true, true, false, false, false, false, false, false, false, false, false, false, false, false, false, false, false, false, false]) (by kernel_rfl) ?_
            refine wpAnyH_take (i := 6) (v := .pointer (some ⟨pb, 0, none⟩)) rfl (by kernel_rfl) (by kernel_rfl) (by kernel_rfl) (fun _ _ _ h => h) (Or.inl ⟨by kernel_rfl, fun w' hw' => by obtain ⟨q0, q1, q2⟩ := hw'; go_simp⟩) hS ?_
            refine wpAnyH_take (i := 7) (v := .int .i64 (f : Int)) rfl (by kernel_rfl) (by kernel_rfl) (by kernel_rfl) (fun _ _ _ h => h) (Or.inl ⟨by kernel_rfl, fun w' hw' => by obtain ⟨q0, q1, q2⟩ := hw'; go_simp⟩) hS ?_
            refine wpAnyH_take (i := 8) (v := .pointer (some ⟨pb, 1, none⟩)) rfl (by kernel_rfl) (by kernel_rfl) (by kernel_rfl) (fun _ _ _ h => h) (Or.inl ⟨by kernel_rfl, fun w' hw' => by obtain ⟨q0, q1, q2⟩ := hw'; go_simp⟩) hS ?_
            refine wpAnyH_take (i := 9) (v := .int .i64 (e : Int)) rfl (by kernel_rfl) (by kernel_rfl) (by kernel_rfl) (fun _ _ _ h => h) (Or.inl ⟨by kernel_rfl, fun w' hw' => by obtain ⟨q0, q1, q2⟩ := hw'; go_simp⟩) hS ?_
            refine wpAnyH_take (i := 10) (v := .pointer (some ⟨p, 0, none⟩)) rfl (by kernel_rfl) (by kernel_rfl) (by kernel_rfl) (fun _ _ _ h => h) (Or.inl ⟨by kernel_rfl, fun w' hw' => by obtain ⟨q0, q1, q2⟩ := hw'; go_simp⟩) hS ?_
            refine wpAnyH_take (i := 11) (v := .pointer (some ⟨p, 213, none⟩)) rfl (by kernel_rfl) (by kernel_rfl) (by kernel_rfl) (fun _ _ _ h => h) (Or.inl ⟨by kernel_rfl, fun w' hw' => by obtain ⟨q0, q1, q2⟩ := hw'; go_simp⟩) hS ?_
            refine wpAnyH_at (listed' := #[true, true, true, true, true, true, true, true, true, true, true, true, false, false, false, false, false, false, false, false, false, false, false]) (by kernel_rfl) ?_
            refine wpAnyH_take (i := 12) (v := .pointer (some ⟨p, 213 + f * 32, none⟩)) rfl (by kernel_rfl) (by kernel_rfl) (by kernel_rfl) (fun _ _ _ h => h) (Or.inl ⟨by kernel_rfl, fun w' hw' => by obtain ⟨q0, q1, q2⟩ := hw'; go_simp⟩) hS ?_
            refine wpAnyH_take (i := 13) (v := .pointer (some ⟨p, 213 + f * 32 + e * 4, none⟩)) rfl (by kernel_rfl) (by kernel_rfl) (by kernel_rfl) (fun _ _ _ h => h) (Or.inl ⟨by kernel_rfl, fun w' hw' => by obtain ⟨q0, q1, q2⟩ := hw'; go_simp⟩) hS ?_
            refine wpAnyH_take (i := 15) (v := .pointer (some ⟨pb, 2, none⟩)) rfl (by kernel_rfl) (by kernel_rfl) (by kernel_rfl) (fun _ _ _ h => h) (Or.inl ⟨by kernel_rfl, fun w' hw' => by obtain ⟨q0, q1, q2⟩ := hw'; go_simp⟩) hS ?_
            refine wpAnyH_take (i := 16) (v := .int .i64 (t : Int)) rfl (by kernel_rfl) (by kernel_rfl) (by kernel_rfl) (fun _ _ _ h => h) (Or.inl ⟨by kernel_rfl, fun w' hw' => by obtain ⟨q0, q1, q2⟩ := hw'; go_simp⟩) hS ?_
            refine wpAnyH_take (i := 18) (v := .pointer (some ⟨p, 0, none⟩)) rfl (by kernel_rfl) (by kernel_rfl) (by kernel_rfl) (fun _ _ _ h => h) (Or.inl ⟨by kernel_rfl, fun w' hw' => by obtain ⟨q0, q1, q2⟩ := hw'; go_simp⟩) hS ?_
            refine wpAnyH_take (i := 19) (v := .pointer (some ⟨p, 213, none⟩)) rfl (by kernel_rfl) (by kernel_rfl) (by kernel_rfl) (fun _ _ _ h => h) (Or.inl ⟨by kernel_rfl, fun w' hw' => by obtain ⟨q0, q1, q2⟩ := hw'; go_simp⟩) hS ?_
            refine wpAnyH_at (listed' := #[true, true, true, true, true, true, true, true, true, true, true, true, true, true, false, true, true, false, true, true, false, false, false]) (by kernel_rfl) ?_
            refine wpAnyH_take (i := 20) (v := .pointer (some ⟨p, 213 + f * 32, none⟩)) rfl (by kernel_rfl) (by kernel_rfl) (by kernel_rfl) (fun _ _ _ h => h) (Or.inl ⟨by kernel_rfl, fun w' hw' => by obtain ⟨q0, q1, q2⟩ := hw'; go_simp⟩) hS ?_
            refine wpAnyH_at (listed' := #[true, true, true, true, true, true, true, true, true, true, true, true, true, true, false, true, true, false, true, true, true, false, false]) (by kernel_rfl) ?_
            simp only [Act.put, List.setIfInBounds_toArray]
            refine wpAnyH_ready (rs := [14]) (by kernel_rfl) (by simp) ?_
            refine AllReadyH.cons rfl (fun K' hK' => ?_) AllReadyH.nil
            clear hS
            have uu := WtB.tb HW.out (a := f) (e := e) hf6 he8
            have u0 := uu.1
            have u1 := uu.2.1
            have u2 := uu.2.2.1
            have u3 := uu.2.2.2
            clear uu
            rw [← HU12.out] at u0 u1 u2 u3
            go_simp
            refine hK'.out _ _ (SAA.out _ KA.out) (fun hS => ?_)
            clear hK' K' u0 u1 u2 u3
            refine wpAnyH_at (listed' := #[true, true, true, true, true, true, true, true, true, true, true, true, true, true, true, true, true, false, true, true, true, false, false]) (by kernel_rfl) ?_
            refine wpAnyH_ready (rs := [17]) (by kernel_rfl) (by simp) ?_
            refine AllReadyH.cons rfl (fun K' hK' => ?_) AllReadyH.nil
            clear hS
            go_simp
            refine (with_any U12 (t : Int) _ HOK12.out (by omega) (by omega)).mono ?_
            rintro e1 Y42 ⟨rfl, hb⟩
            rw [Int.toNat_natCast, ← HV12.out]
            replace HW := Hid.of (RowC.below HW.out hb HW.out.lt)
            replace HM := Hid.of ((hb.block r (Array.getElem?_eq_some_iff.1 HM.out).1).trans HM.out)
            replace KA := Hid.of (KA.out.below hb KA.out.lt)
            replace HB := Hid.of (HB.out.trans (hb.mono HB.out.size))
            refine hK'.out _ _ (SAA.out _ KA.out) (fun hS => ?_)
            clear hK' K' hb
            refine wpAnyH_take (i := 21) (v := .pointer (some ⟨p, 213 + f * 32 + e * 4, none⟩)) rfl (by kernel_rfl) (by kernel_rfl) (by kernel_rfl) (fun _ _ _ h => h) (Or.inl ⟨by kernel_rfl, fun w' hw' => by obtain ⟨q0, q1, q2⟩ := hw'; go_simp⟩) hS ?_
            refine wpAnyH_at (listed' := #[true, true, true, true, true, true, true, true, true, true, true, true, true, true, true, true, true, true, true, true, true, true, false]) (by kernel_rfl) ?_
            refine wpAnyH_ready (rs := [22]) (by kernel_rfl) (by simp) ?_
            refine AllReadyH.cons rfl (fun K' hK' => ?_) AllReadyH.nil
            clear hS
            have fz := WtB.frozen HW.out
            have uu := WtB.tb HW.out (a := f) (e := e) hf6 he8
            have u0 := uu.1
            have u1 := uu.2.1
            have u2 := uu.2.2.1
            have u3 := uu.2.2.2
            clear uu
            rw [← HU12.out] at u0 u1 u2 u3
            go_simp
            replace HW := Hid.of (WtB.setTB HW.out (a := f) (e := e) hf6 he8 V12)
            replace HM : Hid (((((Y42.setCell ⟨p, 213 + f * 32 + e * 4, none⟩ (.int .u64 (V12 0))).setCell ⟨p, 213 + f * 32 + e * 4 + 1, none⟩ (.int .u64 (V12 1))).setCell ⟨p, 213 + f * 32 + e * 4 + 2, none⟩ (.int .u64 (V12 2))).setCell ⟨p, 213 + f * 32 + e * 4 + 3, none⟩ (.int .u64 (V12 3))).heap[r]? = some (.map #[] 0)) := (heap_set4D _ HPR.out _ _ _ _ _).trans HM.out
            replace KA : Hid (Blk ((((Y42.setCell ⟨p, 213 + f * 32 + e * 4, none⟩ (.int .u64 (V12 0))).setCell ⟨p, 213 + f * 32 + e * 4 + 1, none⟩ (.int .u64 (V12 1))).setCell ⟨p, 213 + f * 32 + e * 4 + 2, none⟩ (.int .u64 (V12 2))).setCell ⟨p, 213 + f * 32 + e * 4 + 3, none⟩ (.int .u64 (V12 3))) pb 75 #[.int .i64 (f : Int), .int .i64 (e : Int), .int .i64 (t : Int)]) := (heap_set4D _ HPB.out _ _ _ _ _).trans KA.out
            replace HB := Hid.of (below_set4' HB.out (213 + f * 32 + e * 4) HP.out (.int .u64 (V12 0)) (.int .u64 (V12 1)) (.int .u64 (V12 2)) (.int .u64 (V12 3)))
            refine hK'.out _ _ (SAA.out _ KA.out) (fun hS => ?_)
            clear hK' K' fz u0 u1 u2 u3
            revert HW HM KA HB hS
            generalize ((((Y42.setCell ⟨p, 213 + f * 32 + e * 4, none⟩ (.int .u64 (V12 0))).setCell ⟨p, 213 + f * 32 + e * 4 + 1, none⟩ (.int .u64 (V12 1))).setCell ⟨p, 213 + f * 32 + e * 4 + 2, none⟩ (.int .u64 (V12 2))).setCell ⟨p, 213 + f * 32 + e * 4 + 3, none⟩ (.int .u64 (V12 3))) = Y43
            intro HW HM KA HB hS
            refine wpAnyH_at (listed' := #[true, true, true, true, true, true, true, true, true, true, true, true, true, true, true, true, true, true, true, true, true, true, true]) (by kernel_rfl) ?_
            refine wpAnyH_done (by kernel_rfl) ?_ _
            clear hS
            rw [← HTB.out (by simp)] at HW
            go_wp2_with fail
            go_roundw
            case rel => exact ⟨k + 1, by omega, by go_num, HW, HM, HB⟩
            case measure => simp [intOf]; omega
        · have hke : k = ars.length := by omega
          subst hke
          have hkD : decide ((ars.length : Int) < (ars.length : Int)) = false := by simp
          clear hlt hk
          rw [List.take_length] at HW
          go_wp2_with fail
          refine bodyPost_ret (v := .pointer (some ⟨p, 0, none⟩)) (by simp [results, go_sem]) rfl ⟨p, r, rfl, ⟨HW.out, HM.out, .inl ⟨rfl, rfl⟩, HP.out, HR.out, fun y hy => absurd hy (by simp), List.nodup_nil⟩, HB.out⟩

theorem newW_any (m : Mach) (l : ML) (sa : Option Addr) (sc : Nat) (seen : List Int) (fa : Option Addr) (fc : Nat) (faults : List Int) (w : World) (h : MAt w m l) (hm : mayB m = true) (z : m.st ≤ 6) (hs : At w sa seen) (hsl : seen.length ≤ maxLen) (hf : At w fa faults) (hfl : faults.length ≤ maxLen) :
    Calls Tryd.prog 100 #[mval m l, .slice sa seen.length sc, .slice fa faults.length fc] w fun e w' => ∃ p r, e = .returned (.pointer (some ⟨p, 0, none⟩)) ∧ DW w' w.heap.size p r m l (pF seen m.ev.toNat) (pF faults m.ev.toNat) (tabS 8 m.arrows) (tabS 8 (fltA faults m.arrows)) (.slice none 0 0) ([], []) ∧ Below w.heap.size w w' := by
  have hz := mayB_size hm
  unfold sizeOk at hz
  have HI := may_arrs hm
  obtain ⟨st, ev, starts, ars, ends⟩ := m
  obtain ⟨a1, c1, a2, c2, a3, c3⟩ := l
  dsimp only at hz z HI
  obtain ⟨st, rfl⟩ : ∃ n : Nat, st = (n : Int) := ⟨st.toNat, by omega⟩
  obtain ⟨ev, rfl⟩ : ∃ n : Nat, ev = (n : Int) := ⟨ev.toNat, by omega⟩
  exact newW_go st ev starts ars ends a1 c1 a2 c2 a3 c3 sa sc seen fa fc faults w h HI (by omega) (by omega) (by omega) hs hsl hf hfl

end Go.Proofs.YtgebfkmfhpcdhaaDoor
