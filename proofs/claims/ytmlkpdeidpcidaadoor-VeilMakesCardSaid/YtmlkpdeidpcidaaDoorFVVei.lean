/-
  The walk of keeper.veil.
-/
import Derived.Deep.RegionHeld3
import Derived.Test.YtmlkpdeidpcidaaDoorFVVeiB
import Derived.Test.YtmlkpdeidpcidaaDoorJ39
import Derived.Test.YtmlkpdeidpcidaaDoorJ10
import Derived.Test.YtmlkpdeidpcidaaDoorFR15Mk
namespace Go.Proofs.YtmlkpdeidpcidaaDoor
open Go.RowKit
set_option linter.unusedVariables false

theorem Blk.mapV {W : World} {b br : Nat} {t : TypeId} {cs : Array Value} (h : Blk W b t cs) (hn : b ≠ br) (o : Obj) : Blk (setMap W br o) b t cs := (heap_setMap_ne W br o hn).trans h
theorem own_mapV {W : World} {B s n nb : Nat} {e : TypeId} {v : Value} {xs : List Value} {es : Array MapEntry} {c : Nat} (h : W.ownsRow B e s v n xs) (hm : W.heap[nb]? = some (.map es c)) (o : Obj) : (setMap W nb o).ownsRow B e s v n xs := own_same h (fun j hj => heap_setMap_ne _ _ _ (fun e => by
  obtain ⟨cs, hc⟩ := own_type h hj
  rw [e, hm] at hc; cases hc))
theorem veStep_take (p : Plant) (g : List Int → Bool) (free : List Int) (n : Nat) (node : List Int) (s : VS) (e : Int) {m : Nat} (h : m ≤ s.1.length) : (veStep p g free n node s e).1.take m = s.1.take m ∧ m ≤ (veStep p g free n node s e).1.length := by
  unfold veStep
  split
  · exact ⟨rfl, h⟩
  · dsimp only
    split
    · exact ⟨List.take_append_of_le_length h, by simp; omega⟩
    · exact ⟨rfl, h⟩
theorem veRow_take (p : Plant) (g : List Int → Bool) (free : List Int) (n : Nat) (node : List Int) (s : VS) {m : Nat} (h : m ≤ s.1.length) {k : Nat} : (veRow p g free n node s k).1.take m = s.1.take m := by
  unfold veRow
  have : ∀ (l : List Int) (s : VS), m ≤ s.1.length → (l.foldl (veStep p g free n node) s).1.take m = s.1.take m := by
    intro l
    induction l with
    | nil => intro s _; rfl
    | cons e r ih =>
      intro s hs
      have h1 := veStep_take p g free n node s e hs
      rw [List.foldl_cons, ih _ h1.2, h1.1]
  exact this _ s h
theorem updS_firstV {S : Nat → Nat} {l : List Int} (hr : Rep S l) (hi : Inc l) {w : World} {r : Nat} (hm : w.heap[r]? = some (.map #[] 0)) :
    (Instr.mapUpdate 222 (.map (some r)) (sval S) (.int .i64 0)).run Tryd.prog w = .ok () (setMap w r (.map (entsS [S]) 1)) := by
  have := updS_new (SL := []) repNilV (by simp) hr hi (w := w) (r := r) hm rfl
  simpa using this

set_option maxRecDepth 100000 in
set_option maxHeartbeats 16000000 in
theorem kveil_go (p : Plant) (Pl : ML) (sa : Option Addr) (sc : Nat) (ta : Option Addr) (tc : Nat) (fa : Option Addr) (fc : Nat) (free : List Int) (R : Nat → Nat) (T : Nat → Nat → Nat) (mb c kb : Nat) (g : List Int → Bool) (LS : List PlC) (lS : List (List Int × List Int)) (hV : Hid (KeepV p free g T LS lS)) (F : Nat → Nat) (fl : List Int) (hr : Hid (Rep F fl)) (hi : Hid (Inc fl)) (hfe : Hid (fl = estL p [])) (hne : Hid (∃ x, x ∈ fl)) (hgf : Hid (g fl = true)) (w : World) (hK : Hid (KV w kb p ⟨Pl, sa, sc, ta, tc⟩ fa fc free R T mb)) (hm : Hid (w.heap[mb]? = some (.map (entsC LS) c))) (hP : Hid (PAt w p ⟨Pl, sa, sc, ta, tc⟩)) (hF : Hid (At w fa free)) (hFl : Hid (free.length ≤ maxLen)) (hT : Hid (Tab w)) :
    Calls Tryd.prog 108 #[.pointer (some ⟨kb, 0, none⟩), sval F] w fun e w' => ∃ L : VL, e = .returned (vval (veGo p g free 65 0 ([fl], [])) L) ∧ (∀ X : World, w'.heap.size ≤ X.heap.size → (∀ j, w.heap.size ≤ j → j < w'.heap.size → X.heap[j]? = w'.heap[j]?) → (∀ (q : Nat) (cs : Array Value), w'.heap[q]? = some (.cells cs 3 (0, 0)) → X.heap[q]? = w'.heap[q]?) → VAt X (veGo p g free 65 0 ([fl], [])) L) ∧ Below w.heap.size w w' := by
  have HSE := Hid.of (seen_bd hV.out.hp)
  have hs8 := seen_len hV.out.hp
  have HMM := Hid.of ((mayP_iff p).1 hV.out.hp).1
  have H6 := Hid.of (states_bd hV.out.hp)
  obtain ⟨i1, hi1, hz0, hz1, hz2⟩ := info_parts Tryd.infoIntsV
  obtain ⟨j0, ji, jz0, jz1, jz2⟩ := info_parts Tryd.infoMove
  obtain ⟨k0, ki, kz0, kz1, kz2⟩ := info_parts Tryd.infoSetS
  have HVI : Hid (VI p g free 0 0 ([fl], [])) := by
    have := vi_start (free := free) HMM.out hV.out.gg (by rw [← hfe.out]; exact hne.out) (by rw [← hfe.out]; exact hgf.out)
    rw [← hfe.out] at this
    exact this
  have B : Hid (Below w.heap.size w (((w.alloc (.cells (scells F) 85)).alloc (.cells #[.slice none 0 0, .slice none 0 0] 72)).alloc (.cells #[.slice none 0 0, .slice none 0 0] 72))) := (((Below.refl _ _).alloc (Nat.le_refl _) _).alloc (by simp) _).alloc (by simp; omega) _
  have KF : Hid (SB (((w.alloc (.cells (scells F) 85)).alloc (.cells #[.slice none 0 0, .slice none 0 0] 72)).alloc (.cells #[.slice none 0 0, .slice none 0 0] 72)) w.heap.size F) := ((Blk.new w _ _).alloc _).alloc _
  have K4 : Hid (Blk (((w.alloc (.cells (scells F) 85)).alloc (.cells #[.slice none 0 0, .slice none 0 0] 72)).alloc (.cells #[.slice none 0 0, .slice none 0 0] 72)) (w.heap.size + 1) 72 #[.slice none 0 0, .slice none 0 0]) := by
    have := (Blk.new (w.alloc (.cells (scells F) 85)) 72 #[.slice none 0 0, .slice none 0 0]).alloc (.cells #[.slice none 0 0, .slice none 0 0] 72)
    rwa [World.size_alloc] at this
  have K5 : Hid (Blk (((w.alloc (.cells (scells F) 85)).alloc (.cells #[.slice none 0 0, .slice none 0 0] 72)).alloc (.cells #[.slice none 0 0, .slice none 0 0] 72)) (w.heap.size + 1 + 1) 72 #[.slice none 0 0, .slice none 0 0]) := by
    have := Blk.new ((w.alloc (.cells (scells F) 85)).alloc (.cells #[.slice none 0 0, .slice none 0 0] 72)) 72 #[.slice none 0 0, .slice none 0 0]
    rwa [World.size_alloc, World.size_alloc] at this
  go_enter Tryd.func108, Tryd.ntmps108
  go_wp2_with fail
  revert B KF K4 K5
  generalize (((w.alloc (.cells (scells F) 85)).alloc (.cells #[.slice none 0 0, .slice none 0 0] 72)).alloc (.cells #[.slice none 0 0, .slice none 0 0] 72)) = V0
  intro B KF K4 K5
  refine Code.wp_mono (Q := regQ fun a' W' => ∃ (nb pn : Nat), a' = { tmps := #[.pointer (some ⟨kb, 0, none⟩), sval F, undef, .pointer (some ⟨w.heap.size, 0, none⟩), .pointer (some ⟨w.heap.size + 1, 0, none⟩), .pointer (some ⟨w.heap.size + 1 + 1, 0, none⟩), .slice (some ⟨pn, 0, none⟩) 1 1, .map (some nb), undef, undef, undef, undef, undef, undef, undef, sval F, .slice (some ⟨pn, 0, none⟩) 1 1, .map (some nb), sval F, .map (some nb), undef, undef, undef, undef, undef, undef, undef, undef, undef, undef, undef, undef, undef, undef, undef, undef, undef, undef, undef, undef, undef, undef, undef, undef, undef, undef, undef, undef, undef, undef, undef, undef, undef, undef, undef, undef, undef, undef, undef, undef, undef, undef, undef, undef, undef, undef, undef, undef, undef, undef, undef, undef, undef, undef, undef, undef, undef, undef, undef, undef, undef, undef, undef, undef, undef, undef, undef, undef, undef, undef], defers := [] } ∧ VK w W' nb (.slice (some ⟨pn, 0, none⟩) 1 1) (.slice none 0 0) (.slice none 0 0) [F] [] []) ?aft ?reg
  case reg =>
    have SA : Hid (∀ X, SB X w.heap.size F → X.cell? ⟨w.heap.size, 0, none⟩ = some (.int .u64 (F 0)) ∧ X.cell? ⟨w.heap.size, 1, none⟩ = some (.int .u64 (F 1)) ∧ X.cell? ⟨w.heap.size, 2, none⟩ = some (.int .u64 (F 2)) ∧ X.cell? ⟨w.heap.size, 3, none⟩ = some (.int .u64 (F 3))) := fun X h => SB.cells h
    refine wp_region_held_drew (S := fun w' => w'.cell? ⟨w.heap.size, 0, none⟩ = some (.int .u64 (F 0)) ∧ w'.cell? ⟨w.heap.size, 1, none⟩ = some (.int .u64 (F 1)) ∧ w'.cell? ⟨w.heap.size, 2, none⟩ = some (.int .u64 (F 2)) ∧ w'.cell? ⟨w.heap.size, 3, none⟩ = some (.int .u64 (F 3))) (by kernel_rfl) (SA.out _ (Blk.drew KF.out)) (fun hS => ?_)
    replace B : Hid (Below w.heap.size w V0.drew) := B.out.drew
    replace KF : Hid (SB V0.drew w.heap.size F) := Blk.drew KF.out
    replace K4 : Hid (Blk V0.drew (w.heap.size + 1) 72 #[.slice none 0 0, .slice none 0 0]) := Blk.drew K4.out
    replace K5 : Hid (Blk V0.drew (w.heap.size + 1 + 1) 72 #[.slice none 0 0, .slice none 0 0]) := Blk.drew K5.out
    revert hS B KF K4 K5
    generalize V0.drew = Y0
    intro hS B KF K4 K5
    refine wpAnyH_take (i := 0) (v := sval F) rfl (by kernel_rfl) (by kernel_rfl) (by kernel_rfl) (fun _ _ _ h => h) (Or.inl ⟨by kernel_rfl, fun w' hw' => by obtain ⟨q0, q1, q2, q3⟩ := hw'; go_simp⟩) hS ?_
    refine wpAnyH_take (i := 3) (v := sval F) rfl (by kernel_rfl) (by kernel_rfl) (by kernel_rfl) (fun _ _ _ h => h) (Or.inl ⟨by kernel_rfl, fun w' hw' => by obtain ⟨q0, q1, q2, q3⟩ := hw'; go_simp⟩) hS ?_
    simp only [Act.put, List.setIfInBounds_toArray]
    refine wpAnyH_ready (rs := [1, 2]) (by kernel_rfl) (by simp) ?_
    refine AllReadyH.cons rfl (fun K' hK' => ?_) (AllReadyH.cons rfl (fun K' hK' => ?_) AllReadyH.nil)
    · clear hS
      go_simp
      have hb : Below Y0.heap.size Y0 (Y0.alloc (.cells (scells F) 85)) := (Below.refl _ _).alloc (Nat.le_refl _) _
      have ON := Hid.of (ownS_one Y0 F w.heap.size B.out.size)
      replace KF := Hid.of (KF.out.below hb KF.out.lt)
      replace K4 := Hid.of (K4.out.below hb K4.out.lt)
      replace K5 := Hid.of (K5.out.below hb K5.out.lt)
      replace B := Hid.of (B.out.trans (hb.mono B.out.size))
      refine hK'.out _ _ (SA.out _ KF.out) (fun hS => ?_)
      clear hK' K' hb
      revert ON KF K4 K5 B hS
      generalize Y0.alloc (.cells (scells F) 85) = Y1
      generalize Y0.heap.size = pn
      intro ON KF K4 K5 B hS
      refine wpAnyH_take (i := 6) (v := .slice (some ⟨pn, 0, none⟩) 1 1) rfl (by kernel_rfl) (by kernel_rfl) (by kernel_rfl) (fun _ _ _ h => h) (Or.inl ⟨by kernel_rfl, fun w' hw' => by obtain ⟨q0, q1, q2, q3⟩ := hw'; go_simp⟩) hS ?_
      refine wpAnyH_ready (rs := [2]) (by kernel_rfl) (by simp) ?_
      refine AllReadyH.cons rfl (fun K' hK' => ?_) AllReadyH.nil
      clear hS
      have hmm := @run_makeMap Tryd.prog
      go_simp
      clear hmm
      have hb : Below Y1.heap.size Y1 (Y1.alloc (.map #[] 0)) := (Below.refl _ _).alloc (Nat.le_refl _) _
      have HM : Hid ((Y1.alloc (.map #[] 0)).heap[Y1.heap.size]? = some (.map #[] 0)) := World.alloc_heap_new Y1 (.map #[] 0)
      have HNB : Hid (w.heap.size + 1 + 1 < Y1.heap.size) := K5.out.lt
      replace ON := Hid.of (World.ownsRow.alloc ON.out (.map #[] 0))
      replace KF := Hid.of (KF.out.below hb KF.out.lt)
      replace K4 := Hid.of (K4.out.below hb K4.out.lt)
      replace K5 := Hid.of (K5.out.below hb K5.out.lt)
      replace B := Hid.of (B.out.trans (hb.mono B.out.size))
      refine hK'.out _ _ (SA.out _ KF.out) (fun hS => ?_)
      clear hK' K' hb
      revert HM HNB ON KF K4 K5 B hS
      generalize Y1.alloc (.map #[] 0) = Y2
      generalize Y1.heap.size = nb
      intro HM HNB ON KF K4 K5 B hS
      refine wpAnyH_ready (rs := [4]) (by kernel_rfl) (by simp) ?_
      refine AllReadyH.cons rfl (fun K' hK' => ?_) AllReadyH.nil
      clear hS
      have hu := updS_firstV hr.out hi.out (w := Y2) (r := nb) HM.out
      go_simp
      clear hu
      replace ON := Hid.of (own_mapV ON.out HM.out (.map (entsS [F]) 1))
      replace HM : Hid ((setMap Y2 nb (.map (entsS [F]) 1)).heap[nb]? = some (.map (entsS [F]) 1)) := heap_setMap _ _ (Array.getElem?_eq_some_iff.1 HM.out).1
      replace KF := Hid.of (KF.out.mapV (br := nb) (by have := HNB.out; omega) (.map (entsS [F]) 1))
      replace K4 := Hid.of (K4.out.mapV (br := nb) (by have := HNB.out; omega) (.map (entsS [F]) 1))
      replace K5 := Hid.of (K5.out.mapV (br := nb) (by have := HNB.out; omega) (.map (entsS [F]) 1))
      replace B := Hid.of (Below.mapV B.out (br := nb) (by have := HNB.out; omega) (.map (entsS [F]) 1))
      refine hK'.out _ _ (SA.out _ KF.out) (fun hS => ?_)
      clear hK' K'
      revert ON HM KF K4 K5 B hS
      generalize setMap Y2 nb (.map (entsS [F]) 1) = Y3
      intro ON HM KF K4 K5 B hS
      refine wpAnyH_take (i := 5) (v := .map (some nb)) rfl (by kernel_rfl) (by kernel_rfl) (by kernel_rfl) (fun _ _ _ h => h) (Or.inl ⟨by kernel_rfl, fun w' hw' => by obtain ⟨q0, q1, q2, q3⟩ := hw'; go_simp⟩) hS ?_
      refine wpAnyH_take (i := 7) (v := .map (some nb)) rfl (by kernel_rfl) (by kernel_rfl) (by kernel_rfl) (fun _ _ _ h => h) (Or.inl ⟨by kernel_rfl, fun w' hw' => by obtain ⟨q0, q1, q2, q3⟩ := hw'; go_simp⟩) hS ?_
      refine wpAnyH_done (by kernel_rfl) ?_ _
      exact ⟨nb, pn, rfl, B.out, K4.out, K5.out, ON.out, HM.out, by have := HNB.out; omega, ⟨[], ⟨rfl, .inl ⟨rfl, rfl⟩⟩, fun j x xs a b => by simp at b⟩, ⟨[], ⟨rfl, .inl ⟨rfl, rfl⟩⟩, fun k m hm => by simp at hm⟩⟩
    · clear hS
      have hmm := @run_makeMap Tryd.prog
      go_simp
      clear hmm
      have hb : Below Y0.heap.size Y0 (Y0.alloc (.map #[] 0)) := (Below.refl _ _).alloc (Nat.le_refl _) _
      have HM : Hid ((Y0.alloc (.map #[] 0)).heap[Y0.heap.size]? = some (.map #[] 0)) := World.alloc_heap_new Y0 (.map #[] 0)
      have HNB : Hid (w.heap.size + 1 + 1 < Y0.heap.size) := K5.out.lt
      replace KF := Hid.of (KF.out.below hb KF.out.lt)
      replace K4 := Hid.of (K4.out.below hb K4.out.lt)
      replace K5 := Hid.of (K5.out.below hb K5.out.lt)
      replace B := Hid.of (B.out.trans (hb.mono B.out.size))
      refine hK'.out _ _ (SA.out _ KF.out) (fun hS => ?_)
      clear hK' K' hb
      revert HM HNB KF K4 K5 B hS
      generalize Y0.alloc (.map #[] 0) = Y4
      generalize Y0.heap.size = nb
      intro HM HNB KF K4 K5 B hS
      refine wpAnyH_ready (rs := [1, 4]) (by kernel_rfl) (by simp) ?_
      refine AllReadyH.cons rfl (fun K' hK' => ?_) (AllReadyH.cons rfl (fun K' hK' => ?_) AllReadyH.nil)
      · clear hS
        go_simp
        have hb : Below Y4.heap.size Y4 (Y4.alloc (.cells (scells F) 85)) := (Below.refl _ _).alloc (Nat.le_refl _) _
        have ON := Hid.of (ownS_one Y4 F w.heap.size B.out.size)
        replace HM := Hid.of ((hb.block nb (Array.getElem?_eq_some_iff.1 HM.out).1).trans HM.out)
        replace KF := Hid.of (KF.out.below hb KF.out.lt)
        replace K4 := Hid.of (K4.out.below hb K4.out.lt)
        replace K5 := Hid.of (K5.out.below hb K5.out.lt)
        replace B := Hid.of (B.out.trans (hb.mono B.out.size))
        refine hK'.out _ _ (SA.out _ KF.out) (fun hS => ?_)
        clear hK' K' hb
        revert ON HM KF K4 K5 B hS
        generalize Y4.alloc (.cells (scells F) 85) = Y5
        generalize Y4.heap.size = pn
        intro ON HM KF K4 K5 B hS
        refine wpAnyH_take (i := 6) (v := .slice (some ⟨pn, 0, none⟩) 1 1) rfl (by kernel_rfl) (by kernel_rfl) (by kernel_rfl) (fun _ _ _ h => h) (Or.inl ⟨by kernel_rfl, fun w' hw' => by obtain ⟨q0, q1, q2, q3⟩ := hw'; go_simp⟩) hS ?_
        refine wpAnyH_ready (rs := [4]) (by kernel_rfl) (by simp) ?_
        refine AllReadyH.cons rfl (fun K' hK' => ?_) AllReadyH.nil
        clear hS
        have hu := updS_firstV hr.out hi.out (w := Y5) (r := nb) HM.out
        go_simp
        clear hu
        replace ON := Hid.of (own_mapV ON.out HM.out (.map (entsS [F]) 1))
        replace HM : Hid ((setMap Y5 nb (.map (entsS [F]) 1)).heap[nb]? = some (.map (entsS [F]) 1)) := heap_setMap _ _ (Array.getElem?_eq_some_iff.1 HM.out).1
        replace KF := Hid.of (KF.out.mapV (br := nb) (by have := HNB.out; omega) (.map (entsS [F]) 1))
        replace K4 := Hid.of (K4.out.mapV (br := nb) (by have := HNB.out; omega) (.map (entsS [F]) 1))
        replace K5 := Hid.of (K5.out.mapV (br := nb) (by have := HNB.out; omega) (.map (entsS [F]) 1))
        replace B := Hid.of (Below.mapV B.out (br := nb) (by have := HNB.out; omega) (.map (entsS [F]) 1))
        refine hK'.out _ _ (SA.out _ KF.out) (fun hS => ?_)
        clear hK' K'
        revert ON HM KF K4 K5 B hS
        generalize setMap Y5 nb (.map (entsS [F]) 1) = Y6
        intro ON HM KF K4 K5 B hS
        refine wpAnyH_take (i := 5) (v := .map (some nb)) rfl (by kernel_rfl) (by kernel_rfl) (by kernel_rfl) (fun _ _ _ h => h) (Or.inl ⟨by kernel_rfl, fun w' hw' => by obtain ⟨q0, q1, q2, q3⟩ := hw'; go_simp⟩) hS ?_
        refine wpAnyH_take (i := 7) (v := .map (some nb)) rfl (by kernel_rfl) (by kernel_rfl) (by kernel_rfl) (fun _ _ _ h => h) (Or.inl ⟨by kernel_rfl, fun w' hw' => by obtain ⟨q0, q1, q2, q3⟩ := hw'; go_simp⟩) hS ?_
        refine wpAnyH_done (by kernel_rfl) ?_ _
        exact ⟨nb, pn, rfl, B.out, K4.out, K5.out, ON.out, HM.out, by have := HNB.out; omega, ⟨[], ⟨rfl, .inl ⟨rfl, rfl⟩⟩, fun j x xs a b => by simp at b⟩, ⟨[], ⟨rfl, .inl ⟨rfl, rfl⟩⟩, fun k m hm => by simp at hm⟩⟩
      · clear hS
        have hu := updS_firstV hr.out hi.out (w := Y4) (r := nb) HM.out
        go_simp
        clear hu
        replace HM : Hid ((setMap Y4 nb (.map (entsS [F]) 1)).heap[nb]? = some (.map (entsS [F]) 1)) := heap_setMap _ _ (Array.getElem?_eq_some_iff.1 HM.out).1
        replace KF := Hid.of (KF.out.mapV (br := nb) (by have := HNB.out; omega) (.map (entsS [F]) 1))
        replace K4 := Hid.of (K4.out.mapV (br := nb) (by have := HNB.out; omega) (.map (entsS [F]) 1))
        replace K5 := Hid.of (K5.out.mapV (br := nb) (by have := HNB.out; omega) (.map (entsS [F]) 1))
        replace B := Hid.of (Below.mapV B.out (br := nb) (by have := HNB.out; omega) (.map (entsS [F]) 1))
        refine hK'.out _ _ (SA.out _ KF.out) (fun hS => ?_)
        clear hK' K'
        revert HM KF K4 K5 B hS
        generalize setMap Y4 nb (.map (entsS [F]) 1) = Y7
        intro HM KF K4 K5 B hS
        refine wpAnyH_take (i := 5) (v := .map (some nb)) rfl (by kernel_rfl) (by kernel_rfl) (by kernel_rfl) (fun _ _ _ h => h) (Or.inl ⟨by kernel_rfl, fun w' hw' => by obtain ⟨q0, q1, q2, q3⟩ := hw'; go_simp⟩) hS ?_
        refine wpAnyH_ready (rs := [1]) (by kernel_rfl) (by simp) ?_
        refine AllReadyH.cons rfl (fun K' hK' => ?_) AllReadyH.nil
        clear hS
        go_simp
        have hb : Below Y7.heap.size Y7 (Y7.alloc (.cells (scells F) 85)) := (Below.refl _ _).alloc (Nat.le_refl _) _
        have ON := Hid.of (ownS_one Y7 F w.heap.size B.out.size)
        replace HM := Hid.of ((hb.block nb (Array.getElem?_eq_some_iff.1 HM.out).1).trans HM.out)
        replace KF := Hid.of (KF.out.below hb KF.out.lt)
        replace K4 := Hid.of (K4.out.below hb K4.out.lt)
        replace K5 := Hid.of (K5.out.below hb K5.out.lt)
        replace B := Hid.of (B.out.trans (hb.mono B.out.size))
        refine hK'.out _ _ (SA.out _ KF.out) (fun hS => ?_)
        clear hK' K' hb
        revert ON HM KF K4 K5 B hS
        generalize Y7.alloc (.cells (scells F) 85) = Y8
        generalize Y7.heap.size = pn
        intro ON HM KF K4 K5 B hS
        refine wpAnyH_take (i := 6) (v := .slice (some ⟨pn, 0, none⟩) 1 1) rfl (by kernel_rfl) (by kernel_rfl) (by kernel_rfl) (fun _ _ _ h => h) (Or.inl ⟨by kernel_rfl, fun w' hw' => by obtain ⟨q0, q1, q2, q3⟩ := hw'; go_simp⟩) hS ?_
        refine wpAnyH_take (i := 7) (v := .map (some nb)) rfl (by kernel_rfl) (by kernel_rfl) (by kernel_rfl) (fun _ _ _ h => h) (Or.inl ⟨by kernel_rfl, fun w' hw' => by obtain ⟨q0, q1, q2, q3⟩ := hw'; go_simp⟩) hS ?_
        refine wpAnyH_done (by kernel_rfl) ?_ _
        exact ⟨nb, pn, rfl, B.out, K4.out, K5.out, ON.out, HM.out, by have := HNB.out; omega, ⟨[], ⟨rfl, .inl ⟨rfl, rfl⟩⟩, fun j x xs a b => by simp at b⟩, ⟨[], ⟨rfl, .inl ⟨rfl, rfl⟩⟩, fun k m hm => by simp at hm⟩⟩
  case aft =>
    clear B KF K4 K5
    refine regQ_imp ?_
    rintro a' X0 ⟨nb, pn, rfl, hvk⟩
    have P0 := Hid.of hvk
    clear hvk
    have HRL0 := Hid.of (RepL.one hr.out hi.out)
    go_wp2_with fail
    go_loopw [6, 8] (fun ns x wr => ∃ (n : Nat) (nv mv : Value) (SL : List (Nat → Nat)) (s : VS), x = .int .i64 n ∧ n ≤ s.1.length ∧ s.2.length ≤ n * 8 ∧ Hid (VK w wr nb ns nv mv SL (s.1.take n) s.2) ∧ Hid (RepL SL s.1) ∧ Hid (VI p g free n 0 s) ∧ Hid (veGo p g free 65 0 ([fl], []) = veGo p g free (65 - n) n s)) (fun _ x _ => 65 - (intOf x).toNat)
    case atStart => exact ⟨0, .slice none 0 0, .slice none 0 0, [F], ([fl], []), rfl, by simp, by simp, P0, HRL0, HVI, Hid.of rfl⟩
    case round =>
      clear P0 HVI HRL0
      obtain ⟨n, nv, mv, SL, s, rfl, hn, hmv, PM, HRL, HV, HG⟩ := hrel
      have hb64 := vi_bound H6.out.2 HV.out
      have HLN := Hid.of HRL.out.len
      have hsl : SL.length ≤ 64 := by rw [HLN.out]; exact hb64
      obtain ⟨na0, nc0, hns, -, -, -⟩ := own_form2 PM.out.ss
      subst hns
      by_cases hlt : n < SL.length
      · have hlt2 : n < s.1.length := by rw [← HLN.out]; exact hlt
        obtain ⟨node, HN⟩ : ∃ node, Hid (s.1[n]? = some node) := ⟨_, List.getElem?_eq_getElem hlt2⟩
        obtain ⟨SN, hSN, hrn, hin⟩ := HRL.out.at HN.out
        have HSN := Hid.of hSN
        have HRN := Hid.of hrn
        have HIN := Hid.of hin
        clear hSN hrn hin
        have HG1 : Hid (veGo p g free 65 0 ([fl], []) = veGo p g free (65 - (n + 1)) (n + 1) (veRow p g free n node s p.seen.length)) := by
          show _ = _
          rw [HG.out, show 65 - n = (65 - (n + 1)) + 1 by omega]
          show (match s.1[n]? with | none => s | some node => veGo p g free (65 - (n + 1)) (n + 1) (veRow p g free n node s p.seen.length)) = _
          rw [HN.out]
        have HV1 := Hid.of (vi_next HMM.out hV.out.gg HV.out HN.out)
        have HR := Hid.of (vi_row HMM.out hV.out.gg HV.out HN.out)
        obtain ⟨NL, HNL⟩ : ∃ NL, Hid (NL = s.1.take n) := ⟨_, rfl⟩
        have HTK : Hid (NL ++ [node] = (veRow p g free n node s p.seen.length).1.take (n + 1)) := by
          show _ = _
          rw [veRow_take p g free n node s (by omega), List.take_add_one, HN.out, HNL.out]; rfl
        have hNLl : NL.length ≤ 64 := by rw [HNL.out, List.length_take]; omega
        rw [← HNL.out] at PM
        obtain ⟨gn, cap, hge, -, -, c0, c1, c2, c3⟩ := PM.out.ss.cell HSN.out
        cases hge
        obtain ⟨vs, ho, hin⟩ := PM.out.on
        obtain ⟨na, nc, hnv, -, -, -⟩ := own_form2 ho
        subst hnv
        have hnI : (n : Int) < (SL.length : Int) := by omega
        clear c0 c1 c2 c3 ho hin HG HV
        go_wp2_with fail
        have SA6 : Hid (∀ X, OwnS X w.heap.size (.slice (some ⟨gn, 0, none⟩) SL.length nc0) SL → X.cell? ⟨gn, n * 4, none⟩ = some (.int .u64 (SN 0)) ∧ X.cell? ⟨gn, n * 4 + 1, none⟩ = some (.int .u64 (SN 1)) ∧ X.cell? ⟨gn, n * 4 + 2, none⟩ = some (.int .u64 (SN 2)) ∧ X.cell? ⟨gn, n * 4 + 3, none⟩ = some (.int .u64 (SN 3))) := fun X h => by
          obtain ⟨g', cap', e, -, -, c0, c1, c2, c3⟩ := OwnS.cell h HSN.out
          cases e
          exact ⟨c0, c1, c2, c3⟩
        refine Code.wp_mono (Q := regQ fun a' W' => ∃ (nv' : Value) (r26 r27 r28 r29 r30 r31 r32 r33 r34 r35 : Value), a' = { tmps := #[.pointer (some ⟨kb, 0, none⟩), sval F, undef, .pointer (some ⟨w.heap.size, 0, none⟩), .pointer (some ⟨w.heap.size + 1, 0, none⟩), .pointer (some ⟨w.heap.size + 1 + 1, 0, none⟩), .slice (some ⟨gn, 0, none⟩) SL.length nc0, .map (some nb), .int .i64 (n : Int), undef, u10, u11, u12, u13, u14, sval F, .slice (some ⟨pn, 0, none⟩) 1 1, .map (some nb), sval F, .map (some nb), .int .i64 (n : Int), .slice (some ⟨gn, 0, none⟩) SL.length nc0, .int .i64 (SL.length : Int), .bool true, u24, u25, r26, r27, r28, r29, r30, r31, r32, r33, r34, r35, u36, u37, u38, u39, u40, u41, u42, u43, u44, u45, u46, u47, u48, u49, u50, u51, u52, u53, u54, u55, u56, u57, u58, u59, u60, u61, u62, u63, u64, u65, u66, u67, u68, u69, u70, u71, u72, u73, u74, u75, u76, u77, u78, u79, u80, u81, u82, u83, u84, u85, u86, u87, u88, undef], defers := [] } ∧ VK w W' nb (.slice (some ⟨gn, 0, none⟩) SL.length nc0) nv' mv SL (NL ++ [node]) s.2) ?aft6 ?reg6
        case reg6 =>
          refine wp_region_held_drew (S := fun w' => w'.cell? ⟨gn, n * 4, none⟩ = some (.int .u64 (SN 0)) ∧ w'.cell? ⟨gn, n * 4 + 1, none⟩ = some (.int .u64 (SN 1)) ∧ w'.cell? ⟨gn, n * 4 + 2, none⟩ = some (.int .u64 (SN 2)) ∧ w'.cell? ⟨gn, n * 4 + 3, none⟩ = some (.int .u64 (SN 3))) (by kernel_rfl) (SA6.out _ (PM.out.below (Below.refl _ _).drew).ss) (fun hS => ?_)
          replace PM := Hid.of (PM.out.below (Below.refl _ _).drew)
          revert hS PM
          generalize wr.drew = Y0
          intro hS PM
          refine wpAnyH_take (i := 0) (v := .pointer (some ⟨w.heap.size + 1 + 1, 0, none⟩)) rfl (by kernel_rfl) (by kernel_rfl) (by kernel_rfl) (fun _ _ _ h => h) (Or.inl ⟨by kernel_rfl, fun w' hw' => by obtain ⟨q0, q1, q2, q3⟩ := hw'; go_simp⟩) hS ?_
          refine wpAnyH_take (i := 2) (v := .slice (some ⟨gn, 0, none⟩) SL.length nc0) rfl (by kernel_rfl) (by kernel_rfl) (by kernel_rfl) (fun _ _ _ h => h) (Or.inl ⟨by kernel_rfl, fun w' hw' => by obtain ⟨q0, q1, q2, q3⟩ := hw'; go_simp⟩) hS ?_
          refine wpAnyH_take (i := 3) (v := .int .i64 (n : Int)) rfl (by kernel_rfl) (by kernel_rfl) (by kernel_rfl) (fun _ _ _ h => h) (Or.inl ⟨by kernel_rfl, fun w' hw' => by obtain ⟨q0, q1, q2, q3⟩ := hw'; go_simp⟩) hS ?_
          refine wpAnyH_take (i := 4) (v := .pointer (some ⟨gn, n * 4, none⟩)) rfl (by kernel_rfl) (by kernel_rfl) (by kernel_rfl) (fun _ _ _ h => h) (Or.inl ⟨by kernel_rfl, fun w' hw' => by obtain ⟨q0, q1, q2, q3⟩ := hw'; go_simp⟩) hS ?_
          refine wpAnyH_take (i := 5) (v := sval SN) rfl (by kernel_rfl) (by kernel_rfl) (by kernel_rfl) (fun _ _ _ h => h) (Or.inl ⟨by kernel_rfl, fun w' hw' => by obtain ⟨q0, q1, q2, q3⟩ := hw'; go_simp⟩) hS ?_
          simp only [Act.put, List.setIfInBounds_toArray]
          refine wpAnyH_ready (rs := [1, 6]) (by kernel_rfl) (by simp) ?_
          refine AllReadyH.cons rfl (fun K' hK' => ?_) (AllReadyH.cons rfl (fun K' hK' => ?_) AllReadyH.nil)
          · clear hS
            have z0 := PM.out.kv.cell 0 rfl
            go_simp
            refine hK'.out _ _ (SA6.out _ PM.out.ss) (fun hS => ?_)
            clear hK' K' z0
            refine wpAnyH_ready (rs := [6]) (by kernel_rfl) (by simp) ?_
            refine AllReadyH.cons rfl (fun K' hK' => ?_) AllReadyH.nil
            clear hS
            go_simp
            refine (rowO_any SN Y0 HRN.out.ok (hT.out.below PM.out.bel hT.out.lt)).mono ?_
            rintro e Y2 ⟨rv, rfl, ho, hb⟩
            rw [rep_row HRN.out HIN.out] at ho
            obtain ⟨ra, rc, hrv, -, -, -⟩ := own_form2 ho
            subst hrv
            have IR := Hid.of (InnN.of_own (n := 0) ho)
            replace PM := Hid.of (PM.out.below hb)
            refine hK'.out _ _ (SA6.out _ PM.out.ss) (fun hS => ?_)
            clear hK' K' hb ho
            refine wpAnyH_ready (rs := [7]) (by kernel_rfl) (by simp) ?_
            refine AllReadyH.cons rfl (fun K' hK' => ?_) AllReadyH.nil
            clear hS
            go_simp
            have hb : Below Y2.heap.size Y2 (Y2.alloc (.cells #[.slice ra node.length rc] 22)) := (Below.refl _ _).alloc (Nat.le_refl _) _
            replace IR := Hid.of (IR.out.blw hb (Nat.zero_le _))
            replace PM := Hid.of (PM.out.below hb)
            have C33 : Hid (∀ j u, ([.slice ra node.length rc] : List Value)[j]? = some u → (Y2.alloc (.cells #[.slice ra node.length rc] 22)).cell? ((⟨Y2.heap.size, 0, none⟩ : Addr).add j) = some u) := cell_one_new _ _ _
            refine hK'.out _ _ (SA6.out _ PM.out.ss) (fun hS => ?_)
            clear hK' K' hb
            revert IR PM C33 hS
            generalize Y2.alloc (.cells #[.slice ra node.length rc] 22) = Y3
            generalize Y2.heap.size = p33
            intro IR PM C33 hS
            refine wpAnyH_ready (rs := [8]) (by kernel_rfl) (by simp) ?_
            refine AllReadyH.cons rfl (fun K' hK' => ?_) AllReadyH.nil
            clear hS
            refine Exists.elim PM.out.on (fun vs hvs => ?_)
            have ho := hvs.1
            have hin := hvs.2
            have hB0 := PM.out.bel.size
            refine step_append_block rfl (.tmp 27) (.tmp 33) 69 rfl w.heap.size 22 i1 (.slice none 0 0) 1 24 Tryd.underlying69 hi1 hz0 hz1 hz2 rfl (by decide) _ _ _ rfl ho ⟨p33, 0, none⟩ 1 1 [.slice ra node.length rc] rfl rfl C33.out (by intro u hu; simp at hu; subst hu; rfl) (by decide) (by unfold maxLen; omega) (by omega) hB0 ?_
            intro v8 Y4 o8 g8 n8
            have e8 := VK.node (xs := node) PM.out (Below.refl _ _) ho hin IR.out o8 g8
            have OS8 : OwnS Y4 w.heap.size (.slice (some ⟨gn, 0, none⟩) SL.length nc0) SL := own_same PM.out.ss (fun k hk => Exists.elim (own_type PM.out.ss hk) (fun cs hc => grown_cellsV ho g8 k cs _ (by decide) hc))
            obtain ⟨qa, qc, hv8, -, -, -⟩ := own_form2 o8
            subst hv8
            have E1 := Hid.of e8.1
            have E2 := Hid.of e8.2.1
            refine hK'.out _ _ (SA6.out _ OS8) (fun hS => ?_)
            clear hK' K' o8 g8 n8 ho hin hvs hB0 OS8 e8 IR C33 PM
            refine wpAnyH_take (i := 9) (v := .pointer (some ⟨w.heap.size + 1 + 1, 0, none⟩)) rfl (by kernel_rfl) (by kernel_rfl) (by kernel_rfl) (fun _ _ _ h => h) (Or.inl ⟨by kernel_rfl, fun w' hw' => by obtain ⟨q0, q1, q2, q3⟩ := hw'; go_simp⟩) hS ?_
            refine wpAnyH_ready (rs := [10]) (by kernel_rfl) (by simp) ?_
            refine AllReadyH.cons rfl (fun K' hK' => ?_) AllReadyH.nil
            clear hS
            have yf := E1.out.frozen
            have y0 := E1.out.cell 0 rfl
            go_simp
            refine hK'.out _ _ (SA6.out _ E2.out.ss) (fun hS => ?_)
            clear hK' K' yf y0
            refine wpAnyH_done (by kernel_rfl) ?_ _
            exact ⟨_, _, _, _, _, _, _, _, _, _, _, rfl, E2.out⟩
          · clear hS
            go_simp
            refine (rowO_any SN Y0 HRN.out.ok (hT.out.below PM.out.bel hT.out.lt)).mono ?_
            rintro e Y6 ⟨rv, rfl, ho, hb⟩
            rw [rep_row HRN.out HIN.out] at ho
            obtain ⟨ra, rc, hrv, -, -, -⟩ := own_form2 ho
            subst hrv
            have IR := Hid.of (InnN.of_own (n := 0) ho)
            replace PM := Hid.of (PM.out.below hb)
            refine hK'.out _ _ (SA6.out _ PM.out.ss) (fun hS => ?_)
            clear hK' K' hb ho
            refine wpAnyH_ready (rs := [1, 7]) (by kernel_rfl) (by simp) ?_
            refine AllReadyH.cons rfl (fun K' hK' => ?_) (AllReadyH.cons rfl (fun K' hK' => ?_) AllReadyH.nil)
            · clear hS
              have z0 := PM.out.kv.cell 0 rfl
              go_simp
              refine hK'.out _ _ (SA6.out _ PM.out.ss) (fun hS => ?_)
              clear hK' K' z0
              refine wpAnyH_ready (rs := [7]) (by kernel_rfl) (by simp) ?_
              refine AllReadyH.cons rfl (fun K' hK' => ?_) AllReadyH.nil
              clear hS
              go_simp
              have hb : Below Y6.heap.size Y6 (Y6.alloc (.cells #[.slice ra node.length rc] 22)) := (Below.refl _ _).alloc (Nat.le_refl _) _
              replace IR := Hid.of (IR.out.blw hb (Nat.zero_le _))
              replace PM := Hid.of (PM.out.below hb)
              have C33 : Hid (∀ j u, ([.slice ra node.length rc] : List Value)[j]? = some u → (Y6.alloc (.cells #[.slice ra node.length rc] 22)).cell? ((⟨Y6.heap.size, 0, none⟩ : Addr).add j) = some u) := cell_one_new _ _ _
              refine hK'.out _ _ (SA6.out _ PM.out.ss) (fun hS => ?_)
              clear hK' K' hb
              revert IR PM C33 hS
              generalize Y6.alloc (.cells #[.slice ra node.length rc] 22) = Y8
              generalize Y6.heap.size = p33
              intro IR PM C33 hS
              refine wpAnyH_ready (rs := [8]) (by kernel_rfl) (by simp) ?_
              refine AllReadyH.cons rfl (fun K' hK' => ?_) AllReadyH.nil
              clear hS
              refine Exists.elim PM.out.on (fun vs hvs => ?_)
              have ho := hvs.1
              have hin := hvs.2
              have hB0 := PM.out.bel.size
              refine step_append_block rfl (.tmp 27) (.tmp 33) 69 rfl w.heap.size 22 i1 (.slice none 0 0) 1 24 Tryd.underlying69 hi1 hz0 hz1 hz2 rfl (by decide) _ _ _ rfl ho ⟨p33, 0, none⟩ 1 1 [.slice ra node.length rc] rfl rfl C33.out (by intro u hu; simp at hu; subst hu; rfl) (by decide) (by unfold maxLen; omega) (by omega) hB0 ?_
              intro v8 Y9 o8 g8 n8
              have e8 := VK.node (xs := node) PM.out (Below.refl _ _) ho hin IR.out o8 g8
              have OS8 : OwnS Y9 w.heap.size (.slice (some ⟨gn, 0, none⟩) SL.length nc0) SL := own_same PM.out.ss (fun k hk => Exists.elim (own_type PM.out.ss hk) (fun cs hc => grown_cellsV ho g8 k cs _ (by decide) hc))
              obtain ⟨qa, qc, hv8, -, -, -⟩ := own_form2 o8
              subst hv8
              have E1 := Hid.of e8.1
              have E2 := Hid.of e8.2.1
              refine hK'.out _ _ (SA6.out _ OS8) (fun hS => ?_)
              clear hK' K' o8 g8 n8 ho hin hvs hB0 OS8 e8 IR C33 PM
              refine wpAnyH_take (i := 9) (v := .pointer (some ⟨w.heap.size + 1 + 1, 0, none⟩)) rfl (by kernel_rfl) (by kernel_rfl) (by kernel_rfl) (fun _ _ _ h => h) (Or.inl ⟨by kernel_rfl, fun w' hw' => by obtain ⟨q0, q1, q2, q3⟩ := hw'; go_simp⟩) hS ?_
              refine wpAnyH_ready (rs := [10]) (by kernel_rfl) (by simp) ?_
              refine AllReadyH.cons rfl (fun K' hK' => ?_) AllReadyH.nil
              clear hS
              have yf := E1.out.frozen
              have y0 := E1.out.cell 0 rfl
              go_simp
              refine hK'.out _ _ (SA6.out _ E2.out.ss) (fun hS => ?_)
              clear hK' K' yf y0
              refine wpAnyH_done (by kernel_rfl) ?_ _
              exact ⟨_, _, _, _, _, _, _, _, _, _, _, rfl, E2.out⟩
            · clear hS
              go_simp
              have hb : Below Y6.heap.size Y6 (Y6.alloc (.cells #[.slice ra node.length rc] 22)) := (Below.refl _ _).alloc (Nat.le_refl _) _
              replace IR := Hid.of (IR.out.blw hb (Nat.zero_le _))
              replace PM := Hid.of (PM.out.below hb)
              have C33 : Hid (∀ j u, ([.slice ra node.length rc] : List Value)[j]? = some u → (Y6.alloc (.cells #[.slice ra node.length rc] 22)).cell? ((⟨Y6.heap.size, 0, none⟩ : Addr).add j) = some u) := cell_one_new _ _ _
              refine hK'.out _ _ (SA6.out _ PM.out.ss) (fun hS => ?_)
              clear hK' K' hb
              revert IR PM C33 hS
              generalize Y6.alloc (.cells #[.slice ra node.length rc] 22) = Y11
              generalize Y6.heap.size = p33
              intro IR PM C33 hS
              refine wpAnyH_ready (rs := [1]) (by kernel_rfl) (by simp) ?_
              refine AllReadyH.cons rfl (fun K' hK' => ?_) AllReadyH.nil
              clear hS
              have z0 := PM.out.kv.cell 0 rfl
              go_simp
              refine hK'.out _ _ (SA6.out _ PM.out.ss) (fun hS => ?_)
              clear hK' K' z0
              refine wpAnyH_ready (rs := [8]) (by kernel_rfl) (by simp) ?_
              refine AllReadyH.cons rfl (fun K' hK' => ?_) AllReadyH.nil
              clear hS
              refine Exists.elim PM.out.on (fun vs hvs => ?_)
              have ho := hvs.1
              have hin := hvs.2
              have hB0 := PM.out.bel.size
              refine step_append_block rfl (.tmp 27) (.tmp 33) 69 rfl w.heap.size 22 i1 (.slice none 0 0) 1 24 Tryd.underlying69 hi1 hz0 hz1 hz2 rfl (by decide) _ _ _ rfl ho ⟨p33, 0, none⟩ 1 1 [.slice ra node.length rc] rfl rfl C33.out (by intro u hu; simp at hu; subst hu; rfl) (by decide) (by unfold maxLen; omega) (by omega) hB0 ?_
              intro v8 Y13 o8 g8 n8
              have e8 := VK.node (xs := node) PM.out (Below.refl _ _) ho hin IR.out o8 g8
              have OS8 : OwnS Y13 w.heap.size (.slice (some ⟨gn, 0, none⟩) SL.length nc0) SL := own_same PM.out.ss (fun k hk => Exists.elim (own_type PM.out.ss hk) (fun cs hc => grown_cellsV ho g8 k cs _ (by decide) hc))
              obtain ⟨qa, qc, hv8, -, -, -⟩ := own_form2 o8
              subst hv8
              have E1 := Hid.of e8.1
              have E2 := Hid.of e8.2.1
              refine hK'.out _ _ (SA6.out _ OS8) (fun hS => ?_)
              clear hK' K' o8 g8 n8 ho hin hvs hB0 OS8 e8 IR C33 PM
              refine wpAnyH_take (i := 9) (v := .pointer (some ⟨w.heap.size + 1 + 1, 0, none⟩)) rfl (by kernel_rfl) (by kernel_rfl) (by kernel_rfl) (fun _ _ _ h => h) (Or.inl ⟨by kernel_rfl, fun w' hw' => by obtain ⟨q0, q1, q2, q3⟩ := hw'; go_simp⟩) hS ?_
              refine wpAnyH_ready (rs := [10]) (by kernel_rfl) (by simp) ?_
              refine AllReadyH.cons rfl (fun K' hK' => ?_) AllReadyH.nil
              clear hS
              have yf := E1.out.frozen
              have y0 := E1.out.cell 0 rfl
              go_simp
              refine hK'.out _ _ (SA6.out _ E2.out.ss) (fun hS => ?_)
              clear hK' K' yf y0
              refine wpAnyH_done (by kernel_rfl) ?_ _
              exact ⟨_, _, _, _, _, _, _, _, _, _, _, rfl, E2.out⟩
        case aft6 =>
          clear SA6 PM
          refine regQ_imp ?_
          rintro a' X1 ⟨nv', r26, r27, r28, r29, r30, r31, r32, r33, r34, r35, rfl, hvk⟩
          have PN := Hid.of hvk
          clear hvk
          obtain ⟨x0, x1, x2, x3, x4, x5, x6⟩ := (hK.out.below PN.out.bel hK.out.lt).plant
          dsimp only at x0 x1 x2 x3 x4 x5 x6
          go_wp2_with fail
          clear x0 x1 x2 x3 x4 x5 x6
          obtain ⟨hlen1⟩ : Nonempty (n + 1 ≤ (veRow p g free n node s p.seen.length).1.length) := ⟨by
            have := (List.getElem?_eq_some_iff.1 (HR.out p.seen.length (Nat.le_refl _)).2).1
            omega⟩
          have hml1 := veRow_len p g free n node s p.seen.length (Nat.le_refl _)
          go_loopw [6, 42] (fun ns x wr => ∃ (k : Nat) (mv : Value) (SL1 : List (Nat → Nat)), x = .int .i64 k ∧ k ≤ p.seen.length ∧ Hid (VK w wr nb ns nv' mv SL1 (NL ++ [node]) (veRow p g free n node s k).2) ∧ Hid (RepL SL1 (veRow p g free n node s k).1)) (fun _ x _ => p.seen.length - (intOf x).toNat)
          case atStart => exact ⟨0, mv, SL, rfl, Nat.zero_le _, PN, HRL⟩
          case round =>
            clear PN
            obtain ⟨k, mv1, SL1, rfl, hk, PR, HR1⟩ := hrel
            rename World => wl
            by_cases hks : k < p.seen.length
            · obtain ⟨eb, eo, rfl, hwb, hcw⟩ : ∃ eb eo, sa = some ⟨eb, eo, none⟩ ∧ eb < w.heap.size ∧ Cells w eb eo p.seen := by
                rcases hP.out.s.at_ with h0 | h0
                · rw [h0] at hks; simp at hks
                · exact h0
              obtain ⟨e, HE1, ce⟩ := hcw.at hks
              have HEK : Hid (p.seen[k]? = some e) := by show _ = _; rw [HE1.out, List.getElem?_eq_getElem hks]; rfl
              have HEM := Hid.of (List.mem_of_getElem? HEK.out)
              have heb := HSE.out.2 e HEM.out
              obtain ⟨en, rfl⟩ : ∃ en : Nat, e = (en : Int) := ⟨e.toNat, by omega⟩
              have he8 : en < 8 := by omega
              clear heb HE1 hcw
              replace ce := (PR.out.bel.cell (p := ⟨eb, eo + k, none⟩) hwb).trans ce
              have hkI : (k : Int) < (p.seen.length : Int) := by omega
              have HSuc : Hid (veRow p g free n node s (k + 1) = veStep p g free n node (veRow p g free n node s k) (en : Int)) := veRow_succ HEK.out
              obtain ⟨VI1, N1⟩ := HR.out k (by omega)
              have hml := veRow_len p g free n node s k (by omega)
              revert PR HR1 HSuc VI1 N1 hml
              generalize veRow p g free n node s k = s1
              intro PR HR1 HSuc VI1 N1 hml
              have hl64 := vi_bound H6.out.2 VI1
              have HN1 := Hid.of N1
              have HND := Hid.of VI1.nd
              have HNB := Hid.of (VI1.row node (List.mem_of_getElem? N1)).2.1
              have HL1 := Hid.of HR1.out.len
              have hsl1 : SL1.length ≤ 64 := by rw [HL1.out]; exact hl64
              obtain ⟨SM, hSM, hrm, -⟩ := HR1.out.at N1
              have HRM := Hid.of hrm
              obtain ⟨gm, cm, hge, -, -, c0, c1, c2, c3⟩ := PR.out.ss.cell hSM
              subst hge
              have hn1 : (n : Int) < (SL1.length : Int) := by have := (List.getElem?_eq_some_iff.1 hSM).1; omega
              clear VI1 N1 hSM hrm
              go_wp2_with fail
              clear c0 c1 c2 c3 ce
              refine (kstay_any p ⟨Pl, some ⟨eb, eo, none⟩, sc, ta, tc⟩ fa fc free R T mb c kb g LS lS hV SM node HRM HIN HNB en HEM wl (Hid.of (hK.out.below PR.out.bel hK.out.lt)) (Hid.of ((PR.out.bel.block mb (Array.getElem?_eq_some_iff.1 hm.out).1).trans hm.out)) (Hid.of (hF.out.below PR.out.bel (Nat.le_refl _))) hFl (Hid.of (hT.out.below PR.out.bel hT.out.lt))).mono ?_
              rintro e' Y1 ⟨O, rfl, hro, hb1⟩
              obtain ⟨ST, HST⟩ : ∃ ST, Hid (ST = stayV p g free node (en : Int)) := ⟨_, rfl⟩
              rw [← HST.out] at hro
              have HRO := Hid.of hro
              have HIS : Hid (Inc ST) := by show Inc _; rw [HST.out]; exact List.Pairwise.filter _ HIN.out
              have HSTB : Hid (∀ x ∈ ST, 0 ≤ x ∧ x < p.m.st) := fun x hx => by rw [HST.out] at hx; exact HNB.out x ((mem_stay _ _ _ _ _ _).1 hx).1
              replace PR := Hid.of (PR.out.below hb1)
              clear hb1 hro
              have hbz : Below Y1.heap.size Y1 (Y1.alloc (.cells (scells O) 85)) := (Below.refl _ _).alloc (Nat.le_refl _) _
              have KO : Hid (SB (Y1.alloc (.cells (scells O) 85)) Y1.heap.size O) := Blk.new Y1 _ _
              have HGO : Hid (gm ≠ Y1.heap.size) := by
                show _ ≠ _
                have := (World.ownsRow.lt PR.out.ss gm rfl).2
                omega
              have HNO : Hid (nb ≠ Y1.heap.size) := Nat.ne_of_lt (Array.getElem?_eq_some_iff.1 PR.out.mp).1
              replace PR := Hid.of (PR.out.below hbz)
              clear hbz
              obtain ⟨o0, o1, o2, o3⟩ := SB.cells KO.out
              have hgd := run_guard_set
              cases hE : emptyB O with
              | true =>
                have heq : ∀ V, (Op.equalIn 10000 85 (.agg #[.int .u64 (O 0), .int .u64 (O 1), .int .u64 (O 2), .int .u64 (O 3)]) (.agg #[.int .u64 0, .int .u64 0, .int .u64 0, .int .u64 0])).run Tryd.prog V = .ok true V := fun V => by rw [← hE]; exact run_equalIn_set O V
                have HVS : Hid (veRow p g free n node s (k + 1) = s1) := by
                  show _ = _
                  rw [HSuc.out]
                  unfold veStep
                  rw [← HST.out, (empty_of HRO.out).1 hE]
                  rfl
                clear hE
                go_wp2_with fail
                clear o0 o1 o2 o3 hgd heq
                go_roundw
                case rel => exact ⟨k + 1, mv1, SL1, by go_num, by omega, (by show VK _ _ _ _ _ _ _ _ _; rw [HVS.out]; exact PR.out), (by show RepL _ _; rw [HVS.out]; exact HR1.out)⟩
                case measure => simp [intOf]; omega
              | false =>
                have heq : ∀ V, (Op.equalIn 10000 85 (.agg #[.int .u64 (O 0), .int .u64 (O 1), .int .u64 (O 2), .int .u64 (O 3)]) (.agg #[.int .u64 0, .int .u64 0, .int .u64 0, .int .u64 0])).run Tryd.prog V = .ok false V := fun V => by rw [← hE]; exact run_equalIn_set O V
                have HSN0 : Hid (¬ ST.length = 0) := fun h => by
                  have := (empty_of HRO.out).2 (List.length_eq_zero_iff.1 h)
                  rw [hE] at this; cases this
                clear hE
                go_wp2_with fail
                clear o0 o1 o2 o3 hgd heq
                revert KO PR HGO HNO
                generalize Y1.alloc (.cells (scells O) 85) = U0
                generalize Y1.heap.size = p11
                intro KO HGO HNO PR
                have HS6 : Hid (∀ x ∈ ST, 0 ≤ x ∧ x < (6 : Nat)) := fun x hx => by have := HSTB.out x hx; have := H6.out; omega
                refine (knext_any O HRO.out.ok en he8 p ⟨Pl, some ⟨eb, eo, none⟩, sc, ta, tc⟩ fa fc free R T mb hV.out.t.ok (alls_lt HRO.out HS6.out) kb U0 (hT.out.below PR.out.bel hT.out.lt) (hK.out.below PR.out.bel hK.out.lt)).mono ?_
                rintro e' U1 ⟨rfl, hb1⟩
                obtain ⟨WI, HWI⟩ : ∃ WI, Hid (WI = wideL p.m.arrows p.seen (toV p g free node (en : Int))) := ⟨_, rfl⟩
                have HSW : Hid (seeL p ST (en : Int) = WI) := by show _ = _; rw [HST.out, HWI.out]; exact stay_see HMM.out hV.out.pl g free node (en : Int)
                have RN : Hid (Rep (toF (fun n => T (n * 8 + en)) (allS O)) WI) := by
                  have := rep_nextV hV.out.hp hV.out.t HRO.out HSTB.out HEM.out
                  rw [Int.toNat_natCast, HSW.out] at this
                  exact this
                have HWN : Hid (Inc WI) := by show Inc _; rw [← HSW.out]; exact (see_in HMM.out ST (en : Int)).1
                obtain ⟨X, HX⟩ : ∃ X, Hid (X = toF (fun n => T (n * 8 + en)) (allS O)) := ⟨_, rfl⟩
                rw [← HX.out] at RN ⊢
                replace PR := Hid.of (PR.out.below hb1)
                replace KO := Hid.of (KO.out.below hb1 KO.out.lt)
                clear hb1
                have hbz : Below U1.heap.size U1 (U1.alloc (.cells (scells X) 85)) := (Below.refl _ _).alloc (Nat.le_refl _) _
                have KX : Hid (SB (U1.alloc (.cells (scells X) 85)) U1.heap.size X) := Blk.new U1 _ _
                have HNX : Hid (nb ≠ U1.heap.size) := Nat.ne_of_lt (Array.getElem?_eq_some_iff.1 PR.out.mp).1
                replace PR := Hid.of (PR.out.below hbz)
                replace KO := Hid.of (KO.out.below hbz KO.out.lt)
                obtain ⟨y0, y1, y2, y3⟩ := SB.cells KX.out
                have HVS : Hid (veRow p g free n node s (k + 1) = (if posN s1.1 WI = s1.1.length then s1.1 ++ [WI] else s1.1, s1.2 ++ [⟨n, (en : Int), ST, posN s1.1 WI⟩])) := by
                  show _ = _
                  rw [HSuc.out]
                  unfold veStep
                  rw [← HST.out, if_neg HSN0.out, ← HWI.out]
                have hm64 : s1.2.length ≤ 1024 := by omega
                obtain ⟨ms, mho, -⟩ := PR.out.om
                obtain ⟨ma, mc, hmv, -, -, -⟩ := own_form2 mho
                subst hmv
                clear mho hbz
                by_cases hnew : findL s1.1 WI = s1.1.length
                · have HVS2 : Hid (veRow p g free n node s (k + 1) = (s1.1 ++ [WI], s1.2 ++ [⟨n, (en : Int), ST, SL1.length⟩])) := by
                    show _ = _
                    rw [HVS.out, posN_findL, hnew, if_pos rfl, HL1.out]
                  have HRLN := Hid.of (HR1.out.snoc RN.out HWN.out)
                  have lk := lookS_new HR1.out HND.out RN.out HWN.out (w := U1.alloc (.cells (scells X) 85)) (r := nb) PR.out.mp hnew
                  have hu := updS_new HR1.out HND.out RN.out HWN.out (w := U1.alloc (.cells (scells X) 85)) (r := nb) PR.out.mp hnew
                  have NZ : Hid (SB (setMap (U1.alloc (.cells (scells X) 85)) nb (.map (entsS (SL1 ++ [X])) (SL1.length + 1))) U1.heap.size X) := Blk.mapV KX.out (br := nb) (Ne.symm HNX.out) _
                  obtain ⟨k0', k1', k2', k3'⟩ := SB.cells NZ.out
                  have OZ := Hid.of (PR.out.ssM (.map (entsS (SL1 ++ [X])) (SL1.length + 1)))
                  have hzs : (setMap (U1.alloc (.cells (scells X) 85)) nb (.map (entsS (SL1 ++ [X])) (SL1.length + 1))).heap.size = U1.heap.size + 1 := by rw [size_setMap, World.size_alloc]
                  have CF : Hid (∀ j v, ([.int .u64 (X 0), .int .u64 (X 1), .int .u64 (X 2), .int .u64 (X 3)] : List Value)[j]? = some v → ((setMap (U1.alloc (.cells (scells X) 85)) nb (.map (entsS (SL1 ++ [X])) (SL1.length + 1))).alloc (.cells #[.int .u64 (X 0), .int .u64 (X 1), .int .u64 (X 2), .int .u64 (X 3)] 85)).cell? ((⟨U1.heap.size + 1, 0, none⟩ : Addr).add j) = some v) := by
                    have := cells_four (setMap (U1.alloc (.cells (scells X) 85)) nb (.map (entsS (SL1 ++ [X])) (SL1.length + 1))) (setMap (U1.alloc (.cells (scells X) 85)) nb (.map (entsS (SL1 ++ [X])) (SL1.length + 1))) rfl 85 (.int .u64 (X 0)) (.int .u64 (X 1)) (.int .u64 (X 2)) (.int .u64 (X 3))
                    rw [hzs] at this
                    exact this
                  have hUB : w.heap.size ≤ U1.heap.size + 1 := by have := PR.out.bel.size; rw [World.size_alloc] at this; exact this
                  clear hnew HVS
                  go_wp2_with (at_builtin; refine wpList_append_block _ rfl (.tmp 73) (.tmp 75) 100 rfl w.heap.size 85 k0 (.agg #[.int .u64 0, .int .u64 0, .int .u64 0, .int .u64 0]) 4 32 Tryd.underlying100 ki kz0 kz1 kz2 rfl (by decide) _ _ _ rfl (World.ownsRow.alloc OZ.out _) ⟨U1.heap.size + 1, 0, none⟩ 1 1 [.int .u64 (X 0), .int .u64 (X 1), .int .u64 (X 2), .int .u64 (X 3)] rfl rfl CF.out (by intro u hu; simp at hu; rcases hu with rfl | rfl | rfl | rfl <;> rfl) (by decide) (by unfold maxLen; omega) (by omega) (by rw [World.size_alloc, hzs]; omega) ?_)
                  intro v7 U8 o7 g7 n7
                  obtain ⟨p1, p2⟩ := VK.set PR.out ((Below.refl _ _).alloc (Nat.le_refl _) _) (own_set o7) g7
                  have KO8 : Hid (SB U8 p11 O) := (p2 p11 KO.out.lt (Ne.symm HNO.out) (fun e => by injection e with e; exact HGO.out e)).trans KO.out
                  obtain ⟨qa7, qc7, hv7, -, -, -⟩ := own_form2 o7
                  subst hv7
                  have PQ := Hid.of p1
                  clear p1 p2 o7 g7 n7 y0 y1 y2 y3 k0' k1' k2' k3' NZ OZ CF lk hu hzs hUB PR KX KO
                  have KO := KO8
                  clear KO8
                  go_wp2_with fail
                  have SA18 : Hid (∀ X, SB X p11 O → X.cell? ⟨p11, 0, none⟩ = some (.int .u64 (O 0)) ∧ X.cell? ⟨p11, 1, none⟩ = some (.int .u64 (O 1)) ∧ X.cell? ⟨p11, 2, none⟩ = some (.int .u64 (O 2)) ∧ X.cell? ⟨p11, 3, none⟩ = some (.int .u64 (O 3))) := fun X h => SB.cells h
                  refine wp_region_held_drew (S := fun w' => w'.cell? ⟨p11, 0, none⟩ = some (.int .u64 (O 0)) ∧ w'.cell? ⟨p11, 1, none⟩ = some (.int .u64 (O 1)) ∧ w'.cell? ⟨p11, 2, none⟩ = some (.int .u64 (O 2)) ∧ w'.cell? ⟨p11, 3, none⟩ = some (.int .u64 (O 3))) (by kernel_rfl) (SA18.out _ (Blk.drew KO.out)) (fun hS => ?_)
                  replace PQ := Hid.of (PQ.out.below (Below.refl _ _).drew)
                  replace KO : Hid (SB U8.drew p11 O) := Blk.drew KO.out
                  revert hS PQ KO
                  generalize U8.drew = Za
                  intro hS PQ KO
                  refine wpAnyH_take (i := 0) (v := .pointer (some ⟨w.heap.size + 1 + 1, 1, none⟩)) rfl (by kernel_rfl) (by kernel_rfl) (by kernel_rfl) (fun _ _ _ h => h) (Or.inl ⟨by kernel_rfl, fun w' hw' => by obtain ⟨q0, q1, q2, q3⟩ := hw'; go_simp⟩) hS ?_
                  refine wpAnyH_take (i := 2) (v := .int .i64 (n : Int)) rfl (by kernel_rfl) (by kernel_rfl) (by kernel_rfl) (fun _ _ _ h => h) (Or.inl ⟨by kernel_rfl, fun w' hw' => by obtain ⟨q0, q1, q2, q3⟩ := hw'; go_simp⟩) hS ?_
                  refine wpAnyH_take (i := 3) (v := .int .i64 (en : Int)) rfl (by kernel_rfl) (by kernel_rfl) (by kernel_rfl) (fun _ _ _ h => h) (Or.inl ⟨by kernel_rfl, fun w' hw' => by obtain ⟨q0, q1, q2, q3⟩ := hw'; go_simp⟩) hS ?_
                  refine wpAnyH_take (i := 4) (v := sval O) rfl (by kernel_rfl) (by kernel_rfl) (by kernel_rfl) (fun _ _ _ h => h) (Or.inl ⟨by kernel_rfl, fun w' hw' => by obtain ⟨q0, q1, q2, q3⟩ := hw'; go_simp⟩) hS ?_
                  refine wpAnyH_take (i := 6) (v := .int .i64 (SL1.length : Int)) rfl (by kernel_rfl) (by kernel_rfl) (by kernel_rfl) (fun _ _ _ h => h) (Or.inl ⟨by kernel_rfl, fun w' hw' => by obtain ⟨q0, q1, q2, q3⟩ := hw'; go_simp⟩) hS ?_
                  simp only [Act.put, List.setIfInBounds_toArray]
                  refine wpAnyH_ready (rs := [1, 5]) (by kernel_rfl) (by simp) ?_
                  refine AllReadyH.cons rfl (fun K' hK' => ?_) (AllReadyH.cons rfl (fun K' hK' => ?_) AllReadyH.nil)
                  · clear hS
                    have z0 := PQ.out.kv.cell 1 rfl
                    go_simp
                    refine hK'.out _ _ (SA18.out _ KO.out) (fun hS => ?_)
                    clear hK' K' z0
                    refine wpAnyH_ready (rs := [5]) (by kernel_rfl) (by simp) ?_
                    refine AllReadyH.cons rfl (fun K' hK' => ?_) AllReadyH.nil
                    clear hS
                    go_simp
                    refine (rowO_any O Za HRO.out.ok (hT.out.below PQ.out.bel hT.out.lt)).mono ?_
                    rintro e Y102 ⟨rv, rfl, ho, hb⟩
                    rw [rep_row HRO.out HIS.out] at ho
                    obtain ⟨ra, rc, hrv, -, -, -⟩ := own_form2 ho
                    subst hrv
                    have IR := Hid.of (InnN.of_own (n := 0) ho)
                    replace PQ := Hid.of (PQ.out.below hb)
                    replace KO := Hid.of (KO.out.below hb KO.out.lt)
                    refine hK'.out _ _ (SA18.out _ KO.out) (fun hS => ?_)
                    clear hK' K' hb ho
                    refine wpAnyH_take (i := 7) (v := .agg #[.int .i64 (n : Int), .int .i64 (en : Int), .slice ra ST.length rc, .int .i64 (SL1.length : Int)]) rfl (by kernel_rfl) (by kernel_rfl) (by kernel_rfl) (fun _ _ _ h => h) (Or.inl ⟨by kernel_rfl, fun w' hw' => by obtain ⟨q0, q1, q2, q3⟩ := hw'; go_simp⟩) hS ?_
                    refine wpAnyH_ready (rs := [8]) (by kernel_rfl) (by simp) ?_
                    refine AllReadyH.cons rfl (fun K' hK' => ?_) AllReadyH.nil
                    clear hS
                    go_simp
                    have hb : Below Y102.heap.size Y102 (Y102.alloc (.cells #[.int .i64 (n : Int), .int .i64 (en : Int), .slice ra ST.length rc, .int .i64 (SL1.length : Int)] 79)) := (Below.refl _ _).alloc (Nat.le_refl _) _
                    replace IR := Hid.of (IR.out.blw hb (Nat.zero_le _))
                    replace PQ := Hid.of (PQ.out.below hb)
                    replace KO := Hid.of (KO.out.below hb KO.out.lt)
                    have C85 : Hid (∀ j u, ([.int .i64 (n : Int), .int .i64 (en : Int), .slice ra ST.length rc, .int .i64 (SL1.length : Int)] : List Value)[j]? = some u → (Y102.alloc (.cells #[.int .i64 (n : Int), .int .i64 (en : Int), .slice ra ST.length rc, .int .i64 (SL1.length : Int)] 79)).cell? ((⟨Y102.heap.size, 0, none⟩ : Addr).add j) = some u) := cells_four Y102 Y102 rfl _ _ _ _ _
                    refine hK'.out _ _ (SA18.out _ KO.out) (fun hS => ?_)
                    clear hK' K' hb
                    revert IR PQ KO C85 hS
                    generalize Y102.alloc (.cells #[.int .i64 (n : Int), .int .i64 (en : Int), .slice ra ST.length rc, .int .i64 (SL1.length : Int)] 79) = Y103
                    generalize Y102.heap.size = p85
                    intro IR PQ KO C85 hS
                    refine wpAnyH_ready (rs := [9]) (by kernel_rfl) (by simp) ?_
                    refine AllReadyH.cons rfl (fun K' hK' => ?_) AllReadyH.nil
                    clear hS
                    refine Exists.elim PQ.out.om (fun vs hvs => ?_)
                    have ho := hvs.1
                    have hin := hvs.2
                    have hB0 := PQ.out.bel.size
                    refine step_append_block rfl (.tmp 78) (.tmp 85) 70 rfl w.heap.size 79 j0 (.agg #[.int .i64 0, .int .i64 0, .slice none 0 0, .int .i64 0]) 4 48 Tryd.underlying70 ji jz0 jz1 jz2 rfl (by decide) _ _ _ rfl ho ⟨p85, 0, none⟩ 1 1 [.int .i64 (n : Int), .int .i64 (en : Int), .slice ra ST.length rc, .int .i64 (SL1.length : Int)] rfl rfl C85.out (by intro u hu; simp at hu; rcases hu with rfl | rfl | rfl | rfl <;> rfl) (by decide) (by unfold maxLen; omega) (by omega) hB0 ?_
                    intro v8 Y104 o8 g8 n8
                    have e8 := VK.move (m := ⟨n, (en : Int), ST, SL1.length⟩) PQ.out (Below.refl _ _) ho hin IR.out o8 g8
                    have hko : Y103.heap[p11]? = some (.cells (scells O) 85 (0, 0)) := KO.out
                    have KO8 : SB Y104 p11 O := (grown_cellsV ho g8 p11 _ _ (by decide) hko).trans hko
                    have KO9 : Hid (SB (Y104.setCell ⟨w.heap.size + 1 + 1, 1, none⟩ v8) p11 O) := (e8.2.2 p11 _ _ (by decide) (by decide) hko).trans hko
                    obtain ⟨qa, qc, hv8, -, -, -⟩ := own_form2 o8
                    subst hv8
                    have E1 := Hid.of e8.1
                    have E2 := Hid.of e8.2.1
                    refine hK'.out _ _ (SA18.out _ KO8) (fun hS => ?_)
                    clear hK' K' o8 g8 n8 ho hin hvs hB0 hko KO8 e8 IR C85 PQ KO
                    refine wpAnyH_take (i := 10) (v := .pointer (some ⟨w.heap.size + 1 + 1, 1, none⟩)) rfl (by kernel_rfl) (by kernel_rfl) (by kernel_rfl) (fun _ _ _ h => h) (Or.inl ⟨by kernel_rfl, fun w' hw' => by obtain ⟨q0, q1, q2, q3⟩ := hw'; go_simp⟩) hS ?_
                    refine wpAnyH_ready (rs := [11]) (by kernel_rfl) (by simp) ?_
                    refine AllReadyH.cons rfl (fun K' hK' => ?_) AllReadyH.nil
                    clear hS
                    have yf := E1.out.frozen
                    have y0 := E1.out.cell 1 rfl
                    go_simp
                    refine hK'.out _ _ (SA18.out _ KO9.out) (fun hS => ?_)
                    clear hK' K' yf y0
                    refine wpAnyH_done (by kernel_rfl) ?_ _
                    clear hS KO9 E1
                    go_wp2_with fail
                    go_roundw
                    case rel => exact ⟨k + 1, _, (SL1 ++ [X]), by go_num, by omega, (by show VK _ _ _ _ _ _ _ _ _; rw [HVS2.out]; exact E2.out), (by show RepL _ _; rw [HVS2.out]; exact HRLN.out)⟩
                    case measure => simp [intOf]; omega
                  · clear hS
                    go_simp
                    refine (rowO_any O Za HRO.out.ok (hT.out.below PQ.out.bel hT.out.lt)).mono ?_
                    rintro e Y106 ⟨rv, rfl, ho, hb⟩
                    rw [rep_row HRO.out HIS.out] at ho
                    obtain ⟨ra, rc, hrv, -, -, -⟩ := own_form2 ho
                    subst hrv
                    have IR := Hid.of (InnN.of_own (n := 0) ho)
                    replace PQ := Hid.of (PQ.out.below hb)
                    replace KO := Hid.of (KO.out.below hb KO.out.lt)
                    refine hK'.out _ _ (SA18.out _ KO.out) (fun hS => ?_)
                    clear hK' K' hb ho
                    refine wpAnyH_take (i := 7) (v := .agg #[.int .i64 (n : Int), .int .i64 (en : Int), .slice ra ST.length rc, .int .i64 (SL1.length : Int)]) rfl (by kernel_rfl) (by kernel_rfl) (by kernel_rfl) (fun _ _ _ h => h) (Or.inl ⟨by kernel_rfl, fun w' hw' => by obtain ⟨q0, q1, q2, q3⟩ := hw'; go_simp⟩) hS ?_
                    refine wpAnyH_ready (rs := [1, 8]) (by kernel_rfl) (by simp) ?_
                    refine AllReadyH.cons rfl (fun K' hK' => ?_) (AllReadyH.cons rfl (fun K' hK' => ?_) AllReadyH.nil)
                    · clear hS
                      have z0 := PQ.out.kv.cell 1 rfl
                      go_simp
                      refine hK'.out _ _ (SA18.out _ KO.out) (fun hS => ?_)
                      clear hK' K' z0
                      refine wpAnyH_ready (rs := [8]) (by kernel_rfl) (by simp) ?_
                      refine AllReadyH.cons rfl (fun K' hK' => ?_) AllReadyH.nil
                      clear hS
                      go_simp
                      have hb : Below Y106.heap.size Y106 (Y106.alloc (.cells #[.int .i64 (n : Int), .int .i64 (en : Int), .slice ra ST.length rc, .int .i64 (SL1.length : Int)] 79)) := (Below.refl _ _).alloc (Nat.le_refl _) _
                      replace IR := Hid.of (IR.out.blw hb (Nat.zero_le _))
                      replace PQ := Hid.of (PQ.out.below hb)
                      replace KO := Hid.of (KO.out.below hb KO.out.lt)
                      have C85 : Hid (∀ j u, ([.int .i64 (n : Int), .int .i64 (en : Int), .slice ra ST.length rc, .int .i64 (SL1.length : Int)] : List Value)[j]? = some u → (Y106.alloc (.cells #[.int .i64 (n : Int), .int .i64 (en : Int), .slice ra ST.length rc, .int .i64 (SL1.length : Int)] 79)).cell? ((⟨Y106.heap.size, 0, none⟩ : Addr).add j) = some u) := cells_four Y106 Y106 rfl _ _ _ _ _
                      refine hK'.out _ _ (SA18.out _ KO.out) (fun hS => ?_)
                      clear hK' K' hb
                      revert IR PQ KO C85 hS
                      generalize Y106.alloc (.cells #[.int .i64 (n : Int), .int .i64 (en : Int), .slice ra ST.length rc, .int .i64 (SL1.length : Int)] 79) = Y108
                      generalize Y106.heap.size = p85
                      intro IR PQ KO C85 hS
                      refine wpAnyH_ready (rs := [9]) (by kernel_rfl) (by simp) ?_
                      refine AllReadyH.cons rfl (fun K' hK' => ?_) AllReadyH.nil
                      clear hS
                      refine Exists.elim PQ.out.om (fun vs hvs => ?_)
                      have ho := hvs.1
                      have hin := hvs.2
                      have hB0 := PQ.out.bel.size
                      refine step_append_block rfl (.tmp 78) (.tmp 85) 70 rfl w.heap.size 79 j0 (.agg #[.int .i64 0, .int .i64 0, .slice none 0 0, .int .i64 0]) 4 48 Tryd.underlying70 ji jz0 jz1 jz2 rfl (by decide) _ _ _ rfl ho ⟨p85, 0, none⟩ 1 1 [.int .i64 (n : Int), .int .i64 (en : Int), .slice ra ST.length rc, .int .i64 (SL1.length : Int)] rfl rfl C85.out (by intro u hu; simp at hu; rcases hu with rfl | rfl | rfl | rfl <;> rfl) (by decide) (by unfold maxLen; omega) (by omega) hB0 ?_
                      intro v8 Y109 o8 g8 n8
                      have e8 := VK.move (m := ⟨n, (en : Int), ST, SL1.length⟩) PQ.out (Below.refl _ _) ho hin IR.out o8 g8
                      have hko : Y108.heap[p11]? = some (.cells (scells O) 85 (0, 0)) := KO.out
                      have KO8 : SB Y109 p11 O := (grown_cellsV ho g8 p11 _ _ (by decide) hko).trans hko
                      have KO9 : Hid (SB (Y109.setCell ⟨w.heap.size + 1 + 1, 1, none⟩ v8) p11 O) := (e8.2.2 p11 _ _ (by decide) (by decide) hko).trans hko
                      obtain ⟨qa, qc, hv8, -, -, -⟩ := own_form2 o8
                      subst hv8
                      have E1 := Hid.of e8.1
                      have E2 := Hid.of e8.2.1
                      refine hK'.out _ _ (SA18.out _ KO8) (fun hS => ?_)
                      clear hK' K' o8 g8 n8 ho hin hvs hB0 hko KO8 e8 IR C85 PQ KO
                      refine wpAnyH_take (i := 10) (v := .pointer (some ⟨w.heap.size + 1 + 1, 1, none⟩)) rfl (by kernel_rfl) (by kernel_rfl) (by kernel_rfl) (fun _ _ _ h => h) (Or.inl ⟨by kernel_rfl, fun w' hw' => by obtain ⟨q0, q1, q2, q3⟩ := hw'; go_simp⟩) hS ?_
                      refine wpAnyH_ready (rs := [11]) (by kernel_rfl) (by simp) ?_
                      refine AllReadyH.cons rfl (fun K' hK' => ?_) AllReadyH.nil
                      clear hS
                      have yf := E1.out.frozen
                      have y0 := E1.out.cell 1 rfl
                      go_simp
                      refine hK'.out _ _ (SA18.out _ KO9.out) (fun hS => ?_)
                      clear hK' K' yf y0
                      refine wpAnyH_done (by kernel_rfl) ?_ _
                      clear hS KO9 E1
                      go_wp2_with fail
                      go_roundw
                      case rel => exact ⟨k + 1, _, (SL1 ++ [X]), by go_num, by omega, (by show VK _ _ _ _ _ _ _ _ _; rw [HVS2.out]; exact E2.out), (by show RepL _ _; rw [HVS2.out]; exact HRLN.out)⟩
                      case measure => simp [intOf]; omega
                    · clear hS
                      go_simp
                      have hb : Below Y106.heap.size Y106 (Y106.alloc (.cells #[.int .i64 (n : Int), .int .i64 (en : Int), .slice ra ST.length rc, .int .i64 (SL1.length : Int)] 79)) := (Below.refl _ _).alloc (Nat.le_refl _) _
                      replace IR := Hid.of (IR.out.blw hb (Nat.zero_le _))
                      replace PQ := Hid.of (PQ.out.below hb)
                      replace KO := Hid.of (KO.out.below hb KO.out.lt)
                      have C85 : Hid (∀ j u, ([.int .i64 (n : Int), .int .i64 (en : Int), .slice ra ST.length rc, .int .i64 (SL1.length : Int)] : List Value)[j]? = some u → (Y106.alloc (.cells #[.int .i64 (n : Int), .int .i64 (en : Int), .slice ra ST.length rc, .int .i64 (SL1.length : Int)] 79)).cell? ((⟨Y106.heap.size, 0, none⟩ : Addr).add j) = some u) := cells_four Y106 Y106 rfl _ _ _ _ _
                      refine hK'.out _ _ (SA18.out _ KO.out) (fun hS => ?_)
                      clear hK' K' hb
                      revert IR PQ KO C85 hS
                      generalize Y106.alloc (.cells #[.int .i64 (n : Int), .int .i64 (en : Int), .slice ra ST.length rc, .int .i64 (SL1.length : Int)] 79) = Y111
                      generalize Y106.heap.size = p85
                      intro IR PQ KO C85 hS
                      refine wpAnyH_ready (rs := [1]) (by kernel_rfl) (by simp) ?_
                      refine AllReadyH.cons rfl (fun K' hK' => ?_) AllReadyH.nil
                      clear hS
                      have z0 := PQ.out.kv.cell 1 rfl
                      go_simp
                      refine hK'.out _ _ (SA18.out _ KO.out) (fun hS => ?_)
                      clear hK' K' z0
                      refine wpAnyH_ready (rs := [9]) (by kernel_rfl) (by simp) ?_
                      refine AllReadyH.cons rfl (fun K' hK' => ?_) AllReadyH.nil
                      clear hS
                      refine Exists.elim PQ.out.om (fun vs hvs => ?_)
                      have ho := hvs.1
                      have hin := hvs.2
                      have hB0 := PQ.out.bel.size
                      refine step_append_block rfl (.tmp 78) (.tmp 85) 70 rfl w.heap.size 79 j0 (.agg #[.int .i64 0, .int .i64 0, .slice none 0 0, .int .i64 0]) 4 48 Tryd.underlying70 ji jz0 jz1 jz2 rfl (by decide) _ _ _ rfl ho ⟨p85, 0, none⟩ 1 1 [.int .i64 (n : Int), .int .i64 (en : Int), .slice ra ST.length rc, .int .i64 (SL1.length : Int)] rfl rfl C85.out (by intro u hu; simp at hu; rcases hu with rfl | rfl | rfl | rfl <;> rfl) (by decide) (by unfold maxLen; omega) (by omega) hB0 ?_
                      intro v8 Y113 o8 g8 n8
                      have e8 := VK.move (m := ⟨n, (en : Int), ST, SL1.length⟩) PQ.out (Below.refl _ _) ho hin IR.out o8 g8
                      have hko : Y111.heap[p11]? = some (.cells (scells O) 85 (0, 0)) := KO.out
                      have KO8 : SB Y113 p11 O := (grown_cellsV ho g8 p11 _ _ (by decide) hko).trans hko
                      have KO9 : Hid (SB (Y113.setCell ⟨w.heap.size + 1 + 1, 1, none⟩ v8) p11 O) := (e8.2.2 p11 _ _ (by decide) (by decide) hko).trans hko
                      obtain ⟨qa, qc, hv8, -, -, -⟩ := own_form2 o8
                      subst hv8
                      have E1 := Hid.of e8.1
                      have E2 := Hid.of e8.2.1
                      refine hK'.out _ _ (SA18.out _ KO8) (fun hS => ?_)
                      clear hK' K' o8 g8 n8 ho hin hvs hB0 hko KO8 e8 IR C85 PQ KO
                      refine wpAnyH_take (i := 10) (v := .pointer (some ⟨w.heap.size + 1 + 1, 1, none⟩)) rfl (by kernel_rfl) (by kernel_rfl) (by kernel_rfl) (fun _ _ _ h => h) (Or.inl ⟨by kernel_rfl, fun w' hw' => by obtain ⟨q0, q1, q2, q3⟩ := hw'; go_simp⟩) hS ?_
                      refine wpAnyH_ready (rs := [11]) (by kernel_rfl) (by simp) ?_
                      refine AllReadyH.cons rfl (fun K' hK' => ?_) AllReadyH.nil
                      clear hS
                      have yf := E1.out.frozen
                      have y0 := E1.out.cell 1 rfl
                      go_simp
                      refine hK'.out _ _ (SA18.out _ KO9.out) (fun hS => ?_)
                      clear hK' K' yf y0
                      refine wpAnyH_done (by kernel_rfl) ?_ _
                      clear hS KO9 E1
                      go_wp2_with fail
                      go_roundw
                      case rel => exact ⟨k + 1, _, (SL1 ++ [X]), by go_num, by omega, (by show VK _ _ _ _ _ _ _ _ _; rw [HVS2.out]; exact E2.out), (by show RepL _ _; rw [HVS2.out]; exact HRLN.out)⟩
                      case measure => simp [intOf]; omega
                · have hfl := findL_le s1.1 WI
                  have lk := lookS_known HR1.out HND.out RN.out HWN.out (w := U1.alloc (.cells (scells X) 85)) (r := nb) PR.out.mp hnew
                  obtain ⟨to, HTO⟩ : ∃ to, Hid (to = findL s1.1 WI) := ⟨_, rfl⟩
                  have HVS2 : Hid (veRow p g free n node s (k + 1) = (s1.1, s1.2 ++ [⟨n, (en : Int), ST, to⟩])) := by
                    show _ = _
                    rw [HVS.out, posN_findL, if_neg hnew, HTO.out]
                  have HRLN := HR1
                  rw [← HTO.out] at lk hfl
                  clear hnew HVS
                  go_wp2_with fail
                  clear y0 y1 y2 y3 lk
                  have PQ := PR
                  clear PR KX
                  revert PQ KO
                  generalize U1.alloc (.cells (scells X) 85) = U2
                  intro KO PQ
                  have SA18 : Hid (∀ X, SB X p11 O → X.cell? ⟨p11, 0, none⟩ = some (.int .u64 (O 0)) ∧ X.cell? ⟨p11, 1, none⟩ = some (.int .u64 (O 1)) ∧ X.cell? ⟨p11, 2, none⟩ = some (.int .u64 (O 2)) ∧ X.cell? ⟨p11, 3, none⟩ = some (.int .u64 (O 3))) := fun X h => SB.cells h
                  refine wp_region_held_drew (S := fun w' => w'.cell? ⟨p11, 0, none⟩ = some (.int .u64 (O 0)) ∧ w'.cell? ⟨p11, 1, none⟩ = some (.int .u64 (O 1)) ∧ w'.cell? ⟨p11, 2, none⟩ = some (.int .u64 (O 2)) ∧ w'.cell? ⟨p11, 3, none⟩ = some (.int .u64 (O 3))) (by kernel_rfl) (SA18.out _ (Blk.drew KO.out)) (fun hS => ?_)
                  replace PQ := Hid.of (PQ.out.below (Below.refl _ _).drew)
                  replace KO : Hid (SB U2.drew p11 O) := Blk.drew KO.out
                  revert hS PQ KO
                  generalize U2.drew = Zb
                  intro hS PQ KO
                  refine wpAnyH_take (i := 0) (v := .pointer (some ⟨w.heap.size + 1 + 1, 1, none⟩)) rfl (by kernel_rfl) (by kernel_rfl) (by kernel_rfl) (fun _ _ _ h => h) (Or.inl ⟨by kernel_rfl, fun w' hw' => by obtain ⟨q0, q1, q2, q3⟩ := hw'; go_simp⟩) hS ?_
                  refine wpAnyH_take (i := 2) (v := .int .i64 (n : Int)) rfl (by kernel_rfl) (by kernel_rfl) (by kernel_rfl) (fun _ _ _ h => h) (Or.inl ⟨by kernel_rfl, fun w' hw' => by obtain ⟨q0, q1, q2, q3⟩ := hw'; go_simp⟩) hS ?_
                  refine wpAnyH_take (i := 3) (v := .int .i64 (en : Int)) rfl (by kernel_rfl) (by kernel_rfl) (by kernel_rfl) (fun _ _ _ h => h) (Or.inl ⟨by kernel_rfl, fun w' hw' => by obtain ⟨q0, q1, q2, q3⟩ := hw'; go_simp⟩) hS ?_
                  refine wpAnyH_take (i := 4) (v := sval O) rfl (by kernel_rfl) (by kernel_rfl) (by kernel_rfl) (fun _ _ _ h => h) (Or.inl ⟨by kernel_rfl, fun w' hw' => by obtain ⟨q0, q1, q2, q3⟩ := hw'; go_simp⟩) hS ?_
                  refine wpAnyH_take (i := 6) (v := .int .i64 (to : Int)) rfl (by kernel_rfl) (by kernel_rfl) (by kernel_rfl) (fun _ _ _ h => h) (Or.inl ⟨by kernel_rfl, fun w' hw' => by obtain ⟨q0, q1, q2, q3⟩ := hw'; go_simp⟩) hS ?_
                  simp only [Act.put, List.setIfInBounds_toArray]
                  refine wpAnyH_ready (rs := [1, 5]) (by kernel_rfl) (by simp) ?_
                  refine AllReadyH.cons rfl (fun K' hK' => ?_) (AllReadyH.cons rfl (fun K' hK' => ?_) AllReadyH.nil)
                  · clear hS
                    have z0 := PQ.out.kv.cell 1 rfl
                    go_simp
                    refine hK'.out _ _ (SA18.out _ KO.out) (fun hS => ?_)
                    clear hK' K' z0
                    refine wpAnyH_ready (rs := [5]) (by kernel_rfl) (by simp) ?_
                    refine AllReadyH.cons rfl (fun K' hK' => ?_) AllReadyH.nil
                    clear hS
                    go_simp
                    refine (rowO_any O Zb HRO.out.ok (hT.out.below PQ.out.bel hT.out.lt)).mono ?_
                    rintro e Y202 ⟨rv, rfl, ho, hb⟩
                    rw [rep_row HRO.out HIS.out] at ho
                    obtain ⟨ra, rc, hrv, -, -, -⟩ := own_form2 ho
                    subst hrv
                    have IR := Hid.of (InnN.of_own (n := 0) ho)
                    replace PQ := Hid.of (PQ.out.below hb)
                    replace KO := Hid.of (KO.out.below hb KO.out.lt)
                    refine hK'.out _ _ (SA18.out _ KO.out) (fun hS => ?_)
                    clear hK' K' hb ho
                    refine wpAnyH_take (i := 7) (v := .agg #[.int .i64 (n : Int), .int .i64 (en : Int), .slice ra ST.length rc, .int .i64 (to : Int)]) rfl (by kernel_rfl) (by kernel_rfl) (by kernel_rfl) (fun _ _ _ h => h) (Or.inl ⟨by kernel_rfl, fun w' hw' => by obtain ⟨q0, q1, q2, q3⟩ := hw'; go_simp⟩) hS ?_
                    refine wpAnyH_ready (rs := [8]) (by kernel_rfl) (by simp) ?_
                    refine AllReadyH.cons rfl (fun K' hK' => ?_) AllReadyH.nil
                    clear hS
                    go_simp
                    have hb : Below Y202.heap.size Y202 (Y202.alloc (.cells #[.int .i64 (n : Int), .int .i64 (en : Int), .slice ra ST.length rc, .int .i64 (to : Int)] 79)) := (Below.refl _ _).alloc (Nat.le_refl _) _
                    replace IR := Hid.of (IR.out.blw hb (Nat.zero_le _))
                    replace PQ := Hid.of (PQ.out.below hb)
                    replace KO := Hid.of (KO.out.below hb KO.out.lt)
                    have C85 : Hid (∀ j u, ([.int .i64 (n : Int), .int .i64 (en : Int), .slice ra ST.length rc, .int .i64 (to : Int)] : List Value)[j]? = some u → (Y202.alloc (.cells #[.int .i64 (n : Int), .int .i64 (en : Int), .slice ra ST.length rc, .int .i64 (to : Int)] 79)).cell? ((⟨Y202.heap.size, 0, none⟩ : Addr).add j) = some u) := cells_four Y202 Y202 rfl _ _ _ _ _
                    refine hK'.out _ _ (SA18.out _ KO.out) (fun hS => ?_)
                    clear hK' K' hb
                    revert IR PQ KO C85 hS
                    generalize Y202.alloc (.cells #[.int .i64 (n : Int), .int .i64 (en : Int), .slice ra ST.length rc, .int .i64 (to : Int)] 79) = Y203
                    generalize Y202.heap.size = p85
                    intro IR PQ KO C85 hS
                    refine wpAnyH_ready (rs := [9]) (by kernel_rfl) (by simp) ?_
                    refine AllReadyH.cons rfl (fun K' hK' => ?_) AllReadyH.nil
                    clear hS
                    refine Exists.elim PQ.out.om (fun vs hvs => ?_)
                    have ho := hvs.1
                    have hin := hvs.2
                    have hB0 := PQ.out.bel.size
                    refine step_append_block rfl (.tmp 78) (.tmp 85) 70 rfl w.heap.size 79 j0 (.agg #[.int .i64 0, .int .i64 0, .slice none 0 0, .int .i64 0]) 4 48 Tryd.underlying70 ji jz0 jz1 jz2 rfl (by decide) _ _ _ rfl ho ⟨p85, 0, none⟩ 1 1 [.int .i64 (n : Int), .int .i64 (en : Int), .slice ra ST.length rc, .int .i64 (to : Int)] rfl rfl C85.out (by intro u hu; simp at hu; rcases hu with rfl | rfl | rfl | rfl <;> rfl) (by decide) (by unfold maxLen; omega) (by omega) hB0 ?_
                    intro v8 Y204 o8 g8 n8
                    have e8 := VK.move (m := ⟨n, (en : Int), ST, to⟩) PQ.out (Below.refl _ _) ho hin IR.out o8 g8
                    have hko : Y203.heap[p11]? = some (.cells (scells O) 85 (0, 0)) := KO.out
                    have KO8 : SB Y204 p11 O := (grown_cellsV ho g8 p11 _ _ (by decide) hko).trans hko
                    have KO9 : Hid (SB (Y204.setCell ⟨w.heap.size + 1 + 1, 1, none⟩ v8) p11 O) := (e8.2.2 p11 _ _ (by decide) (by decide) hko).trans hko
                    obtain ⟨qa, qc, hv8, -, -, -⟩ := own_form2 o8
                    subst hv8
                    have E1 := Hid.of e8.1
                    have E2 := Hid.of e8.2.1
                    refine hK'.out _ _ (SA18.out _ KO8) (fun hS => ?_)
                    clear hK' K' o8 g8 n8 ho hin hvs hB0 hko KO8 e8 IR C85 PQ KO
                    refine wpAnyH_take (i := 10) (v := .pointer (some ⟨w.heap.size + 1 + 1, 1, none⟩)) rfl (by kernel_rfl) (by kernel_rfl) (by kernel_rfl) (fun _ _ _ h => h) (Or.inl ⟨by kernel_rfl, fun w' hw' => by obtain ⟨q0, q1, q2, q3⟩ := hw'; go_simp⟩) hS ?_
                    refine wpAnyH_ready (rs := [11]) (by kernel_rfl) (by simp) ?_
                    refine AllReadyH.cons rfl (fun K' hK' => ?_) AllReadyH.nil
                    clear hS
                    have yf := E1.out.frozen
                    have y0 := E1.out.cell 1 rfl
                    go_simp
                    refine hK'.out _ _ (SA18.out _ KO9.out) (fun hS => ?_)
                    clear hK' K' yf y0
                    refine wpAnyH_done (by kernel_rfl) ?_ _
                    clear hS KO9 E1
                    go_wp2_with fail
                    go_roundw
                    case rel => exact ⟨k + 1, _, SL1, by go_num, by omega, (by show VK _ _ _ _ _ _ _ _ _; rw [HVS2.out]; exact E2.out), (by show RepL _ _; rw [HVS2.out]; exact HRLN.out)⟩
                    case measure => simp [intOf]; omega
                  · clear hS
                    go_simp
                    refine (rowO_any O Zb HRO.out.ok (hT.out.below PQ.out.bel hT.out.lt)).mono ?_
                    rintro e Y206 ⟨rv, rfl, ho, hb⟩
                    rw [rep_row HRO.out HIS.out] at ho
                    obtain ⟨ra, rc, hrv, -, -, -⟩ := own_form2 ho
                    subst hrv
                    have IR := Hid.of (InnN.of_own (n := 0) ho)
                    replace PQ := Hid.of (PQ.out.below hb)
                    replace KO := Hid.of (KO.out.below hb KO.out.lt)
                    refine hK'.out _ _ (SA18.out _ KO.out) (fun hS => ?_)
                    clear hK' K' hb ho
                    refine wpAnyH_take (i := 7) (v := .agg #[.int .i64 (n : Int), .int .i64 (en : Int), .slice ra ST.length rc, .int .i64 (to : Int)]) rfl (by kernel_rfl) (by kernel_rfl) (by kernel_rfl) (fun _ _ _ h => h) (Or.inl ⟨by kernel_rfl, fun w' hw' => by obtain ⟨q0, q1, q2, q3⟩ := hw'; go_simp⟩) hS ?_
                    refine wpAnyH_ready (rs := [1, 8]) (by kernel_rfl) (by simp) ?_
                    refine AllReadyH.cons rfl (fun K' hK' => ?_) (AllReadyH.cons rfl (fun K' hK' => ?_) AllReadyH.nil)
                    · clear hS
                      have z0 := PQ.out.kv.cell 1 rfl
                      go_simp
                      refine hK'.out _ _ (SA18.out _ KO.out) (fun hS => ?_)
                      clear hK' K' z0
                      refine wpAnyH_ready (rs := [8]) (by kernel_rfl) (by simp) ?_
                      refine AllReadyH.cons rfl (fun K' hK' => ?_) AllReadyH.nil
                      clear hS
                      go_simp
                      have hb : Below Y206.heap.size Y206 (Y206.alloc (.cells #[.int .i64 (n : Int), .int .i64 (en : Int), .slice ra ST.length rc, .int .i64 (to : Int)] 79)) := (Below.refl _ _).alloc (Nat.le_refl _) _
                      replace IR := Hid.of (IR.out.blw hb (Nat.zero_le _))
                      replace PQ := Hid.of (PQ.out.below hb)
                      replace KO := Hid.of (KO.out.below hb KO.out.lt)
                      have C85 : Hid (∀ j u, ([.int .i64 (n : Int), .int .i64 (en : Int), .slice ra ST.length rc, .int .i64 (to : Int)] : List Value)[j]? = some u → (Y206.alloc (.cells #[.int .i64 (n : Int), .int .i64 (en : Int), .slice ra ST.length rc, .int .i64 (to : Int)] 79)).cell? ((⟨Y206.heap.size, 0, none⟩ : Addr).add j) = some u) := cells_four Y206 Y206 rfl _ _ _ _ _
                      refine hK'.out _ _ (SA18.out _ KO.out) (fun hS => ?_)
                      clear hK' K' hb
                      revert IR PQ KO C85 hS
                      generalize Y206.alloc (.cells #[.int .i64 (n : Int), .int .i64 (en : Int), .slice ra ST.length rc, .int .i64 (to : Int)] 79) = Y208
                      generalize Y206.heap.size = p85
                      intro IR PQ KO C85 hS
                      refine wpAnyH_ready (rs := [9]) (by kernel_rfl) (by simp) ?_
                      refine AllReadyH.cons rfl (fun K' hK' => ?_) AllReadyH.nil
                      clear hS
                      refine Exists.elim PQ.out.om (fun vs hvs => ?_)
                      have ho := hvs.1
                      have hin := hvs.2
                      have hB0 := PQ.out.bel.size
                      refine step_append_block rfl (.tmp 78) (.tmp 85) 70 rfl w.heap.size 79 j0 (.agg #[.int .i64 0, .int .i64 0, .slice none 0 0, .int .i64 0]) 4 48 Tryd.underlying70 ji jz0 jz1 jz2 rfl (by decide) _ _ _ rfl ho ⟨p85, 0, none⟩ 1 1 [.int .i64 (n : Int), .int .i64 (en : Int), .slice ra ST.length rc, .int .i64 (to : Int)] rfl rfl C85.out (by intro u hu; simp at hu; rcases hu with rfl | rfl | rfl | rfl <;> rfl) (by decide) (by unfold maxLen; omega) (by omega) hB0 ?_
                      intro v8 Y209 o8 g8 n8
                      have e8 := VK.move (m := ⟨n, (en : Int), ST, to⟩) PQ.out (Below.refl _ _) ho hin IR.out o8 g8
                      have hko : Y208.heap[p11]? = some (.cells (scells O) 85 (0, 0)) := KO.out
                      have KO8 : SB Y209 p11 O := (grown_cellsV ho g8 p11 _ _ (by decide) hko).trans hko
                      have KO9 : Hid (SB (Y209.setCell ⟨w.heap.size + 1 + 1, 1, none⟩ v8) p11 O) := (e8.2.2 p11 _ _ (by decide) (by decide) hko).trans hko
                      obtain ⟨qa, qc, hv8, -, -, -⟩ := own_form2 o8
                      subst hv8
                      have E1 := Hid.of e8.1
                      have E2 := Hid.of e8.2.1
                      refine hK'.out _ _ (SA18.out _ KO8) (fun hS => ?_)
                      clear hK' K' o8 g8 n8 ho hin hvs hB0 hko KO8 e8 IR C85 PQ KO
                      refine wpAnyH_take (i := 10) (v := .pointer (some ⟨w.heap.size + 1 + 1, 1, none⟩)) rfl (by kernel_rfl) (by kernel_rfl) (by kernel_rfl) (fun _ _ _ h => h) (Or.inl ⟨by kernel_rfl, fun w' hw' => by obtain ⟨q0, q1, q2, q3⟩ := hw'; go_simp⟩) hS ?_
                      refine wpAnyH_ready (rs := [11]) (by kernel_rfl) (by simp) ?_
                      refine AllReadyH.cons rfl (fun K' hK' => ?_) AllReadyH.nil
                      clear hS
                      have yf := E1.out.frozen
                      have y0 := E1.out.cell 1 rfl
                      go_simp
                      refine hK'.out _ _ (SA18.out _ KO9.out) (fun hS => ?_)
                      clear hK' K' yf y0
                      refine wpAnyH_done (by kernel_rfl) ?_ _
                      clear hS KO9 E1
                      go_wp2_with fail
                      go_roundw
                      case rel => exact ⟨k + 1, _, SL1, by go_num, by omega, (by show VK _ _ _ _ _ _ _ _ _; rw [HVS2.out]; exact E2.out), (by show RepL _ _; rw [HVS2.out]; exact HRLN.out)⟩
                      case measure => simp [intOf]; omega
                    · clear hS
                      go_simp
                      have hb : Below Y206.heap.size Y206 (Y206.alloc (.cells #[.int .i64 (n : Int), .int .i64 (en : Int), .slice ra ST.length rc, .int .i64 (to : Int)] 79)) := (Below.refl _ _).alloc (Nat.le_refl _) _
                      replace IR := Hid.of (IR.out.blw hb (Nat.zero_le _))
                      replace PQ := Hid.of (PQ.out.below hb)
                      replace KO := Hid.of (KO.out.below hb KO.out.lt)
                      have C85 : Hid (∀ j u, ([.int .i64 (n : Int), .int .i64 (en : Int), .slice ra ST.length rc, .int .i64 (to : Int)] : List Value)[j]? = some u → (Y206.alloc (.cells #[.int .i64 (n : Int), .int .i64 (en : Int), .slice ra ST.length rc, .int .i64 (to : Int)] 79)).cell? ((⟨Y206.heap.size, 0, none⟩ : Addr).add j) = some u) := cells_four Y206 Y206 rfl _ _ _ _ _
                      refine hK'.out _ _ (SA18.out _ KO.out) (fun hS => ?_)
                      clear hK' K' hb
                      revert IR PQ KO C85 hS
                      generalize Y206.alloc (.cells #[.int .i64 (n : Int), .int .i64 (en : Int), .slice ra ST.length rc, .int .i64 (to : Int)] 79) = Y211
                      generalize Y206.heap.size = p85
                      intro IR PQ KO C85 hS
                      refine wpAnyH_ready (rs := [1]) (by kernel_rfl) (by simp) ?_
                      refine AllReadyH.cons rfl (fun K' hK' => ?_) AllReadyH.nil
                      clear hS
                      have z0 := PQ.out.kv.cell 1 rfl
                      go_simp
                      refine hK'.out _ _ (SA18.out _ KO.out) (fun hS => ?_)
                      clear hK' K' z0
                      refine wpAnyH_ready (rs := [9]) (by kernel_rfl) (by simp) ?_
                      refine AllReadyH.cons rfl (fun K' hK' => ?_) AllReadyH.nil
                      clear hS
                      refine Exists.elim PQ.out.om (fun vs hvs => ?_)
                      have ho := hvs.1
                      have hin := hvs.2
                      have hB0 := PQ.out.bel.size
                      refine step_append_block rfl (.tmp 78) (.tmp 85) 70 rfl w.heap.size 79 j0 (.agg #[.int .i64 0, .int .i64 0, .slice none 0 0, .int .i64 0]) 4 48 Tryd.underlying70 ji jz0 jz1 jz2 rfl (by decide) _ _ _ rfl ho ⟨p85, 0, none⟩ 1 1 [.int .i64 (n : Int), .int .i64 (en : Int), .slice ra ST.length rc, .int .i64 (to : Int)] rfl rfl C85.out (by intro u hu; simp at hu; rcases hu with rfl | rfl | rfl | rfl <;> rfl) (by decide) (by unfold maxLen; omega) (by omega) hB0 ?_
                      intro v8 Y213 o8 g8 n8
                      have e8 := VK.move (m := ⟨n, (en : Int), ST, to⟩) PQ.out (Below.refl _ _) ho hin IR.out o8 g8
                      have hko : Y211.heap[p11]? = some (.cells (scells O) 85 (0, 0)) := KO.out
                      have KO8 : SB Y213 p11 O := (grown_cellsV ho g8 p11 _ _ (by decide) hko).trans hko
                      have KO9 : Hid (SB (Y213.setCell ⟨w.heap.size + 1 + 1, 1, none⟩ v8) p11 O) := (e8.2.2 p11 _ _ (by decide) (by decide) hko).trans hko
                      obtain ⟨qa, qc, hv8, -, -, -⟩ := own_form2 o8
                      subst hv8
                      have E1 := Hid.of e8.1
                      have E2 := Hid.of e8.2.1
                      refine hK'.out _ _ (SA18.out _ KO8) (fun hS => ?_)
                      clear hK' K' o8 g8 n8 ho hin hvs hB0 hko KO8 e8 IR C85 PQ KO
                      refine wpAnyH_take (i := 10) (v := .pointer (some ⟨w.heap.size + 1 + 1, 1, none⟩)) rfl (by kernel_rfl) (by kernel_rfl) (by kernel_rfl) (fun _ _ _ h => h) (Or.inl ⟨by kernel_rfl, fun w' hw' => by obtain ⟨q0, q1, q2, q3⟩ := hw'; go_simp⟩) hS ?_
                      refine wpAnyH_ready (rs := [11]) (by kernel_rfl) (by simp) ?_
                      refine AllReadyH.cons rfl (fun K' hK' => ?_) AllReadyH.nil
                      clear hS
                      have yf := E1.out.frozen
                      have y0 := E1.out.cell 1 rfl
                      go_simp
                      refine hK'.out _ _ (SA18.out _ KO9.out) (fun hS => ?_)
                      clear hK' K' yf y0
                      refine wpAnyH_done (by kernel_rfl) ?_ _
                      clear hS KO9 E1
                      go_wp2_with fail
                      go_roundw
                      case rel => exact ⟨k + 1, _, SL1, by go_num, by omega, (by show VK _ _ _ _ _ _ _ _ _; rw [HVS2.out]; exact E2.out), (by show RepL _ _; rw [HVS2.out]; exact HRLN.out)⟩
                      case measure => simp [intOf]; omega
            · have hke : k = p.seen.length := by omega
              subst hke
              clear hks
              rw [HTK.out] at PR
              go_wp2_with fail
              go_roundw
              case rel => exact ⟨n + 1, nv', mv1, SL1, _, by go_num, hlen1, by omega, PR, HR1, HV1, HG1⟩
              case measure => simp [intOf]; omega
      · have hne2 : n = SL.length := by have := HLN.out; omega
        subst hne2
        clear hlt
        have hse : SL.length = s.1.length := HLN.out
        have HEND : Hid (veGo p g free 65 0 ([fl], []) = s) := by
          show _ = _
          rw [HG.out, hse, show 65 - s.1.length = (64 - s.1.length) + 1 by omega]
          show (match s.1[s.1.length]? with | none => s | some node => _) = _
          rw [List.getElem?_eq_none (Nat.le_refl _)]
        rw [hse, List.take_of_length_le (Nat.le_refl _)] at PM
        have hm4 : s.2.length ≤ 4096 := by omega
        clear hse
        obtain ⟨L, hnv, hmv2, hva⟩ := PM.out.fin hb64 hm4
        subst hnv; subst hmv2
        have HVA := Hid.of hva
        have BB := Hid.of (below_setv PM.out.bel (b' := w.heap.size + 1) (by omega) (.slice L.na s.1.length L.nc) (.slice L.ma s.2.length L.mc))
        have KK := Hid.of (blk_ve PM.out.k4 (.slice L.na s.1.length L.nc) (.slice L.ma s.2.length L.mc))
        have y0 := PM.out.kv.cell 0 rfl
        have y1 := PM.out.kv.cell 1 rfl
        have r0 := PM.out.k4.cell 0 rfl
        have r1 := PM.out.k4.cell 1 rfl
        have fz := PM.out.k4.frozen
        clear hva
        go_wp2_with fail
        clear y0 y1 r0 r1
        have r0 := KK.out.cell 0 rfl
        have r1 := KK.out.cell 1 rfl
        refine bodyPost_ret (v := vval s L) ?_ rfl ⟨L, by rw [HEND.out], by rw [HEND.out]; exact HVA.out, BB.out⟩
        simp [results, go_sem, r0, r1]
end Go.Proofs.YtmlkpdeidpcidaaDoor
