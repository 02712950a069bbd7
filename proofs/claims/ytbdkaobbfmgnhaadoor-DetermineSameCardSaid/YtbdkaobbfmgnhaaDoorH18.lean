/-
  machine.Leader, of whatever machine may be.
  The walk of determine.find.
  A machine's block that is written whole; results with a machine.
  The walk of determine.Is.
  What the walk of jalousieref5.Hide knows of the memory; how many arrows there may be.
  What the laws of machines share: 'great' walked.
  What the laws of machines share: 'great' and 'machines' walked.
-/
import Derived.Test.YtbdkaobbfmgnhaaDoorDLead
import Derived.Deep.RegionHeld3
import Derived.Test.YtbdkaobbfmgnhaaDoorH14
import Derived.Test.YtbdkaobbfmgnhaaDoorH16
import Derived.Test.YtbdkaobbfmgnhaaDoorH09
import Derived.Test.YtbdkaobbfmgnhaaDoorH03
import Derived.Test.YtbdkaobbfmgnhaaDoorH13
import Derived.Test.YtbdkaobbfmgnhaaDoorH05
import Derived.Test.YtbdkaobbfmgnhaaDoorH04
import Derived.Test.YtbdkaobbfmgnhaaDoorDRefMay
namespace Go.Proofs.YtbdkaobbfmgnhaaDoor
open Go.RowKit
set_option linter.unusedVariables false

/-- What machine.Leader answers, of what may be. -/
theorem leader_any (m : Mach) (l : ML) (w : World) (hm : mayB m = true) (h : MAt w m l) :
    Calls Tryd.prog 76 #[mval m l] w fun e w' => ∃ L, e = .returned (leadV L) ∧ LD w' L m.ev.toNat (m.st.toNat * m.ev.toNat) (tabS m.ev.toNat m.arrows) ∧ L.all (w.heap.size ≤ ·) ∧ Below w.heap.size w w' := by
  have hz := mayB_size hm
  have ha := arrsFrom_in (mayB_arrs hm)
  obtain ⟨st, ev, starts, arrows, ends⟩ := m
  obtain ⟨z1, z2, z3, z4, z5⟩ := hz
  simp only at z1 z2 z3 z4 z5 ha
  obtain ⟨s, rfl⟩ : ∃ s : Nat, st = (s : Int) := ⟨st.toNat, by omega⟩
  obtain ⟨e, rfl⟩ : ∃ e : Nat, ev = (e : Int) := ⟨ev.toNat, by omega⟩
  obtain ⟨a1, c1, a2, c2, a3, c3⟩ := l
  simp only [Int.toNat_natCast]
  exact leader_go s e starts arrows ends a1 c1 a2 c2 a3 c3 w (Hid.of h) (Hid.of hm) (by omega) (by omega) z5 (Hid.of ha)

theorem LD.other4 {W : World} {L : LB} {b' ev N : Nat} {T : Nat → Nat → Nat} (h : LD W L ev N T) (hn : L.all (· ≠ b')) (v0 v1 v2 v3 : Value) : LD ((((W.setCell ⟨b', 0, none⟩ v0).setCell ⟨b', 1, none⟩ v1).setCell ⟨b', 2, none⟩ v2).setCell ⟨b', 3, none⟩ v3) L ev N T := by
  obtain ⟨cs, c1, c2, c3⟩ := h.tab
  exact ⟨Blk.other4' h.is 0 hn.1 v0 v1 v2 v3, Blk.other4' h.evb 0 hn.2.1 v0 v1 v2 v3, Blk.other4' h.to 0 hn.2.2.1 v0 v1 v2 v3, ⟨cs, Blk.other4' c1 0 hn.2.2.2.1 v0 v1 v2 v3, c2, c3⟩, Blk.other4' h.bd 0 hn.2.2.2.2 v0 v1 v2 v3⟩
theorem LD.alloc {W : World} {L : LB} {ev N : Nat} {T : Nat → Nat → Nat} (h : LD W L ev N T) (o : Obj) : LD (W.alloc o) L ev N T := h.kept ((Below.refl _ _).alloc (Nat.le_refl _) o)
end Go.Proofs.YtbdkaobbfmgnhaaDoor
namespace Go.Proofs.YtbdkaobbfmgnhaaDoor
open Go.RowKit
set_option linter.unusedVariables false

/-- What find leaves. -/
def FindPost (w : World) (m : Mach) (e : Ending) (w' : World) : Prop :=
  match detS m with
  | none => e = .returned (.tuple #[.slice none 0 0, .slice none 0 0, .bool false]) ∧ Below w.heap.size w w'
  | some s => ∃ vs va SL, e = .returned (.tuple #[vs, va, .bool true]) ∧ RepL SL s.sets ∧ OwnS w' w.heap.size vs SL ∧ OwnA w' w.heap.size va s.ar ∧ Below w.heap.size w w'

theorem repNil : RepL [] [] := ⟨rfl, fun k S h => by simp at h⟩
theorem updS_first {S : Nat → Nat} {l : List Int} (hr : Rep S l) (hi : Inc l) {w : World} {r : Nat} (hm : w.heap[r]? = some (.map #[] 0)) :
    (Instr.mapUpdate 142 (.map (some r)) (sval S) (.int .i64 0)).run Tryd.prog w = .ok () (setMap w r (.map (entsS [S]) 1)) := by
  have := updS_new (SL := []) repNil (by simp) hr hi (w := w) (r := r) hm rfl
  simpa using this

theorem Below.map {B : Nat} {w W : World} (h : Below B w W) {br : Nat} (hb : B ≤ br) (o : Obj) : Below B w (setMap W br o) :=
  h.trans ⟨rfl, rfl, rfl, by rw [size_setMap]; exact Nat.le_refl _, fun j hj => heap_setMap_ne _ _ _ (by omega)⟩
theorem Blk.map {W : World} {b br : Nat} {t : TypeId} {cs : Array Value} (h : Blk W b t cs) (hn : b ≠ br) (o : Obj) : Blk (setMap W br o) b t cs := (heap_setMap_ne W br o hn).trans h
theorem fi_first {B : Nat} {W : World} {br : Nat} {v : Value} {S : Nat → Nat} (ho : OwnS W B v [S]) (hm : W.heap[br]? = some (.map #[] 0)) (hb : B ≤ br) : FDI B (setMap W br (.map (entsS [S]) 1)) br v (.slice none 0 0) [S] [] := by
  have hbr := (Array.getElem?_eq_some_iff.1 hm).1
  refine ⟨own_same ho (fun k hk => heap_setMap_ne _ _ _ (fun e => ?_)), ownA_nil _ _, heap_setMap _ _ hbr, hb⟩
  obtain ⟨cs, hc⟩ := own_type ho hk
  rw [e, hm] at hc; cases hc
theorem fi_first2 {B : Nat} {W : World} {br : Nat} {S : Nat → Nat} (hm : W.heap[br]? = some (.map (entsS [S]) 1)) (hb : B ≤ br) (hB : B ≤ W.heap.size) : FDI B (W.alloc (.cells (scells S) 62)) br (.slice (some ⟨W.heap.size, 0, none⟩) 1 1) (.slice none 0 0) [S] [] :=
  ⟨ownS_one W S B hB, ownA_nil _ _, (Below.heap_alloc W _ br (Array.getElem?_eq_some_iff.1 hm).1).trans hm, hb⟩
set_option maxRecDepth 100000 in
set_option maxHeartbeats 8000000 in
theorem find_any0 (st ev : Nat) (starts : List Int) (ars : List Arr) (ends : List Int) (hm : Hid (mayB ⟨(st : Int), (ev : Int), starts, ars, ends⟩ = true)) (S0 : Nat → Nat) (hr0 : Hid (Rep S0 starts)) (L : LB) (w : World) (hT : Hid (Tab w)) (hL : Hid (LD w L ev (st * ev) (tabS ev ars))) :
    Calls Tryd.prog 75 #[sval S0, .int .i64 ev, leadV L] w fun e w' => FindPost w ⟨(st : Int), (ev : Int), starts, ars, ends⟩ e w' := by
  have hz := mayB_size hm.out
  unfold sizeOk at hz
  dsimp only at hz
  have he8 : ev ≤ 8 := by omega
  have hst : st ≤ 256 := by omega
  have hi0 : Hid (Inc starts) := (may_starts hm.out).1
  have hmm := @run_makeMap Tryd.prog
  have b0 : SB (w.alloc (.cells (scells S0) 62)) w.heap.size S0 := Blk.new w _ _
  have bel0 : Hid (Below w.heap.size w (w.alloc (.cells (scells S0) 62))) := (Below.refl _ _).alloc (Nat.le_refl _) _
  have sz0 : (w.alloc (.cells (scells S0) 62)).heap.size = w.heap.size + 1 := World.size_alloc _ _
  clear hz
  go_enter Tryd.func75, Tryd.ntmps75
  go_wp2
  revert b0 bel0 sz0
  generalize w.alloc (.cells (scells S0) 62) = V
  intro b0 bel0 sz0
  obtain ⟨c0, c1, c2, c3⟩ := b0.cells
  refine Code.wp_mono (Q := regQ fun a' W' => ∃ (br : Nat) (vs r17 r18 r19 r20 r21 : Value), a' = { tmps := #[sval S0, .int .i64 ev, leadV L, .pointer (some ⟨w.heap.size, 0, none⟩), undef, undef, .slice none 0 0, .slice none 0 0, .bool false, vs, .map (some br), undef, undef, undef, undef, undef, undef, r17, r18, r19, r20, r21, undef, undef, undef, undef, undef, undef, undef, undef, undef, undef, undef, undef, undef, undef, undef, undef, undef, undef, undef, undef, undef, undef, undef, undef, undef, undef, undef, undef, undef, undef, undef, undef, undef, undef, undef, undef, undef, undef, undef, undef, undef, undef, undef, undef, undef, undef, undef], defers := [] } ∧ FDI w.heap.size W' br vs (.slice none 0 0) [S0] [] ∧ Below w.heap.size w W') ?aft ?reg
  case reg =>
    have bd : SB V.drew w.heap.size S0 := b0
    have beld : Below w.heap.size w V.drew := bel0.out.drew
    have szd : V.drew.heap.size = w.heap.size + 1 := sz0
    clear c0 c1 c2 c3
    refine wp_region_held_drew (S := fun w' => w'.cell? ⟨w.heap.size, 0, none⟩ = some (.int .u64 (S0 0)) ∧ w'.cell? ⟨w.heap.size, 1, none⟩ = some (.int .u64 (S0 1)) ∧ w'.cell? ⟨w.heap.size, 2, none⟩ = some (.int .u64 (S0 2)) ∧ w'.cell? ⟨w.heap.size, 3, none⟩ = some (.int .u64 (S0 3))) (by kernel_rfl) b0.cells (fun hS0 => ?_)
    refine wpAnyH_take (i := 0) (v := sval S0) rfl (by kernel_rfl) (by kernel_rfl) (by kernel_rfl) (fun _ _ _ h => h) (Or.inl ⟨by kernel_rfl, fun w' hw' => by obtain ⟨q0, q1, q2, q3⟩ := hw'; go_simp⟩) hS0 ?_
    refine wpAnyH_take (i := 3) (v := sval S0) rfl (by kernel_rfl) (by kernel_rfl) (by kernel_rfl) (fun _ _ _ h => h) (Or.inl ⟨by kernel_rfl, fun w' hw' => by obtain ⟨q0, q1, q2, q3⟩ := hw'; go_simp⟩) hS0 ?_
    simp only [Act.put, List.setIfInBounds_toArray]
    refine wpAnyH_ready (rs := [1, 2]) (by kernel_rfl) (by simp) ?_
    refine AllReadyH.cons rfl (fun K' hK' => ?_) (AllReadyH.cons rfl (fun K' hK' => ?_) AllReadyH.nil)
    · go_simp
      refine hK'.out _ _ (SB.cells (Blk.drew (b0.alloc _))) (fun hS1 => ?_)
      clear hK' K'
      refine wpAnyH_take (i := 6) (v := .slice (some ⟨w.heap.size + 1, 0, none⟩) 1 1) rfl (by kernel_rfl) (by kernel_rfl) (by kernel_rfl) (fun _ _ _ h => h) (Or.inl ⟨by kernel_rfl, fun w' hw' => by obtain ⟨q0, q1, q2, q3⟩ := hw'; go_simp⟩) hS1 ?_
      refine wpAnyH_ready (rs := [2]) (by kernel_rfl) (by simp) ?_
      refine AllReadyH.cons rfl (fun K' hK' => ?_) AllReadyH.nil
      go_simp
      refine hK'.out _ _ (SB.cells (Blk.drew ((b0.alloc _).alloc _))) (fun hS2 => ?_)
      clear hK' K'
      refine wpAnyH_ready (rs := [4]) (by kernel_rfl) (by simp) ?_
      refine AllReadyH.cons rfl (fun K' hK' => ?_) AllReadyH.nil
      have hmp : ((V.alloc (.cells (scells S0) 62)).alloc (.map #[] 0)).heap[w.heap.size + 1 + 1]? = some (.map #[] 0) := by
        have := World.alloc_heap_new (V.alloc (.cells (scells S0) 62)) (.map #[] 0)
        rwa [World.size_alloc, sz0] at this
      have hu := updS_first hr0.out hi0.out (w := ((V.alloc (.cells (scells S0) 62)).alloc (.map #[] 0)).drew) (r := w.heap.size + 1 + 1) hmp
      go_simp
      refine hK'.out _ _ (SB.cells (Blk.map (Blk.drew ((b0.alloc _).alloc _)) (by omega) _)) (fun hS3 => ?_)
      clear hK' K'
      refine wpAnyH_take (i := 5) (v := .map (some (w.heap.size + 1 + 1))) rfl (by kernel_rfl) (by kernel_rfl) (by kernel_rfl) (fun _ _ _ h => h) (Or.inl ⟨by kernel_rfl, fun w' hw' => by obtain ⟨q0, q1, q2, q3⟩ := hw'; go_simp⟩) hS3 ?_
      refine wpAnyH_take (i := 7) (v := .map (some (w.heap.size + 1 + 1))) rfl (by kernel_rfl) (by kernel_rfl) (by kernel_rfl) (fun _ _ _ h => h) (Or.inl ⟨by kernel_rfl, fun w' hw' => by obtain ⟨q0, q1, q2, q3⟩ := hw'; go_simp⟩) hS3 ?_
      refine wpAnyH_done (by kernel_rfl) ?_ _
      have ho : OwnS ((V.alloc (.cells (scells S0) 62)).alloc (.map #[] 0)).drew w.heap.size (.slice (some ⟨w.heap.size + 1, 0, none⟩) 1 1) [S0] := by
        have := World.ownsRow.alloc (ownS_one V S0 w.heap.size (by omega)) (.map #[] 0)
        rw [sz0] at this
        exact this
      exact ⟨w.heap.size + 1 + 1, .slice (some ⟨w.heap.size + 1, 0, none⟩) 1 1, _, _, _, _, _, rfl, fi_first ho hmp (by omega), Below.map (((bel0.out.alloc (by omega) _).alloc (by simp; omega) _).drew) (by omega) _⟩
    · go_simp
      refine hK'.out _ _ (SB.cells (Blk.drew (b0.alloc _))) (fun hS1 => ?_)
      clear hK' K'
      refine wpAnyH_ready (rs := [1, 4]) (by kernel_rfl) (by simp) ?_
      refine AllReadyH.cons rfl (fun K' hK' => ?_) (AllReadyH.cons rfl (fun K' hK' => ?_) AllReadyH.nil)
      · go_simp
        refine hK'.out _ _ (SB.cells (Blk.drew ((b0.alloc _).alloc _))) (fun hS2 => ?_)
        clear hK' K'
        refine wpAnyH_take (i := 6) (v := .slice (some ⟨w.heap.size + 1 + 1, 0, none⟩) 1 1) rfl (by kernel_rfl) (by kernel_rfl) (by kernel_rfl) (fun _ _ _ h => h) (Or.inl ⟨by kernel_rfl, fun w' hw' => by obtain ⟨q0, q1, q2, q3⟩ := hw'; go_simp⟩) hS2 ?_
        refine wpAnyH_ready (rs := [4]) (by kernel_rfl) (by simp) ?_
        refine AllReadyH.cons rfl (fun K' hK' => ?_) AllReadyH.nil
        have hmp : ((V.alloc (.map #[] 0)).alloc (.cells (scells S0) 62)).heap[w.heap.size + 1]? = some (.map #[] 0) := by
          have := World.alloc_heap_new V (.map #[] 0)
          rw [sz0] at this
          exact (Below.heap_alloc (V.alloc (.map #[] 0)) (.cells (scells S0) 62) _ (by rw [World.size_alloc, sz0]; omega)).trans this
        have hu := updS_first hr0.out hi0.out (w := ((V.alloc (.map #[] 0)).alloc (.cells (scells S0) 62)).drew) (r := w.heap.size + 1) hmp
        go_simp
        refine hK'.out _ _ (SB.cells (Blk.map (Blk.drew ((b0.alloc _).alloc _)) (by omega) _)) (fun hS3 => ?_)
        clear hK' K'
        refine wpAnyH_take (i := 5) (v := .map (some (w.heap.size + 1))) rfl (by kernel_rfl) (by kernel_rfl) (by kernel_rfl) (fun _ _ _ h => h) (Or.inl ⟨by kernel_rfl, fun w' hw' => by obtain ⟨q0, q1, q2, q3⟩ := hw'; go_simp⟩) hS3 ?_
        refine wpAnyH_take (i := 7) (v := .map (some (w.heap.size + 1))) rfl (by kernel_rfl) (by kernel_rfl) (by kernel_rfl) (fun _ _ _ h => h) (Or.inl ⟨by kernel_rfl, fun w' hw' => by obtain ⟨q0, q1, q2, q3⟩ := hw'; go_simp⟩) hS3 ?_
        refine wpAnyH_done (by kernel_rfl) ?_ _
        have ho : OwnS ((V.alloc (.map #[] 0)).alloc (.cells (scells S0) 62)).drew w.heap.size (.slice (some ⟨w.heap.size + 1 + 1, 0, none⟩) 1 1) [S0] := by
          have := ownS_one (V.alloc (.map #[] 0)) S0 w.heap.size (by rw [World.size_alloc, sz0]; omega)
          rw [World.size_alloc, sz0] at this
          exact this
        exact ⟨w.heap.size + 1, .slice (some ⟨w.heap.size + 1 + 1, 0, none⟩) 1 1, _, _, _, _, _, rfl, fi_first ho hmp (by omega), Below.map (((bel0.out.alloc (by omega) _).alloc (by simp; omega) _).drew) (by omega) _⟩
      · have hmp : (V.alloc (.map #[] 0)).heap[w.heap.size + 1]? = some (.map #[] 0) := by
          have := World.alloc_heap_new V (.map #[] 0)
          rwa [sz0] at this
        have hu := updS_first hr0.out hi0.out (w := (V.alloc (.map #[] 0)).drew) (r := w.heap.size + 1) hmp
        go_simp
        refine hK'.out _ _ (SB.cells (Blk.map (Blk.drew (b0.alloc _)) (by omega) _)) (fun hS2 => ?_)
        clear hK' K'
        refine wpAnyH_take (i := 5) (v := .map (some (w.heap.size + 1))) rfl (by kernel_rfl) (by kernel_rfl) (by kernel_rfl) (fun _ _ _ h => h) (Or.inl ⟨by kernel_rfl, fun w' hw' => by obtain ⟨q0, q1, q2, q3⟩ := hw'; go_simp⟩) hS2 ?_
        refine wpAnyH_ready (rs := [1]) (by kernel_rfl) (by simp) ?_
        refine AllReadyH.cons rfl (fun K' hK' => ?_) AllReadyH.nil
        have hsz : (setMap (V.alloc (.map #[] 0)).drew (w.heap.size + 1) (.map (entsS [S0]) 1)).heap.size = w.heap.size + 1 + 1 := by rw [size_setMap]; show (V.alloc (.map #[] 0)).heap.size = _; rw [World.size_alloc, sz0]
        go_simp
        refine hK'.out _ _ (SB.cells (Blk.alloc (Blk.map (Blk.drew (b0.alloc _)) (by omega) _) _)) (fun hS3 => ?_)
        clear hK' K'
        refine wpAnyH_take (i := 6) (v := .slice (some ⟨w.heap.size + 1 + 1, 0, none⟩) 1 1) rfl (by kernel_rfl) (by kernel_rfl) (by kernel_rfl) (fun _ _ _ h => h) (Or.inl ⟨by kernel_rfl, fun w' hw' => by obtain ⟨q0, q1, q2, q3⟩ := hw'; go_simp⟩) hS3 ?_
        refine wpAnyH_take (i := 7) (v := .map (some (w.heap.size + 1))) rfl (by kernel_rfl) (by kernel_rfl) (by kernel_rfl) (fun _ _ _ h => h) (Or.inl ⟨by kernel_rfl, fun w' hw' => by obtain ⟨q0, q1, q2, q3⟩ := hw'; go_simp⟩) hS3 ?_
        refine wpAnyH_done (by kernel_rfl) ?_ _
        have hf := fi_first2 (B := w.heap.size) (S := S0) (W := setMap (V.alloc (.map #[] 0)).drew (w.heap.size + 1) (.map (entsS [S0]) 1)) (br := w.heap.size + 1) (heap_setMap _ _ (by show _ < (V.alloc (.map #[] 0)).heap.size; rw [World.size_alloc, sz0]; omega)) (by omega) (by omega)
        rw [hsz] at hf
        exact ⟨w.heap.size + 1, .slice (some ⟨w.heap.size + 1 + 1, 0, none⟩) 1 1, _, _, _, _, _, rfl, hf, (Below.map ((bel0.out.alloc (by omega) _).drew) (by omega) _).alloc (by omega) _⟩
  case aft =>
    refine regQ_imp ?_
    rintro a' W' ⟨br, vs, r17, r18, r19, r20, r21, rfl, q1, q2⟩
    have Q1 := Hid.of q1
    have Q2 := Hid.of q2
    clear q1 q2 b0 bel0 sz0 c0 c1 c2 c3 hmm
    have HRL0 := Hid.of (RepL.one hr0.out hi0.out)
    have HDI0 : Hid (DI ⟨(st : Int), (ev : Int), starts, ars, ends⟩ ev (0 * ev) ⟨[starts], []⟩) := di_start hm.out ev
    have HDE0 : Hid (detS ⟨(st : Int), (ev : Int), starts, ars, ends⟩ = dGo ars ev 257 0 ⟨[starts], []⟩) := by
      show detS ⟨(st : Int), (ev : Int), starts, ars, ends⟩ = _
      unfold detS; simp only [Int.toNat_natCast]
    obtain ⟨i0, hi, hz0, hz1, hz2⟩ := info_parts Tryd.infoSet
    obtain ⟨j0, ji, jz0, jz1, jz2⟩ := info_parts Tryd.infoArrow
    go_wp2_with fail
    go_loopw [9, 11, 12] (fun v9 v11 i wr => ∃ (k : Nat) (s : DS) (SL : List (Nat → Nat)), i = .int .i64 k ∧ k ≤ s.sets.length ∧ s.sets.length ≤ 256 ∧ Hid (FDI w.heap.size wr br v9 v11 SL s.ar) ∧ Hid (Below w.heap.size w wr) ∧ Hid (RepL SL s.sets) ∧ Hid (DI ⟨(st : Int), (ev : Int), starts, ars, ends⟩ ev (k * ev) s) ∧ Hid (detS ⟨(st : Int), (ev : Int), starts, ars, ends⟩ = dGo ars ev (257 - k) k s)) (fun _ _ i _ => 257 - (intOf i).toNat)
    case atStart => exact ⟨0, ⟨[starts], []⟩, [S0], rfl, Nat.zero_le _, by simp, Q1, Q2, HRL0, HDI0, HDE0⟩
    case round =>
      clear Q1 Q2 HRL0 HDI0 HDE0
      obtain ⟨k, s, SL, rfl, hk, h256, HF, HB, HR, HD, HE⟩ := hrel
      obtain ⟨va9, vc9, hv9, -, -, -⟩ := own_form2 HF.out.ss
      subst hv9
      have hSL : SL.length = s.sets.length := HR.out.len
      have HSL := Hid.of hSL
      clear hSL
      by_cases hlt : k < s.sets.length
      · have hltI : (k : Int) < (SL.length : Int) := by rw [HSL.out]; omega
        have hltD : decide ((k : Int) < (SL.length : Int)) = true := by simpa using hltI
        go_wp2_with fail
        go_loopw [9, 11, 29] (fun v9 v11 i wr' => ∃ (e : Nat) (SL1 : List (Nat → Nat)), i = .int .i64 e ∧ e ≤ ev ∧ (dRow ars k s e).sets.length ≤ 256 ∧ Hid (FDI w.heap.size wr' br v9 v11 SL1 (dRow ars k s e).ar) ∧ Hid (Below w.heap.size w wr') ∧ Hid (RepL SL1 (dRow ars k s e).sets)) (fun _ _ i _ => ev - (intOf i).toNat)
        case atStart => exact ⟨0, SL, rfl, Nat.zero_le _, h256, HF, HB, HR⟩
        case round =>
          clear HF HB HR HSL hltI hltD
          obtain ⟨e, SL1, rfl, hee, h256', HF, HB, HR⟩ := hrel
          have HDe := Hid.of (di_row hm.out HD.out hlt e hee)
          have HSuc : Hid (dRow ars k s (e + 1) = dStep ars k (dRow ars k s e) e) := dRow_succ _ _ _ _
          have hk1 : k < (dRow ars k s e).sets.length := by
            obtain ⟨t, ht, -⟩ := dRow_pre ars k s e
            rw [ht, List.length_append]; omega
          have HMono : Hid (∀ j, (dRow ars k s (e + 1)).sets.length ≤ (dRow ars k s (e + 1 + j)).sets.length) := fun j => dRow_mono ars k s (e + 1) j
          obtain ⟨va8, vc8, hv8, -, -, -⟩ := own_form2 HF.out.ss
          subst hv8
          obtain ⟨s1, HS1⟩ : ∃ s1, Hid (s1 = dRow ars k s e) := ⟨_, rfl⟩
          rw [← HS1.out] at h256' HF HR HDe HSuc hk1
          have HSL1 := Hid.of HR.out.len
          by_cases hle : e < ev
          · obtain ⟨l, hl⟩ : ∃ l, Hid (s1.sets[k]? = some l) := ⟨_, List.getElem?_eq_getElem hk1⟩
            obtain ⟨S, hS, hrS, hiS⟩ := HR.out.at hl.out
            obtain ⟨g, cap, hv, hg1, hg2, c0, c1, c2, c3⟩ := HF.out.ss.cell hS
            cases hv
            have HRS := Hid.of hrS
            have hkI : (k : Int) < (SL1.length : Int) := by rw [HSL1.out]; omega
            have hall : ∀ n ∈ allS S, n < st := fun n hn => by
              obtain ⟨n1, n2⟩ := (mem_allS S n).1 hn
              have := (HDe.out.inc l (List.mem_of_getElem? hl.out)).2 _ ((hrS.mem n n1).1 n2)
              dsimp only at this; omega
            have hTr : Tab wr := hT.out.below HB.out hT.out.lt
            have hLr : LD wr L ev (st * ev) (tabS ev ars) := hL.out.below HB.out hL.out.lt
            have hcall := Hid.of (lead1_any st ev e L (tabS ev ars) (okS_tab _ _) S hrS.ok hall hle he8 hst wr hTr hLr)
            have hRep : Hid (Rep (leadF (tabS ev ars) ev e (allS S)) (stepL ars l (e : Int))) := by
              have := rep_lead (st := (st : Int)) (ev := (ev : Int)) (e := (e : Int)) hrS (may_arrs hm.out) (by omega) (by omega) (by omega)
              have h2 : Rep (leadS ev ars S e) (stepL ars l (e : Int)) := by simpa only [Int.toNat_natCast] using this
              exact h2
            have hInc : Hid (Inc (stepL ars l (e : Int))) := inc_srt _
            obtain ⟨S1, HSS⟩ : ∃ S1, Hid (S1 = leadF (tabS ev ars) ev e (allS S)) := ⟨_, rfl⟩
            obtain ⟨to, HTO⟩ : ∃ to, Hid (to = stepL ars l (e : Int)) := ⟨_, rfl⟩
            rw [← HSS.out] at hcall hRep
            rw [← HTO.out] at hRep hInc
            clear hrS hiS hS hall hTr hLr
            have HST : Hid (dStep ars k s1 e = ⟨if findL s1.sets to = s1.sets.length then s1.sets ++ [to] else s1.sets, s1.ar ++ [⟨(k : Int), (e : Int), (findL s1.sets to : Nat)⟩]⟩) := by
              show _ = _
              unfold dStep; rw [hl.out, Option.getD_some, ← HTO.out]
            go_wp2_with fail
            refine hcall.out.mono ?_
            rintro r w1 ⟨rfl, hb1⟩
            have F1 : Hid (FDI w.heap.size (w1.alloc (.cells (scells S1) 62)) br (.slice (some ⟨g, 0, none⟩) SL1.length vc8) u11 SL1 s1.ar) := (HF.out.below hb1).below ((Below.refl _ _).alloc (Nat.le_refl _) _)
            have B1 : Hid (Below w.heap.size w (w1.alloc (.cells (scells S1) 62))) := (HB.out.trans (hb1.mono HB.out.size)).alloc (Nat.le_trans HB.out.size hb1.size) _
            have N1 : Hid (SB (w1.alloc (.cells (scells S1) 62)) w1.heap.size S1) := Blk.new w1 62 (scells S1)
            have hbr : br < w1.heap.size := Nat.lt_of_lt_of_le (Array.getElem?_eq_some_iff.1 HF.out.mp).1 hb1.size
            have hws : w.heap.size ≤ w1.heap.size := Nat.le_trans HB.out.size hb1.size
            obtain ⟨n0, n1, n2, n3⟩ := SB.cells N1.out
            clear hcall hb1 c0 c1 c2 c3 HF HB hg2
            have harl : s1.ar.length ≤ 2056 := by
              rw [HDe.out.len]
              have : k * ev ≤ 256 * 8 := Nat.mul_le_mul (by omega) he8
              omega
            by_cases hnew : findL s1.sets to = s1.sets.length
            · have lk := lookS_new HR.out HDe.out.nd hRep.out hInc.out (w := (w1.alloc (.cells (scells S1) 62))) (r := br) F1.out.mp hnew
              have hu := updS_new HR.out HDe.out.nd hRep.out hInc.out (w := (w1.alloc (.cells (scells S1) 62))) (r := br) F1.out.mp hnew
              have hzs : (setMap (w1.alloc (.cells (scells S1) 62)) br (.map (entsS (SL1 ++ [S1])) (SL1.length + 1))).heap.size = w1.heap.size + 1 := by rw [size_setMap, World.size_alloc]
              have NZ : Hid (SB (setMap (w1.alloc (.cells (scells S1) 62)) br (.map (entsS (SL1 ++ [S1])) (SL1.length + 1))) w1.heap.size S1) := Blk.map N1.out (by omega) _
              obtain ⟨k0, k1, k2, k3⟩ := SB.cells NZ.out
              have OZ : Hid (OwnS (setMap (w1.alloc (.cells (scells S1) 62)) br (.map (entsS (SL1 ++ [S1])) (SL1.length + 1))) w.heap.size (.slice (some ⟨g, 0, none⟩) SL1.length vc8) SL1) := own_same F1.out.ss (fun j hj => heap_setMap_ne _ _ _ (fun e => F1.out.apart.1 (by rw [hj, e])))
              have CF : Hid (∀ j v, ([.int .u64 (S1 0), .int .u64 (S1 1), .int .u64 (S1 2), .int .u64 (S1 3)] : List Value)[j]? = some v → ((setMap (w1.alloc (.cells (scells S1) 62)) br (.map (entsS (SL1 ++ [S1])) (SL1.length + 1))).alloc (.cells #[.int .u64 (S1 0), .int .u64 (S1 1), .int .u64 (S1 2), .int .u64 (S1 3)] 62)).cell? ((⟨w1.heap.size + 1, 0, none⟩ : Addr).add j) = some v) := by
                have := cells_four (setMap (w1.alloc (.cells (scells S1) 62)) br (.map (entsS (SL1 ++ [S1])) (SL1.length + 1))) (setMap (w1.alloc (.cells (scells S1) 62)) br (.map (entsS (SL1 ++ [S1])) (SL1.length + 1))) rfl 62 (.int .u64 (S1 0)) (.int .u64 (S1 1)) (.int .u64 (S1 2)) (.int .u64 (S1 3))
                rw [hzs] at this
                exact this
              have hlS : SL1.length ≤ 256 := by rw [HSL1.out]; exact h256'
              have HNX : Hid (dRow ars k s (e + 1) = ⟨s1.sets ++ [to], s1.ar ++ [⟨(k : Int), (e : Int), (SL1.length : Int)⟩]⟩) := by
                show _ = _
                rw [HSuc.out, HST.out, if_pos hnew, hnew, ← HSL1.out]
              have HNW := Hid.of hnew
              clear hnew
              go_wp2_with (at_builtin; refine wpList_append_block _ rfl (.tmp 52) (.tmp 54) 87 rfl w.heap.size 62 i0 (sval zeroS) 4 32 Tryd.underlying87 hi hz0 hz1 hz2 rfl (by decide) _ _ _ rfl (World.ownsRow.alloc OZ.out _) ⟨w1.heap.size + 1, 0, none⟩ 1 1 [.int .u64 (S1 0), .int .u64 (S1 1), .int .u64 (S1 2), .int .u64 (S1 3)] rfl rfl CF.out (by intro u hu; simp at hu; rcases hu with rfl | rfl | rfl | rfl <;> rfl) (by decide) (by unfold maxLen; omega) (by omega) (by rw [World.size_alloc, hzs]; omega) ?_)
              intro v7 w7 o7 g7 n7
              obtain ⟨p1, p2⟩ := FDI.push F1.out B1.out ((Below.refl _ _).alloc (Nat.le_refl _) _) (own_set o7) g7 (by rw [World.size_alloc]; omega)
              obtain ⟨qa, qc, hv7, -, -, -⟩ := own_form2 o7
              subst hv7
              have P1 := Hid.of p1
              have P2 := Hid.of p2
              clear p1 p2 o7 g7 n7 n0 n1 n2 n3 k0 k1 k2 k3 NZ OZ CF lk hu N1 F1 B1 hzs
              have HR7 := Hid.of (HR.out.snoc hRep.out hInc.out)
              by_cases hfit : SL1.length + 1 ≤ 256
              · have hfD : decide ((256 : Int) < ((SL1.length + 1 : Nat) : Int)) = false := by simp; omega
                have hwz := P2.out.size
                obtain ⟨ra1, rc1, hra, -, -, -⟩ := own_form2 P1.out.ar
                subst hra
                go_wp2_with (at_builtin; refine wpList_append_arrs _ rfl (.tmp 59) (.tmp 64) 23 rfl w.heap.size j0 Tryd.underlying23 ji jz0 jz1 jz2 _ s1.ar rfl (World.ownsRow.alloc P1.out.ar _) (some ⟨w7.heap.size, 0, none⟩) 1 [⟨(k : Int), (e : Int), (SL1.length : Int)⟩] rfl (atA_new _ _ ⟨(k : Int), (e : Int), (SL1.length : Int)⟩ _ rfl) (fun h => by cases h) (by simp; omega) (by simp; omega) ?_)
                intro v8 w8 o8 g8 n8
                obtain ⟨R1, R2⟩ := FDI.arrow P1.out P2.out ((Below.refl _ _).alloc (Nat.le_refl _) _) o8 g8 (Nat.le_trans P2.out.size (Nat.le_refl _))
                have R1' := Hid.of R1
                have R2' := Hid.of R2
                clear R1 R2 o8 g8 n8
                go_wp2_with fail
                go_roundw
                case rel => exact ⟨e + 1, SL1 ++ [S1], by go_num, by omega, (by rw [HNX.out]; have h2 := HSL1.out; simp; omega), (by show FDI _ _ _ _ _ _ _; rw [HNX.out]; exact R1'.out), R2', (by show RepL _ _; rw [HNX.out]; exact HR7.out)⟩
                case measure => simp [intOf]; omega

              · have hfD : decide ((256 : Int) < ((SL1.length + 1 : Nat) : Int)) = true := by simp; omega
                have HNO : Hid (detS ⟨(st : Int), (ev : Int), starts, ars, ends⟩ = none) := by
                  show _ = _
                  rw [HE.out]
                  refine dGo_none hlt ?_ (by omega)
                  have h1 := HMono.out (ev - (e + 1))
                  rw [show e + 1 + (ev - (e + 1)) = ev by omega, HNX.out] at h1
                  have h2 := HSL1.out
                  simp only [List.length_append, List.length_cons, List.length_nil] at h1
                  omega
                go_wp2
                refine bodyPost_ret (v := .tuple #[.slice none 0 0, .slice none 0 0, .bool false]) (by simp [results, go_sem]) rfl ?_
                unfold FindPost
                rw [HNO.out]
                exact ⟨rfl, P2.out⟩
            · have lk := lookS_known HR.out HDe.out.nd hRep.out hInc.out (w := (w1.alloc (.cells (scells S1) 62))) (r := br) F1.out.mp hnew
              have hfl := findL_le s1.sets to
              have HNX : Hid (dRow ars k s (e + 1) = ⟨s1.sets, s1.ar ++ [⟨(k : Int), (e : Int), (findL s1.sets to : Nat)⟩]⟩) := by
                show _ = _
                rw [HSuc.out, HST.out, if_neg hnew]
              have hlS : SL1.length ≤ 256 := by rw [HSL1.out]; exact h256'
              obtain ⟨n, HN⟩ : ∃ n, Hid (n = findL s1.sets to) := ⟨_, rfl⟩
              rw [← HN.out] at lk HNX hfl
              clear hnew
              have hfD : decide ((256 : Int) < (SL1.length : Int)) = false := by simp; omega
              have hwz := B1.out.size
              obtain ⟨ra1, rc1, hra, -, -, -⟩ := own_form2 F1.out.ar
              subst hra
              go_wp2_with (at_builtin; refine wpList_append_arrs _ rfl (.tmp 59) (.tmp 64) 23 rfl w.heap.size j0 Tryd.underlying23 ji jz0 jz1 jz2 _ s1.ar rfl (World.ownsRow.alloc F1.out.ar _) (some ⟨w1.heap.size + 1, 0, none⟩) 1 [⟨(k : Int), (e : Int), (n : Int)⟩] rfl (atA_new _ _ ⟨(k : Int), (e : Int), (n : Int)⟩ _ (by rw [World.size_alloc])) (fun h => by cases h) (by simp; omega) (by simp; omega) ?_)
              intro v8 w8 o8 g8 n8
              obtain ⟨R1, R2⟩ := FDI.arrow F1.out B1.out ((Below.refl _ _).alloc (Nat.le_refl _) _) o8 g8 (Nat.le_trans B1.out.size (Nat.le_refl _))
              have R1' := Hid.of R1
              have R2' := Hid.of R2
              clear R1 R2 o8 g8 n8
              go_wp2_with fail
              go_roundw
              case rel => exact ⟨e + 1, SL1, by go_num, by omega, (by rw [HNX.out]; exact h256'), (by show FDI _ _ _ _ _ _ _; rw [HNX.out]; exact R1'.out), R2', (by show RepL _ _; rw [HNX.out]; exact HR.out)⟩
              case measure => simp [intOf]; omega
          · have hev2 : e = ev := by omega
            have HFIN : Hid (s1 = dRow ars k s ev) := by show _ = _; rw [HS1.out, hev2]
            have HDN : Hid (DI ⟨(st : Int), (ev : Int), starts, ars, ends⟩ ev ((k + 1) * ev) s1) := by
              have := HDe.out
              show DI _ _ _ _
              rw [Nat.succ_mul, ← hev2] at *
              exact this
            have HEN : Hid (detS ⟨(st : Int), (ev : Int), starts, ars, ends⟩ = dGo ars ev (257 - (k + 1)) (k + 1) s1) := by
              show _ = _
              rw [HE.out, dGo_next hlt (by rw [← HFIN.out]; omega) (by omega), ← HFIN.out, show 257 - k - 1 = 257 - (k + 1) by omega]
            clear hev2 HDe
            go_wp2_with fail
            go_roundw
            case rel => exact ⟨k + 1, s1, SL1, by go_num, by omega, h256', HF, HB, HR, HDN, HEN⟩
            case measure => simp [intOf]; omega
      · have hltD : decide ((k : Int) < (SL.length : Int)) = false := by simp; rw [HSL.out]; omega
        have hltI : ¬ (k : Int) < (SL.length : Int) := by rw [HSL.out]; omega
        have HFIN : Hid (detS ⟨(st : Int), (ev : Int), starts, ars, ends⟩ = some s) := by show _ = _; rw [HE.out, dGo_end hlt]
        go_wp2
        refine bodyPost_ret (v := .tuple #[.slice va9 SL.length vc9, u11, .bool true]) (by simp [results, go_sem]) rfl ?_
        unfold FindPost
        rw [HFIN.out]
        exact ⟨_, _, SL, rfl, HR.out, HF.out.ss, HF.out.ar, HB.out⟩

end Go.Proofs.YtbdkaobbfmgnhaaDoor
namespace Go.Proofs.YtbdkaobbfmgnhaaDoor
open Go.RowKit
set_option linter.unusedVariables false

theorem zcell_at {W : World} {b : Nat} {t : TypeId} (h : Blk W b t zcells) : W.cell? ⟨b, 0, none⟩ = some (.int .i64 0) ∧ W.cell? ⟨b, 1, none⟩ = some (.int .i64 0) ∧ W.cell? ⟨b, 2, none⟩ = some (.slice none 0 0) ∧ W.cell? ⟨b, 3, none⟩ = some (.slice none 0 0) ∧ W.cell? ⟨b, 4, none⟩ = some (.slice none 0 0) :=
  ⟨h.cell 0 rfl, h.cell 1 rfl, h.cell 2 rfl, h.cell 3 rfl, h.cell 4 rfl⟩
theorem Blk.set5 {W : World} {b : Nat} {t : TypeId} (h : Blk W b t zcells) (v0 v1 v2 v3 v4 : Value) : Blk (((((W.setCell ⟨b, 0, none⟩ v0).setCell ⟨b, 1, none⟩ v1).setCell ⟨b, 2, none⟩ v2).setCell ⟨b, 3, none⟩ v3).setCell ⟨b, 4, none⟩ v4) b t #[v0, v1, v2, v3, v4] :=
  ((((h.set 0 v0).set 1 v1).set 2 v2).set 3 v3).set 4 v4
theorem below_set5 {W V : World} {B b' : Nat} (h : Below B V W) (hb : B ≤ b') (v0 v1 v2 v3 v4 : Value) : Below B V (((((W.setCell ⟨b', 0, none⟩ v0).setCell ⟨b', 1, none⟩ v1).setCell ⟨b', 2, none⟩ v2).setCell ⟨b', 3, none⟩ v3).setCell ⟨b', 4, none⟩ v4) :=
  ((((h.setCell (p := ⟨b', 0, none⟩) hb v0).setCell (p := ⟨b', 1, none⟩) hb v1).setCell (p := ⟨b', 2, none⟩) hb v2).setCell (p := ⟨b', 3, none⟩) hb v3).setCell (p := ⟨b', 4, none⟩) hb v4
theorem results_three {fn : Func} {p u v : Tmp} (h : fn.results = #[.cell p 25, .tmp u, .tmp v]) (tmps : Array Value) (w : World) (g : Nat) (m : Mach) (l : ML) (x y : Value) (hp : tmps.getD p undef = .pointer (some ⟨g, 0, none⟩)) (hu : tmps.getD u undef = x) (hv : tmps.getD v undef = y) (hB : Blk w g 25 (mcells m l)) :
    (results fn tmps).run Tryd.prog w = .ok (.tuple #[mval m l, x, y]) w := by
  obtain ⟨x0, x1, x2, x3, x4⟩ := mcell_at hB
  have e : (results fn tmps).run Tryd.prog w = ((asAddr (tmps.getD p undef)).run Tryd.prog w).andThen fun a w₁ => ((loadVar 25 a).run Tryd.prog w₁).andThen fun r w₂ => .ok (.tuple #[r, tmps.getD u undef, tmps.getD v undef]) w₂ := by
    simp only [results, h]
    simp [Sem.run_bind, Result.andThen]
  rw [e, hp, hu, hv]
  go_simp

abbrev m0 : Mach := ⟨0, 0, [], [], []⟩
abbrev ml0 : ML := ⟨none, 0, none, 0, none, 0⟩

end Go.Proofs.YtbdkaobbfmgnhaaDoor
namespace Go.Proofs.YtbdkaobbfmgnhaaDoor
open Go.RowKit
set_option linter.unusedVariables false

theorem detB_no1 {m : Mach} (h : mayB m = false) : detB m = false := by unfold detB; rw [h]; rfl
theorem detB_no2 {m : Mach} (h : ¬ m.starts.length = 1) : detB m = false := by unfold detB; simp [h]
theorem detB_no3 {m : Mach} (h : ¬ (m.arrows.length : Int) = m.st * m.ev) : detB m = false := by unfold detB; simp [h]
theorem detB_go {m : Mach} (h1 : mayB m = true) (h2 : m.starts.length = 1) (h3 : (m.arrows.length : Int) = m.st * m.ev) : detB m = goD m.ev 0 (m.arrows.drop 0) := by
  unfold detB; simp [h1, h2, h3]
theorem goD_yes {ev : Int} {ars : List Arr} {k : Nat} {a : Arr} {b : Bool} (h : k < ars.length) (ha : Hid (a = ars[k]?.getD arr0)) (e : Hid (b = goD ev k (ars.drop k))) (hx : a.f * ev + a.e = (k : Int)) : Hid (b = goD ev (k + 1) (ars.drop (k + 1))) := by
  show b = _
  rw [e.out, dropA h, ← ha.out, goD, if_pos hx]
theorem goD_no {ev : Int} {ars : List Arr} {k : Nat} {a : Arr} {b : Bool} (h : k < ars.length) (ha : Hid (a = ars[k]?.getD arr0)) (e : Hid (b = goD ev k (ars.drop k))) (hx : ¬ a.f * ev + a.e = (k : Int)) : false = b := by
  rw [e.out, dropA h, ← ha.out, goD, if_neg hx]
theorem goD_end {ev : Int} {ars : List Arr} {k : Nat} {b : Bool} (h : ¬ k < ars.length) (e : Hid (b = goD ev k (ars.drop k))) : true = b := by
  rw [e.out, List.drop_eq_nil_of_le (by omega)]; rfl

set_option maxRecDepth 100000 in
set_option maxHeartbeats 4000000 in
theorem detIs_any (m : Mach) (l : ML) (w : World) (h : Hid (MAt w m l)) :
    Calls Tryd.prog 33 #[mval m l] w fun e w' => e = .returned (.bool (detB m)) ∧ Below w.heap.size w w' := by
  have B0 : Hid (Below w.heap.size w (w.alloc (.cells (mcells m l) 25))) := (Below.refl _ _).alloc (Nat.le_refl _) _
  have K0 : Hid (Blk (w.alloc (.cells (mcells m l) 25)) w.heap.size 25 (mcells m l)) := Blk.new w _ _
  go_enter Tryd.func33, Tryd.ntmps33
  go_wp2_with fail
  revert B0 K0
  generalize w.alloc (.cells (mcells m l) 25) = V0
  intro B0 K0
  refine (pMay_any m l _ (h.out.below B0.out (Nat.le_refl _))).mono ?_
  rintro e V ⟨rfl, hb1⟩
  have B1 := Hid.of (B0.out.trans (hb1.mono B0.out.size))
  have K1 := Hid.of (K0.out.below hb1 K0.out.lt)
  clear hb1 B0 K0
  cases hm : mayB m with
  | false =>
    have HF := Hid.of (detB_no1 hm)
    clear hm
    go_wp2
    go_ret
    exact ⟨ret_bool HF.out.symm, B1.out⟩
  | true =>
    have hz := mayB_size hm
    have hin := Hid.of (may_arrs hm)
    have hlo := Hid.of h.out.a1
    have HMY := Hid.of hm
    obtain ⟨st, ev, starts, ars, ends⟩ := m
    obtain ⟨a1, c1, a2, c2, a3, c3⟩ := l
    obtain ⟨z1, z2, z3, z4, z5⟩ := hz
    simp only at z1 z2 z3 z4 z5
    obtain ⟨s, rfl⟩ : ∃ s : Nat, st = (s : Int) := ⟨st.toNat, by omega⟩
    obtain ⟨v, rfl⟩ : ∃ v : Nat, ev = (v : Int) := ⟨ev.toNat, by omega⟩
    have hN : s * v ≤ 256 * 8 := Nat.mul_le_mul (by omega) (by omega)
    obtain ⟨N, HN⟩ : ∃ N, Hid (N = s * v) := ⟨_, rfl⟩
    rw [← HN.out] at hN
    have hw0 : IntKind.i64.wrap ((s : Int) * (v : Int)) = (N : Int) := by rw [IntKind.wrap_i64, ← Int.natCast_mul, ← HN.out]; omega
    obtain ⟨x0, x1, x2, x3, x4⟩ := mcell_at K1.out
    dsimp only at x0 x1 x2 x3 x4
    clear hm
    by_cases h1 : starts.length = 1
    · have d1 : ((starts.length : Int) != 1) = false := by rw [h1]; rfl
      have H1 := Hid.of h1
      clear h1
      by_cases h2 : ars.length = N
      · have d2 : ((ars.length : Int) != (N : Int)) = false := by rw [h2]; simp
        have HG : Hid (detB ⟨(s : Int), (v : Int), starts, ars, ends⟩ = goD (v : Int) 0 (ars.drop 0)) := detB_go HMY.out H1.out (by show (ars.length : Int) = (s : Int) * (v : Int); rw [h2, HN.out, Int.natCast_mul])
        have H2 := Hid.of h2
        clear h2
        go_wp2
        go_loopw [28] (fun i wr => ∃ k : Nat, k ≤ ars.length ∧ i = .int .i64 k ∧ Hid (Blk wr w.heap.size 25 (mcells ⟨(s : Int), (v : Int), starts, ars, ends⟩ ⟨a1, c1, a2, c2, a3, c3⟩)) ∧ Hid (Below w.heap.size w wr) ∧ Hid (detB ⟨(s : Int), (v : Int), starts, ars, ends⟩ = goD (v : Int) k (ars.drop k))) (fun i _ => ars.length - (intOf i).toNat)
        case atStart => exact ⟨0, Nat.zero_le _, rfl, K1, B1, HG⟩
        case round =>
          clear x0 x1 x2 x3 x4 K1 B1 HG
          obtain ⟨k, hk, rfl, KB, HB, HE⟩ := hrel
          by_cases hlt : k < ars.length
          · obtain ⟨b, off, rfl, hb, hc⟩ : ∃ b off, a2 = some ⟨b, off, none⟩ ∧ b < w.heap.size ∧ CellsA w b off ars := by
              rcases h.out.a with h0 | ⟨b, off, h0⟩
              · have h0 : ars = [] := h0
                rw [h0] at hlt; simp at hlt
              · exact ⟨b, off, h0⟩
            obtain ⟨a, HA, y1, y2, y3⟩ := hc.at hlt
            replace y1 := (HB.out.cell (p := ⟨b, off + k * 3, none⟩) hb).trans y1
            replace y2 := (HB.out.cell (p := ⟨b, off + k * 3 + 1, none⟩) hb).trans y2
            replace y3 := (HB.out.cell (p := ⟨b, off + k * 3 + 2, none⟩) hb).trans y3
            have hia : arrIn (s : Int) (v : Int) a := by
              have h := HA.out
              rw [List.getElem?_eq_getElem hlt, Option.getD_some] at h
              rw [h]; exact hin.out _ (List.getElem_mem hlt)
            obtain ⟨f, ef⟩ : ∃ f : Nat, a.f = (f : Int) := ⟨a.f.toNat, by omega⟩
            obtain ⟨e, ee⟩ : ∃ e : Nat, a.e = (e : Int) := ⟨a.e.toNat, by omega⟩
            rw [ef] at y1
            rw [ee] at y2
            obtain ⟨q, hq⟩ : ∃ q, q = f * v := ⟨_, rfl⟩
            have hfv : f * v ≤ 256 * 8 := Nat.mul_le_mul (by omega) (by omega)
            have hw1 : IntKind.i64.wrap ((f : Int) * (v : Int)) = (q : Int) := by rw [IntKind.wrap_i64, ← Int.natCast_mul, ← hq]; omega
            have he8 : e ≤ 8 := by omega
            have hq8 : q ≤ 256 * 8 := by omega
            obtain ⟨p, hp⟩ : ∃ p, p = q + e := ⟨_, rfl⟩
            have hw2 : IntKind.i64.wrap ((q : Int) + (e : Int)) = (p : Int) := by rw [IntKind.wrap_i64]; omega
            have HC : Hid (a.f * (v : Int) + a.e = (p : Int)) := by show _ = _; rw [ef, ee, ← Int.natCast_mul, ← hq]; omega
            have z1 : (wr.alloc (.cells #[.int .i64 f, .int .i64 e, .int .i64 a.t] 58)).cell? ⟨w.heap.size, 1, none⟩ = some (.int .i64 v) := (KB.out.alloc _).cell 1 rfl
            have KB' := Hid.of (KB.out.alloc (.cells #[.int .i64 f, .int .i64 e, .int .i64 a.t] 58))
            have HB' := Hid.of (HB.out.alloc HB.out.size (.cells #[.int .i64 f, .int .i64 e, .int .i64 a.t] 58))
            clear hq hp hia ef ee hfv KB HB
            by_cases hpk : p = k
            · have d3 : ((p : Int) != (k : Int)) = false := by rw [hpk]; simp
              have HY := goD_yes hlt HA HE (by rw [HC.out, hpk])
              clear hpk
              go_wp2
              go_roundw
              case rel => exact ⟨k + 1, by omega, by go_num, KB', HB', HY⟩
              case measure => simp [intOf]; omega
            · have d3 : ((p : Int) != (k : Int)) = true := by rw [bne_iff_ne]; omega
              have HY := Hid.of (goD_no hlt HA HE (by rw [HC.out]; omega))
              clear hpk
              go_wp2
              go_ret
              exact ⟨ret_bool HY.out, HB'.out⟩
          · go_wp2
            go_ret
            exact ⟨ret_bool (goD_end hlt HE), HB.out⟩
      · have d2 : ((ars.length : Int) != (N : Int)) = true := by rw [bne_iff_ne]; omega
        have HF : Hid (detB ⟨(s : Int), (v : Int), starts, ars, ends⟩ = false) := detB_no3 (by show ¬ (ars.length : Int) = (s : Int) * (v : Int); rw [← Int.natCast_mul, ← HN.out]; omega)
        clear h2
        go_wp2
        go_ret
        exact ⟨ret_bool HF.out.symm, B1.out⟩
    · have d1 : ((starts.length : Int) != 1) = true := by rw [bne_iff_ne]; omega
      have HF : Hid (detB ⟨(s : Int), (v : Int), starts, ars, ends⟩ = false) := detB_no2 h1
      clear h1
      go_wp2
      go_ret
      exact ⟨ret_bool HF.out.symm, B1.out⟩

end Go.Proofs.YtbdkaobbfmgnhaaDoor
namespace Go.Proofs.YtbdkaobbfmgnhaaDoor
open Go.RowKit
set_option linter.unusedVariables false

section
variable {w W : World} {B bm : Nat} {m : Mach} {l : ML} {K : Nat} {vs va : Value} {S : List Int} {A : List Arr}
theorem Own.keep {w w' : World} {B B' : Nat} {v : Value} {L : List Int} (h : Own w B v L) (hb : Below B' w w') (hB : w.heap.size ≤ B') : Own w' B v L :=
  own_same h (fun k hk => hb.block k (Nat.lt_of_lt_of_le (World.ownsRow.lt h k hk).2 hB))
end

end Go.Proofs.YtbdkaobbfmgnhaaDoor
namespace Go.Proofs.YtbdkaobbfmgnhaaDoor
open Go.RowKit
set_option linter.unusedVariables false

theorem sameB_self : ∀ xs : List Int, sameB xs xs = true := by intro xs; simp [sameB]
/-- A call has answered yes or no. -/
def IsBool (e : Ending) : Prop := ∃ bb, e = .returned (.bool bb)
theorem isBool (bb : Bool) : IsBool (.returned (.bool bb)) := ⟨bb, rfl⟩

set_option maxHeartbeats 1000000 in
theorem great_any (m : Mach) (l : ML) (w : World) :
    Calls Tryd.prog 29 #[mval m l] w fun e w' => IsBool e ∧ Below w.heap.size w w' := by
  have B0 : Hid (Below w.heap.size w (w.alloc (.cells (mcells m l) 25))) := (Below.refl _ _).alloc (Nat.le_refl _) _
  go_enter Tryd.func29, Tryd.ntmps29
  go_wp2
  all_goals
    go_ret
    exact ⟨isBool _, B0.out⟩

end Go.Proofs.YtbdkaobbfmgnhaaDoor
namespace Go.Proofs.YtbdkaobbfmgnhaaDoor
open Go.RowKit
set_option linter.unusedVariables false

theorem sameA_self : ∀ l : List Arr, sameA l l = true
  | [] => rfl
  | a :: r => by simp [sameA, sameA_self r]
theorem sameM_self (m : Mach) : sameM m m = true := by
  rw [sameM_go rfl rfl (sameB_self _) (sameB_self _) rfl]; exact sameA_self _
theorem mat0 (w : World) : MAt w m0 ml0 := ⟨.inl rfl, .inl rfl, .inl rfl, Nat.le_refl _, Nat.zero_le _, fun _ => rfl, Nat.le_refl _, Nat.zero_le _, fun _ => rfl, Nat.le_refl _, Nat.zero_le _, fun _ => rfl⟩
set_option maxHeartbeats 1000000 in
theorem machines_any (m n : Mach) (l k : ML) (w : World) (h : MAt w m l) (h' : MAt w n k) :
    Calls Tryd.prog 32 #[mval m l, mval n k] w fun e w' => e = .returned (.bool (sameM m n)) ∧ Below w.heap.size w w' := by
  have B0 : Hid (Below w.heap.size w ((w.alloc (.cells (mcells m l) 25)).alloc (.cells (mcells n k) 25))) := ((Below.refl _ _).alloc (Nat.le_refl _) _).alloc (by simp) _
  have H := Hid.of (h.below B0.out (Nat.le_refl _))
  have H' := Hid.of (h'.below B0.out (Nat.le_refl _))
  clear h h'
  go_enter Tryd.func32, Tryd.ntmps32
  go_wp2_with fail
  refine (refMSame_any m n l k _ H.out H'.out).mono ?_
  rintro e w1 ⟨rfl, hb⟩
  have HB := Hid.of (B0.out.trans (hb.mono B0.out.size))
  clear hb
  go_wp2
  go_ret
  exact ⟨rfl, HB.out⟩

end Go.Proofs.YtbdkaobbfmgnhaaDoor
