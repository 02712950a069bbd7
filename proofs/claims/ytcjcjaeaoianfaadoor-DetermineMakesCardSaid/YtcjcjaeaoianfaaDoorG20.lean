/-
  machine.Leader, of whatever machine may be.
  The walk of determine.find.
  Set.Row once more: the row is in memory of its own.
  The walk of jalousieref1.Sorted: insertion, one number after the other: it answers 'srt xs'.
  jalousieref1.Sorted hands back a slice of its own.
-/
import Derived.Test.YtcjcjaeaoianfaaDoorCLead
import Derived.Test.YtcjcjaeaoianfaaDoorG07
import Derived.Test.YtcjcjaeaoianfaaDoorCDetA
import Derived.Test.YtcjcjaeaoianfaaDoorCLead1
import Derived.Deep.RegionHeld3
import Derived.Test.YtcjcjaeaoianfaaDoorG12
import Derived.Test.YtcjcjaeaoianfaaDoorG06
import Derived.Deep.QuietTactic
import Derived.BigQuiet
namespace Go.Proofs.YtcjcjaeaoianfaaDoor
open Go.RowKit
set_option linter.unusedVariables false

/-- What machine.Leader answers, of what may be. -/
theorem leader_any (m : Mach) (l : ML) (w : World) (hm : mayB m = true) (h : MAt w m l) :
    Calls Tryd.prog 66 #[mval m l] w fun e w' => ∃ L, e = .returned (leadV L) ∧ LD w' L m.ev.toNat (m.st.toNat * m.ev.toNat) (tabS m.ev.toNat m.arrows) ∧ L.all (w.heap.size ≤ ·) ∧ Below w.heap.size w w' := by
  have hz := mayB_size hm
  have ha := arrsFrom_in (mayB_arrs hm)
  obtain ⟨st, ev, starts, arrows, ends⟩ := m
  obtain ⟨z1, z2, z3, z4, z5⟩ := hz
  simp only at z1 z2 z3 z4 z5 ha
  obtain ⟨s, rfl⟩ : ∃ s : Nat, st = (s : Int) := ⟨st.toNat, by omega⟩
  obtain ⟨e, rfl⟩ : ∃ e : Nat, ev = (e : Int) := ⟨ev.toNat, by omega⟩
  obtain ⟨a1, c1, a2, c2, a3, c3⟩ := l
  simp only [Int.toNat_natCast]
  exact leader_go s e starts arrows ends a1 c1 a2 c2 a3 c3 w (Hid.of h) (Hid.of hm) (by omega) (by omega) z5 (Hid.of ha)

theorem LD.other4 {W : World} {L : LB} {b' ev N : Nat} {T : Nat → Nat → Nat} (h : LD W L ev N T) (hn : L.all (· ≠ b')) (v0 v1 v2 v3 : Value) : LD ((((W.setCell ⟨b', 0, none⟩ v0).setCell ⟨b', 1, none⟩ v1).setCell ⟨b', 2, none⟩ v2).setCell ⟨b', 3, none⟩ v3) L ev N T := by
  obtain ⟨cs, c1, c2, c3⟩ := h.tab
  exact ⟨Blk.other4' h.is 0 hn.1 v0 v1 v2 v3, Blk.other4' h.evb 0 hn.2.1 v0 v1 v2 v3, Blk.other4' h.to 0 hn.2.2.1 v0 v1 v2 v3, ⟨cs, Blk.other4' c1 0 hn.2.2.2.1 v0 v1 v2 v3, c2, c3⟩, Blk.other4' h.bd 0 hn.2.2.2.2 v0 v1 v2 v3⟩
theorem LD.alloc {W : World} {L : LB} {ev N : Nat} {T : Nat → Nat → Nat} (h : LD W L ev N T) (o : Obj) : LD (W.alloc o) L ev N T := h.kept ((Below.refl _ _).alloc (Nat.le_refl _) o)
theorem LD.drew {W : World} {L : LB} {ev N : Nat} {T : Nat → Nat → Nat} (h : LD W L ev N T) : LD W.drew L ev N T := ⟨h.is, h.evb, h.to, h.tab, h.bd⟩

end Go.Proofs.YtcjcjaeaoianfaaDoor
namespace Go.Proofs.YtcjcjaeaoianfaaDoor
open Go.RowKit
set_option linter.unusedVariables false

/-- What find leaves. -/
def FindPost (w : World) (m : Mach) (e : Ending) (w' : World) : Prop :=
  match detS m with
  | none => e = .returned (.tuple #[.slice none 0 0, .slice none 0 0, .bool false]) ∧ Below w.heap.size w w'
  | some s => ∃ vs va SL, e = .returned (.tuple #[vs, va, .bool true]) ∧ RepL SL s.sets ∧ OwnS w' w.heap.size vs SL ∧ OwnA w' w.heap.size va s.ar ∧ Below w.heap.size w w'

theorem repNil : RepL [] [] := ⟨rfl, fun k S h => by simp at h⟩
theorem ents_nil : entsS [] = #[] := rfl
theorem updS_first {S : Nat → Nat} {l : List Int} (hr : Rep S l) (hi : Inc l) {w : World} {r : Nat} (hm : w.heap[r]? = some (.map #[] 0)) :
    (Instr.mapUpdate 117 (.map (some r)) (sval S) (.int .i64 0)).run Tryd.prog w = .ok () (setMap w r (.map (entsS [S]) 1)) := by
  have := updS_new (SL := []) repNil (by simp) hr hi (w := w) (r := r) hm rfl
  simpa using this

theorem Below.map {B : Nat} {w W : World} (h : Below B w W) {br : Nat} (hb : B ≤ br) (o : Obj) : Below B w (setMap W br o) :=
  h.trans ⟨rfl, rfl, rfl, by rw [size_setMap]; exact Nat.le_refl _, fun j hj => heap_setMap_ne _ _ _ (by omega)⟩
theorem Blk.map {W : World} {b br : Nat} {t : TypeId} {cs : Array Value} (h : Blk W b t cs) (hn : b ≠ br) (o : Obj) : Blk (setMap W br o) b t cs := (heap_setMap_ne W br o hn).trans h
theorem fi_first {B : Nat} {W : World} {br : Nat} {v : Value} {S : Nat → Nat} (ho : OwnS W B v [S]) (hm : W.heap[br]? = some (.map #[] 0)) (hb : B ≤ br) : FI B (setMap W br (.map (entsS [S]) 1)) br v (.slice none 0 0) [S] [] := by
  have hbr := (Array.getElem?_eq_some_iff.1 hm).1
  refine ⟨own_same ho (fun k hk => heap_setMap_ne _ _ _ (fun e => ?_)), ownA_nil _ _, heap_setMap _ _ hbr, hb⟩
  obtain ⟨cs, hc⟩ := own_type ho hk
  rw [e, hm] at hc; cases hc
theorem fi_first2 {B : Nat} {W : World} {br : Nat} {S : Nat → Nat} (hm : W.heap[br]? = some (.map (entsS [S]) 1)) (hb : B ≤ br) (hB : B ≤ W.heap.size) : FI B (W.alloc (.cells (scells S) 55)) br (.slice (some ⟨W.heap.size, 0, none⟩) 1 1) (.slice none 0 0) [S] [] :=
  ⟨ownS_one W S B hB, ownA_nil _ _, (Below.heap_alloc W _ br (Array.getElem?_eq_some_iff.1 hm).1).trans hm, hb⟩
theorem FI.drew {B : Nat} {W : World} {br : Nat} {vs va : Value} {SL : List (Nat → Nat)} {A : List Arr} (h : FI B W br vs va SL A) : FI B W.drew br vs va SL A := h.below (Below.refl _ _).drew

set_option maxRecDepth 100000 in
set_option maxHeartbeats 8000000 in
theorem find_any0 (st ev : Nat) (starts : List Int) (ars : List Arr) (ends : List Int) (hm : Hid (mayB ⟨(st : Int), (ev : Int), starts, ars, ends⟩ = true)) (S0 : Nat → Nat) (hr0 : Hid (Rep S0 starts)) (L : LB) (w : World) (hT : Hid (Tab w)) (hL : Hid (LD w L ev (st * ev) (tabS ev ars))) :
    Calls Tryd.prog 65 #[sval S0, .int .i64 ev, leadV L] w fun e w' => FindPost w ⟨(st : Int), (ev : Int), starts, ars, ends⟩ e w' := by
  have hz := mayB_size hm.out
  unfold sizeOk at hz
  dsimp only at hz
  have he8 : ev ≤ 8 := by omega
  have hst : st ≤ 256 := by omega
  have hi0 : Hid (Inc starts) := (may_starts hm.out).1
  have hmm := @run_makeMap Tryd.prog
  have b0 : SB (w.alloc (.cells (scells S0) 55)) w.heap.size S0 := Blk.new w _ _
  have bel0 : Hid (Below w.heap.size w (w.alloc (.cells (scells S0) 55))) := (Below.refl _ _).alloc (Nat.le_refl _) _
  have sz0 : (w.alloc (.cells (scells S0) 55)).heap.size = w.heap.size + 1 := World.size_alloc _ _
  clear hz
  go_enter Tryd.func65, Tryd.ntmps65
  go_wp2
  revert b0 bel0 sz0
  generalize w.alloc (.cells (scells S0) 55) = V
  intro b0 bel0 sz0
  obtain ⟨c0, c1, c2, c3⟩ := b0.cells
  refine Code.wp_mono (Q := regQ fun a' W' => ∃ (br : Nat) (vs r17 r18 r19 r20 r21 : Value), a' = { tmps := #[sval S0, .int .i64 ev, leadV L, .pointer (some ⟨w.heap.size, 0, none⟩), undef, undef, .slice none 0 0, .slice none 0 0, .bool false, vs, .map (some br), undef, undef, undef, undef, undef, undef, r17, r18, r19, r20, r21, undef, undef, undef, undef, undef, undef, undef, undef, undef, undef, undef, undef, undef, undef, undef, undef, undef, undef, undef, undef, undef, undef, undef, undef, undef, undef, undef, undef, undef, undef, undef, undef, undef, undef, undef, undef, undef, undef, undef, undef, undef, undef, undef, undef, undef, undef, undef], defers := [] } ∧ FI w.heap.size W' br vs (.slice none 0 0) [S0] [] ∧ Below w.heap.size w W') ?aft ?reg
  case reg =>
    have bd : SB V.drew w.heap.size S0 := b0
    have beld : Below w.heap.size w V.drew := bel0.out.drew
    have szd : V.drew.heap.size = w.heap.size + 1 := sz0
    clear c0 c1 c2 c3
    refine wp_region_held_drew (S := fun w' => w'.cell? ⟨w.heap.size, 0, none⟩ = some (.int .u64 (S0 0)) ∧ w'.cell? ⟨w.heap.size, 1, none⟩ = some (.int .u64 (S0 1)) ∧ w'.cell? ⟨w.heap.size, 2, none⟩ = some (.int .u64 (S0 2)) ∧ w'.cell? ⟨w.heap.size, 3, none⟩ = some (.int .u64 (S0 3))) (by kernel_rfl) b0.cells (fun hS0 => ?_)
    refine wpAnyH_take (i := 0) (v := sval S0) rfl (by kernel_rfl) (by kernel_rfl) (by kernel_rfl) (fun _ _ _ h => h) (Or.inl ⟨by kernel_rfl, fun w' hw' => by obtain ⟨q0, q1, q2, q3⟩ := hw'; go_simp⟩) hS0 ?_
    refine wpAnyH_take (i := 3) (v := sval S0) rfl (by kernel_rfl) (by kernel_rfl) (by kernel_rfl) (fun _ _ _ h => h) (Or.inl ⟨by kernel_rfl, fun w' hw' => by obtain ⟨q0, q1, q2, q3⟩ := hw'; go_simp⟩) hS0 ?_
    simp only [Act.put, List.setIfInBounds_toArray]
    refine wpAnyH_ready (rs := [1, 2]) (by kernel_rfl) (by simp) ?_
    refine AllReadyH.cons rfl (fun K' hK' => ?_) (AllReadyH.cons rfl (fun K' hK' => ?_) AllReadyH.nil)
    · go_simp
      refine hK'.out _ _ (SB.cells (Blk.drew (b0.alloc _))) (fun hS1 => ?_)
      clear hK' K'
      refine wpAnyH_take (i := 6) (v := .slice (some ⟨w.heap.size + 1, 0, none⟩) 1 1) rfl (by kernel_rfl) (by kernel_rfl) (by kernel_rfl) (fun _ _ _ h => h) (Or.inl ⟨by kernel_rfl, fun w' hw' => by obtain ⟨q0, q1, q2, q3⟩ := hw'; go_simp⟩) hS1 ?_
      refine wpAnyH_ready (rs := [2]) (by kernel_rfl) (by simp) ?_
      refine AllReadyH.cons rfl (fun K' hK' => ?_) AllReadyH.nil
      go_simp
      refine hK'.out _ _ (SB.cells (Blk.drew ((b0.alloc _).alloc _))) (fun hS2 => ?_)
      clear hK' K'
      refine wpAnyH_ready (rs := [4]) (by kernel_rfl) (by simp) ?_
      refine AllReadyH.cons rfl (fun K' hK' => ?_) AllReadyH.nil
      have hmp : ((V.alloc (.cells (scells S0) 55)).alloc (.map #[] 0)).heap[w.heap.size + 1 + 1]? = some (.map #[] 0) := by
        have := World.alloc_heap_new (V.alloc (.cells (scells S0) 55)) (.map #[] 0)
        rwa [World.size_alloc, sz0] at this
      have hu := updS_first hr0.out hi0.out (w := ((V.alloc (.cells (scells S0) 55)).alloc (.map #[] 0)).drew) (r := w.heap.size + 1 + 1) hmp
      go_simp
      refine hK'.out _ _ (SB.cells (Blk.map (Blk.drew ((b0.alloc _).alloc _)) (by omega) _)) (fun hS3 => ?_)
      clear hK' K'
      refine wpAnyH_take (i := 5) (v := .map (some (w.heap.size + 1 + 1))) rfl (by kernel_rfl) (by kernel_rfl) (by kernel_rfl) (fun _ _ _ h => h) (Or.inl ⟨by kernel_rfl, fun w' hw' => by obtain ⟨q0, q1, q2, q3⟩ := hw'; go_simp⟩) hS3 ?_
      refine wpAnyH_take (i := 7) (v := .map (some (w.heap.size + 1 + 1))) rfl (by kernel_rfl) (by kernel_rfl) (by kernel_rfl) (fun _ _ _ h => h) (Or.inl ⟨by kernel_rfl, fun w' hw' => by obtain ⟨q0, q1, q2, q3⟩ := hw'; go_simp⟩) hS3 ?_
      refine wpAnyH_done (by kernel_rfl) ?_ _
      have ho : OwnS ((V.alloc (.cells (scells S0) 55)).alloc (.map #[] 0)).drew w.heap.size (.slice (some ⟨w.heap.size + 1, 0, none⟩) 1 1) [S0] := by
        have := World.ownsRow.alloc (ownS_one V S0 w.heap.size (by omega)) (.map #[] 0)
        rw [sz0] at this
        exact this
      exact ⟨w.heap.size + 1 + 1, .slice (some ⟨w.heap.size + 1, 0, none⟩) 1 1, _, _, _, _, _, rfl, fi_first ho hmp (by omega), Below.map (((bel0.out.alloc (by omega) _).alloc (by simp; omega) _).drew) (by omega) _⟩
    · go_simp
      refine hK'.out _ _ (SB.cells (Blk.drew (b0.alloc _))) (fun hS1 => ?_)
      clear hK' K'
      refine wpAnyH_ready (rs := [1, 4]) (by kernel_rfl) (by simp) ?_
      refine AllReadyH.cons rfl (fun K' hK' => ?_) (AllReadyH.cons rfl (fun K' hK' => ?_) AllReadyH.nil)
      · go_simp
        refine hK'.out _ _ (SB.cells (Blk.drew ((b0.alloc _).alloc _))) (fun hS2 => ?_)
        clear hK' K'
        refine wpAnyH_take (i := 6) (v := .slice (some ⟨w.heap.size + 1 + 1, 0, none⟩) 1 1) rfl (by kernel_rfl) (by kernel_rfl) (by kernel_rfl) (fun _ _ _ h => h) (Or.inl ⟨by kernel_rfl, fun w' hw' => by obtain ⟨q0, q1, q2, q3⟩ := hw'; go_simp⟩) hS2 ?_
        refine wpAnyH_ready (rs := [4]) (by kernel_rfl) (by simp) ?_
        refine AllReadyH.cons rfl (fun K' hK' => ?_) AllReadyH.nil
        have hmp : ((V.alloc (.map #[] 0)).alloc (.cells (scells S0) 55)).heap[w.heap.size + 1]? = some (.map #[] 0) := by
          have := World.alloc_heap_new V (.map #[] 0)
          rw [sz0] at this
          exact (Below.heap_alloc (V.alloc (.map #[] 0)) (.cells (scells S0) 55) _ (by rw [World.size_alloc, sz0]; omega)).trans this
        have hu := updS_first hr0.out hi0.out (w := ((V.alloc (.map #[] 0)).alloc (.cells (scells S0) 55)).drew) (r := w.heap.size + 1) hmp
        go_simp
        refine hK'.out _ _ (SB.cells (Blk.map (Blk.drew ((b0.alloc _).alloc _)) (by omega) _)) (fun hS3 => ?_)
        clear hK' K'
        refine wpAnyH_take (i := 5) (v := .map (some (w.heap.size + 1))) rfl (by kernel_rfl) (by kernel_rfl) (by kernel_rfl) (fun _ _ _ h => h) (Or.inl ⟨by kernel_rfl, fun w' hw' => by obtain ⟨q0, q1, q2, q3⟩ := hw'; go_simp⟩) hS3 ?_
        refine wpAnyH_take (i := 7) (v := .map (some (w.heap.size + 1))) rfl (by kernel_rfl) (by kernel_rfl) (by kernel_rfl) (fun _ _ _ h => h) (Or.inl ⟨by kernel_rfl, fun w' hw' => by obtain ⟨q0, q1, q2, q3⟩ := hw'; go_simp⟩) hS3 ?_
        refine wpAnyH_done (by kernel_rfl) ?_ _
        have ho : OwnS ((V.alloc (.map #[] 0)).alloc (.cells (scells S0) 55)).drew w.heap.size (.slice (some ⟨w.heap.size + 1 + 1, 0, none⟩) 1 1) [S0] := by
          have := ownS_one (V.alloc (.map #[] 0)) S0 w.heap.size (by rw [World.size_alloc, sz0]; omega)
          rw [World.size_alloc, sz0] at this
          exact this
        exact ⟨w.heap.size + 1, .slice (some ⟨w.heap.size + 1 + 1, 0, none⟩) 1 1, _, _, _, _, _, rfl, fi_first ho hmp (by omega), Below.map (((bel0.out.alloc (by omega) _).alloc (by simp; omega) _).drew) (by omega) _⟩
      · have hmp : (V.alloc (.map #[] 0)).heap[w.heap.size + 1]? = some (.map #[] 0) := by
          have := World.alloc_heap_new V (.map #[] 0)
          rwa [sz0] at this
        have hu := updS_first hr0.out hi0.out (w := (V.alloc (.map #[] 0)).drew) (r := w.heap.size + 1) hmp
        go_simp
        refine hK'.out _ _ (SB.cells (Blk.map (Blk.drew (b0.alloc _)) (by omega) _)) (fun hS2 => ?_)
        clear hK' K'
        refine wpAnyH_take (i := 5) (v := .map (some (w.heap.size + 1))) rfl (by kernel_rfl) (by kernel_rfl) (by kernel_rfl) (fun _ _ _ h => h) (Or.inl ⟨by kernel_rfl, fun w' hw' => by obtain ⟨q0, q1, q2, q3⟩ := hw'; go_simp⟩) hS2 ?_
        refine wpAnyH_ready (rs := [1]) (by kernel_rfl) (by simp) ?_
        refine AllReadyH.cons rfl (fun K' hK' => ?_) AllReadyH.nil
        have hsz : (setMap (V.alloc (.map #[] 0)).drew (w.heap.size + 1) (.map (entsS [S0]) 1)).heap.size = w.heap.size + 1 + 1 := by rw [size_setMap]; show (V.alloc (.map #[] 0)).heap.size = _; rw [World.size_alloc, sz0]
        go_simp
        refine hK'.out _ _ (SB.cells (Blk.alloc (Blk.map (Blk.drew (b0.alloc _)) (by omega) _) _)) (fun hS3 => ?_)
        clear hK' K'
        refine wpAnyH_take (i := 6) (v := .slice (some ⟨w.heap.size + 1 + 1, 0, none⟩) 1 1) rfl (by kernel_rfl) (by kernel_rfl) (by kernel_rfl) (fun _ _ _ h => h) (Or.inl ⟨by kernel_rfl, fun w' hw' => by obtain ⟨q0, q1, q2, q3⟩ := hw'; go_simp⟩) hS3 ?_
        refine wpAnyH_take (i := 7) (v := .map (some (w.heap.size + 1))) rfl (by kernel_rfl) (by kernel_rfl) (by kernel_rfl) (fun _ _ _ h => h) (Or.inl ⟨by kernel_rfl, fun w' hw' => by obtain ⟨q0, q1, q2, q3⟩ := hw'; go_simp⟩) hS3 ?_
        refine wpAnyH_done (by kernel_rfl) ?_ _
        have hf := fi_first2 (B := w.heap.size) (S := S0) (W := setMap (V.alloc (.map #[] 0)).drew (w.heap.size + 1) (.map (entsS [S0]) 1)) (br := w.heap.size + 1) (heap_setMap _ _ (by show _ < (V.alloc (.map #[] 0)).heap.size; rw [World.size_alloc, sz0]; omega)) (by omega) (by omega)
        rw [hsz] at hf
        exact ⟨w.heap.size + 1, .slice (some ⟨w.heap.size + 1 + 1, 0, none⟩) 1 1, _, _, _, _, _, rfl, hf, (Below.map ((bel0.out.alloc (by omega) _).drew) (by omega) _).alloc (by omega) _⟩
  case aft =>
    refine regQ_imp ?_
    rintro a' W' ⟨br, vs, r17, r18, r19, r20, r21, rfl, q1, q2⟩
    have Q1 := Hid.of q1
    have Q2 := Hid.of q2
    clear q1 q2 b0 bel0 sz0 c0 c1 c2 c3 hmm
    have HRL0 := Hid.of (RepL.one hr0.out hi0.out)
    have HDI0 : Hid (DI ⟨(st : Int), (ev : Int), starts, ars, ends⟩ ev (0 * ev) ⟨[starts], []⟩) := di_start hm.out ev
    have HDE0 : Hid (detS ⟨(st : Int), (ev : Int), starts, ars, ends⟩ = dGo ars ev 257 0 ⟨[starts], []⟩) := by
      show detS ⟨(st : Int), (ev : Int), starts, ars, ends⟩ = _
      unfold detS; simp only [Int.toNat_natCast]
    obtain ⟨i0, hi, hz0, hz1, hz2⟩ := info_parts Tryd.infoSet
    obtain ⟨j0, ji, jz0, jz1, jz2⟩ := info_parts Tryd.infoArrow
    go_wp2_with fail
    go_loopw [9, 11, 12] (fun v9 v11 i wr => ∃ (k : Nat) (s : DS) (SL : List (Nat → Nat)), i = .int .i64 k ∧ k ≤ s.sets.length ∧ s.sets.length ≤ 256 ∧ Hid (FI w.heap.size wr br v9 v11 SL s.ar) ∧ Hid (Below w.heap.size w wr) ∧ Hid (RepL SL s.sets) ∧ Hid (DI ⟨(st : Int), (ev : Int), starts, ars, ends⟩ ev (k * ev) s) ∧ Hid (detS ⟨(st : Int), (ev : Int), starts, ars, ends⟩ = dGo ars ev (257 - k) k s)) (fun _ _ i _ => 257 - (intOf i).toNat)
    case atStart => exact ⟨0, ⟨[starts], []⟩, [S0], rfl, Nat.zero_le _, by simp, Q1, Q2, HRL0, HDI0, HDE0⟩
    case round =>
      clear Q1 Q2 HRL0 HDI0 HDE0
      obtain ⟨k, s, SL, rfl, hk, h256, HF, HB, HR, HD, HE⟩ := hrel
      obtain ⟨va9, vc9, hv9, -, -, -⟩ := own_form2 HF.out.ss
      subst hv9
      have hSL : SL.length = s.sets.length := HR.out.len
      have HSL := Hid.of hSL
      clear hSL
      by_cases hlt : k < s.sets.length
      · have hltI : (k : Int) < (SL.length : Int) := by rw [HSL.out]; omega
        have hltD : decide ((k : Int) < (SL.length : Int)) = true := by simpa using hltI
        go_wp2_with fail
        go_loopw [9, 11, 29] (fun v9 v11 i wr' => ∃ (e : Nat) (SL1 : List (Nat → Nat)), i = .int .i64 e ∧ e ≤ ev ∧ (dRow ars k s e).sets.length ≤ 256 ∧ Hid (FI w.heap.size wr' br v9 v11 SL1 (dRow ars k s e).ar) ∧ Hid (Below w.heap.size w wr') ∧ Hid (RepL SL1 (dRow ars k s e).sets)) (fun _ _ i _ => ev - (intOf i).toNat)
        case atStart => exact ⟨0, SL, rfl, Nat.zero_le _, h256, HF, HB, HR⟩
        case round =>
          clear HF HB HR HSL hltI hltD
          obtain ⟨e, SL1, rfl, hee, h256', HF, HB, HR⟩ := hrel
          have HDe := Hid.of (di_row hm.out HD.out hlt e hee)
          have HSuc : Hid (dRow ars k s (e + 1) = dStep ars k (dRow ars k s e) e) := dRow_succ _ _ _ _
          have hk1 : k < (dRow ars k s e).sets.length := by
            obtain ⟨t, ht, -⟩ := dRow_pre ars k s e
            rw [ht, List.length_append]; omega
          have HMono : Hid (∀ j, (dRow ars k s (e + 1)).sets.length ≤ (dRow ars k s (e + 1 + j)).sets.length) := fun j => dRow_mono ars k s (e + 1) j
          obtain ⟨va8, vc8, hv8, -, -, -⟩ := own_form2 HF.out.ss
          subst hv8
          obtain ⟨s1, HS1⟩ : ∃ s1, Hid (s1 = dRow ars k s e) := ⟨_, rfl⟩
          rw [← HS1.out] at h256' HF HR HDe HSuc hk1
          have HSL1 := Hid.of HR.out.len
          by_cases hle : e < ev
          · obtain ⟨l, hl⟩ : ∃ l, Hid (s1.sets[k]? = some l) := ⟨_, List.getElem?_eq_getElem hk1⟩
            obtain ⟨S, hS, hrS, hiS⟩ := HR.out.at hl.out
            obtain ⟨g, cap, hv, hg1, hg2, c0, c1, c2, c3⟩ := HF.out.ss.cell hS
            cases hv
            have HRS := Hid.of hrS
            have hkI : (k : Int) < (SL1.length : Int) := by rw [HSL1.out]; omega
            have hall : ∀ n ∈ allS S, n < st := fun n hn => by
              obtain ⟨n1, n2⟩ := (mem_allS S n).1 hn
              have := (HDe.out.inc l (List.mem_of_getElem? hl.out)).2 _ ((hrS.mem n n1).1 n2)
              dsimp only at this; omega
            have hTr : Tab wr := hT.out.below HB.out hT.out.lt
            have hLr : LD wr L ev (st * ev) (tabS ev ars) := hL.out.below HB.out hL.out.lt
            have hcall := Hid.of (lead1_any st ev e L (tabS ev ars) (okS_tab _ _) S hrS.ok hall hle he8 hst wr hTr hLr)
            have hRep : Hid (Rep (leadF (tabS ev ars) ev e (allS S)) (stepL ars l (e : Int))) := by
              have := rep_lead (st := (st : Int)) (ev := (ev : Int)) (e := (e : Int)) hrS (may_arrs hm.out) (by omega) (by omega) (by omega)
              have h2 : Rep (leadS ev ars S e) (stepL ars l (e : Int)) := by simpa only [Int.toNat_natCast] using this
              exact h2
            have hInc : Hid (Inc (stepL ars l (e : Int))) := inc_srt _
            obtain ⟨S1, HSS⟩ : ∃ S1, Hid (S1 = leadF (tabS ev ars) ev e (allS S)) := ⟨_, rfl⟩
            obtain ⟨to, HTO⟩ : ∃ to, Hid (to = stepL ars l (e : Int)) := ⟨_, rfl⟩
            rw [← HSS.out] at hcall hRep
            rw [← HTO.out] at hRep hInc
            clear hrS hiS hS hall hTr hLr
            have HST : Hid (dStep ars k s1 e = ⟨if findL s1.sets to = s1.sets.length then s1.sets ++ [to] else s1.sets, s1.ar ++ [⟨(k : Int), (e : Int), (findL s1.sets to : Nat)⟩]⟩) := by
              show _ = _
              unfold dStep; rw [hl.out, Option.getD_some, ← HTO.out]
            go_wp2_with fail
            refine hcall.out.mono ?_
            rintro r w1 ⟨rfl, hb1⟩
            have F1 : Hid (FI w.heap.size (w1.alloc (.cells (scells S1) 55)) br (.slice (some ⟨g, 0, none⟩) SL1.length vc8) u11 SL1 s1.ar) := (HF.out.below hb1).below ((Below.refl _ _).alloc (Nat.le_refl _) _)
            have B1 : Hid (Below w.heap.size w (w1.alloc (.cells (scells S1) 55))) := (HB.out.trans (hb1.mono HB.out.size)).alloc (Nat.le_trans HB.out.size hb1.size) _
            have N1 : Hid (SB (w1.alloc (.cells (scells S1) 55)) w1.heap.size S1) := Blk.new w1 55 (scells S1)
            have hbr : br < w1.heap.size := Nat.lt_of_lt_of_le (Array.getElem?_eq_some_iff.1 HF.out.mp).1 hb1.size
            have hws : w.heap.size ≤ w1.heap.size := Nat.le_trans HB.out.size hb1.size
            obtain ⟨n0, n1, n2, n3⟩ := SB.cells N1.out
            clear hcall hb1 c0 c1 c2 c3 HF HB hg2
            have harl : s1.ar.length ≤ 2056 := by
              rw [HDe.out.len]
              have : k * ev ≤ 256 * 8 := Nat.mul_le_mul (by omega) he8
              omega
            by_cases hnew : findL s1.sets to = s1.sets.length
            · have lk := lookS_new HR.out HDe.out.nd hRep.out hInc.out (w := (w1.alloc (.cells (scells S1) 55))) (r := br) F1.out.mp hnew
              have hu := updS_new HR.out HDe.out.nd hRep.out hInc.out (w := (w1.alloc (.cells (scells S1) 55))) (r := br) F1.out.mp hnew
              have hzs : (setMap (w1.alloc (.cells (scells S1) 55)) br (.map (entsS (SL1 ++ [S1])) (SL1.length + 1))).heap.size = w1.heap.size + 1 := by rw [size_setMap, World.size_alloc]
              have NZ : Hid (SB (setMap (w1.alloc (.cells (scells S1) 55)) br (.map (entsS (SL1 ++ [S1])) (SL1.length + 1))) w1.heap.size S1) := Blk.map N1.out (by omega) _
              obtain ⟨k0, k1, k2, k3⟩ := SB.cells NZ.out
              have OZ : Hid (OwnS (setMap (w1.alloc (.cells (scells S1) 55)) br (.map (entsS (SL1 ++ [S1])) (SL1.length + 1))) w.heap.size (.slice (some ⟨g, 0, none⟩) SL1.length vc8) SL1) := own_same F1.out.ss (fun j hj => heap_setMap_ne _ _ _ (fun e => F1.out.apart.1 (by rw [hj, e])))
              have CF : Hid (∀ j v, ([.int .u64 (S1 0), .int .u64 (S1 1), .int .u64 (S1 2), .int .u64 (S1 3)] : List Value)[j]? = some v → ((setMap (w1.alloc (.cells (scells S1) 55)) br (.map (entsS (SL1 ++ [S1])) (SL1.length + 1))).alloc (.cells #[.int .u64 (S1 0), .int .u64 (S1 1), .int .u64 (S1 2), .int .u64 (S1 3)] 55)).cell? ((⟨w1.heap.size + 1, 0, none⟩ : Addr).add j) = some v) := by
                have := cells_four (setMap (w1.alloc (.cells (scells S1) 55)) br (.map (entsS (SL1 ++ [S1])) (SL1.length + 1))) (setMap (w1.alloc (.cells (scells S1) 55)) br (.map (entsS (SL1 ++ [S1])) (SL1.length + 1))) rfl 55 (.int .u64 (S1 0)) (.int .u64 (S1 1)) (.int .u64 (S1 2)) (.int .u64 (S1 3))
                rw [hzs] at this
                exact this
              have hlS : SL1.length ≤ 256 := by rw [HSL1.out]; exact h256'
              have HNX : Hid (dRow ars k s (e + 1) = ⟨s1.sets ++ [to], s1.ar ++ [⟨(k : Int), (e : Int), (SL1.length : Int)⟩]⟩) := by
                show _ = _
                rw [HSuc.out, HST.out, if_pos hnew, hnew, ← HSL1.out]
              have HNW := Hid.of hnew
              clear hnew
              go_wp2_with (at_builtin; refine wpList_append_block _ rfl (.tmp 52) (.tmp 54) 80 rfl w.heap.size 55 i0 (sval zeroS) 4 32 Tryd.underlying80 hi hz0 hz1 hz2 rfl (by decide) _ _ _ rfl (World.ownsRow.alloc OZ.out _) ⟨w1.heap.size + 1, 0, none⟩ 1 1 [.int .u64 (S1 0), .int .u64 (S1 1), .int .u64 (S1 2), .int .u64 (S1 3)] rfl rfl CF.out (by intro u hu; simp at hu; rcases hu with rfl | rfl | rfl | rfl <;> rfl) (by decide) (by unfold maxLen; omega) (by omega) (by rw [World.size_alloc, hzs]; omega) ?_)
              intro v7 w7 o7 g7 n7
              obtain ⟨p1, p2⟩ := FI.push F1.out B1.out ((Below.refl _ _).alloc (Nat.le_refl _) _) (own_set o7) g7 (by rw [World.size_alloc]; omega)
              obtain ⟨qa, qc, hv7, -, -, -⟩ := own_form2 o7
              subst hv7
              have P1 := Hid.of p1
              have P2 := Hid.of p2
              clear p1 p2 o7 g7 n7 n0 n1 n2 n3 k0 k1 k2 k3 NZ OZ CF lk hu N1 F1 B1 hzs
              have HR7 := Hid.of (HR.out.snoc hRep.out hInc.out)
              by_cases hfit : SL1.length + 1 ≤ 256
              · have hfD : decide ((256 : Int) < ((SL1.length + 1 : Nat) : Int)) = false := by simp; omega
                have hwz := P2.out.size
                obtain ⟨ra1, rc1, hra, -, -, -⟩ := own_form2 P1.out.ar
                subst hra
                go_wp2_with (at_builtin; refine wpList_append_arrs _ rfl (.tmp 59) (.tmp 64) 23 rfl w.heap.size j0 Tryd.underlying23 ji jz0 jz1 jz2 _ s1.ar rfl (World.ownsRow.alloc P1.out.ar _) (some ⟨w7.heap.size, 0, none⟩) 1 [⟨(k : Int), (e : Int), (SL1.length : Int)⟩] rfl (atA_new _ _ ⟨(k : Int), (e : Int), (SL1.length : Int)⟩ _ rfl) (fun h => by cases h) (by simp; omega) (by simp; omega) ?_)
                intro v8 w8 o8 g8 n8
                obtain ⟨R1, R2⟩ := FI.arrow P1.out P2.out ((Below.refl _ _).alloc (Nat.le_refl _) _) o8 g8 (Nat.le_trans P2.out.size (Nat.le_refl _))
                have R1' := Hid.of R1
                have R2' := Hid.of R2
                clear R1 R2 o8 g8 n8
                go_wp2_with fail
                go_roundw
                case rel => exact ⟨e + 1, SL1 ++ [S1], by go_num, by omega, (by rw [HNX.out]; have h2 := HSL1.out; simp; omega), (by show FI _ _ _ _ _ _ _; rw [HNX.out]; exact R1'.out), R2', (by show RepL _ _; rw [HNX.out]; exact HR7.out)⟩
                case measure => simp [intOf]; omega

              · have hfD : decide ((256 : Int) < ((SL1.length + 1 : Nat) : Int)) = true := by simp; omega
                have HNO : Hid (detS ⟨(st : Int), (ev : Int), starts, ars, ends⟩ = none) := by
                  show _ = _
                  rw [HE.out]
                  refine dGo_none hlt ?_ (by omega)
                  have h1 := HMono.out (ev - (e + 1))
                  rw [show e + 1 + (ev - (e + 1)) = ev by omega, HNX.out] at h1
                  have h2 := HSL1.out
                  simp only [List.length_append, List.length_cons, List.length_nil] at h1
                  omega
                go_wp2
                refine bodyPost_ret (v := .tuple #[.slice none 0 0, .slice none 0 0, .bool false]) (by simp [results, go_sem]) rfl ?_
                unfold FindPost
                rw [HNO.out]
                exact ⟨rfl, P2.out⟩
            · have lk := lookS_known HR.out HDe.out.nd hRep.out hInc.out (w := (w1.alloc (.cells (scells S1) 55))) (r := br) F1.out.mp hnew
              have hfl := findL_le s1.sets to
              have HNX : Hid (dRow ars k s (e + 1) = ⟨s1.sets, s1.ar ++ [⟨(k : Int), (e : Int), (findL s1.sets to : Nat)⟩]⟩) := by
                show _ = _
                rw [HSuc.out, HST.out, if_neg hnew]
              have hlS : SL1.length ≤ 256 := by rw [HSL1.out]; exact h256'
              obtain ⟨n, HN⟩ : ∃ n, Hid (n = findL s1.sets to) := ⟨_, rfl⟩
              rw [← HN.out] at lk HNX hfl
              clear hnew
              have hfD : decide ((256 : Int) < (SL1.length : Int)) = false := by simp; omega
              have hwz := B1.out.size
              obtain ⟨ra1, rc1, hra, -, -, -⟩ := own_form2 F1.out.ar
              subst hra
              go_wp2_with (at_builtin; refine wpList_append_arrs _ rfl (.tmp 59) (.tmp 64) 23 rfl w.heap.size j0 Tryd.underlying23 ji jz0 jz1 jz2 _ s1.ar rfl (World.ownsRow.alloc F1.out.ar _) (some ⟨w1.heap.size + 1, 0, none⟩) 1 [⟨(k : Int), (e : Int), (n : Int)⟩] rfl (atA_new _ _ ⟨(k : Int), (e : Int), (n : Int)⟩ _ (by rw [World.size_alloc])) (fun h => by cases h) (by simp; omega) (by simp; omega) ?_)
              intro v8 w8 o8 g8 n8
              obtain ⟨R1, R2⟩ := FI.arrow F1.out B1.out ((Below.refl _ _).alloc (Nat.le_refl _) _) o8 g8 (Nat.le_trans B1.out.size (Nat.le_refl _))
              have R1' := Hid.of R1
              have R2' := Hid.of R2
              clear R1 R2 o8 g8 n8
              go_wp2_with fail
              go_roundw
              case rel => exact ⟨e + 1, SL1, by go_num, by omega, (by rw [HNX.out]; exact h256'), (by show FI _ _ _ _ _ _ _; rw [HNX.out]; exact R1'.out), R2', (by show RepL _ _; rw [HNX.out]; exact HR.out)⟩
              case measure => simp [intOf]; omega
          · have hev2 : e = ev := by omega
            have HFIN : Hid (s1 = dRow ars k s ev) := by show _ = _; rw [HS1.out, hev2]
            have HDN : Hid (DI ⟨(st : Int), (ev : Int), starts, ars, ends⟩ ev ((k + 1) * ev) s1) := by
              have := HDe.out
              show DI _ _ _ _
              rw [Nat.succ_mul, ← hev2] at *
              exact this
            have HEN : Hid (detS ⟨(st : Int), (ev : Int), starts, ars, ends⟩ = dGo ars ev (257 - (k + 1)) (k + 1) s1) := by
              show _ = _
              rw [HE.out, dGo_next hlt (by rw [← HFIN.out]; omega) (by omega), ← HFIN.out, show 257 - k - 1 = 257 - (k + 1) by omega]
            clear hev2 HDe
            go_wp2_with fail
            go_roundw
            case rel => exact ⟨k + 1, s1, SL1, by go_num, by omega, h256', HF, HB, HR, HDN, HEN⟩
            case measure => simp [intOf]; omega
      · have hltD : decide ((k : Int) < (SL.length : Int)) = false := by simp; rw [HSL.out]; omega
        have hltI : ¬ (k : Int) < (SL.length : Int) := by rw [HSL.out]; omega
        have HFIN : Hid (detS ⟨(st : Int), (ev : Int), starts, ars, ends⟩ = some s) := by show _ = _; rw [HE.out, dGo_end hlt]
        go_wp2
        refine bodyPost_ret (v := .tuple #[.slice va9 SL.length vc9, u11, .bool true]) (by simp [results, go_sem]) rfl ?_
        unfold FindPost
        rw [HFIN.out]
        exact ⟨_, _, SL, rfl, HR.out, HF.out.ss, HF.out.ar, HB.out⟩

end Go.Proofs.YtcjcjaeaoianfaaDoor
namespace Go.Proofs.YtcjcjaeaoianfaaDoor
open Go.RowKit Go.Shelf
set_option linter.unusedVariables false
attribute [local go_sem] Oper.semAt_some

set_option maxRecDepth 100000 in
set_option maxHeartbeats 4000000 in
theorem rowO_in (S : Nat → Nat) (hS : okS S) (w : World) (hT : Tab w) :
    CallsIn Fence.wide 5 Tryd.prog 39 #[sval S] w fun e W' => GivesO w (rowS S) e W' := by
  obtain ⟨i0, hi, hz0, hz1, hz2⟩ := info_parts Tryd.infoInt
  obtain ⟨xs, hxs⟩ := nb_of (N := 256) (allS S) (fun k hk => ((mem_allS S k).1 hk).1)
  have hlen : xs.length ≤ 256 := by have := allS_len S; rw [← hxs, List.length_map] at this; exact this
  have hrow : nbInts xs = rowS S := by unfold nbInts rowS; rw [← hxs, List.map_map]; rfl
  refine callsIn_of_wp_marks Tryd.func39 rfl trivial ?_ rfl
  simp only [Tryd.ntmps39, List.size_toArray, List.length_cons, List.length_nil, Nat.reduceAdd, Nat.reduceSub, Array.replicate_succ, Array.replicate_zero, List.push_toArray, List.append_toArray, List.nil_append, List.cons_append]
  gi_wp2_with (refine ⟨trivial, ?_⟩; refine CallsIn.mono (callsIn_wide.2 (all_any S _)) ?_; rintro e w1 ⟨rfl, rfl⟩)
  have bO : Boxed (((w.alloc (.cells (scells S) 55)).alloc (.cells #[.slice none 0 0] 22)).alloc (.cells (scells S) 55)) (w.heap.size + 1) 22 (.slice none 0 0) := by
    have := (Boxed.new (w.alloc (.cells (scells S) 55)) 22 (.slice none 0 0)).alloc (.cells (scells S) 55)
    rwa [World.size_alloc] at this
  have bN : SB (((w.alloc (.cells (scells S) 55)).alloc (.cells #[.slice none 0 0] 22)).alloc (.cells (scells S) 55)) (w.heap.size + 1 + 1) S := by
    have := Blk.new ((w.alloc (.cells (scells S) 55)).alloc (.cells #[.slice none 0 0] 22)) 55 (scells S)
    rwa [World.size_alloc, World.size_alloc] at this
  have hB0 : Below w.heap.size w (((w.alloc (.cells (scells S) 55)).alloc (.cells #[.slice none 0 0] 22)).alloc (.cells (scells S) 55)) := (((Below.refl _ w).alloc (Nat.le_refl _) _).alloc (by simp) _).alloc (by simp; omega) _
  have hsz : (((w.alloc (.cells (scells S) 55)).alloc (.cells #[.slice none 0 0] 22)).alloc (.cells (scells S) 55)).heap.size = w.heap.size + 3 := by simp
  have hT0 := hT.below hB0 hT.lt
  revert bO bN hB0 hsz hT0
  generalize ((w.alloc (.cells (scells S) 55)).alloc (.cells #[.slice none 0 0] 22)).alloc (.cells (scells S) 55) = W0
  intro bO bN hB0 hsz hT0
  refine wpIn_rangeFunc_ownG rfl (by omega) (gf := 99) (lb := #[.pointer (some ⟨w.heap.size + 1 + 1, 0, none⟩)]) rfl trivial (enters_of Tryd.func99 (by kernel_rfl) rfl)
    (all_stops 4 (by omega) (w.heap.size + 1 + 1) w.heap.size S hS xs hxs hT.lt W0 (by omega) bN hT0) belowK_t (belowK_b (by omega)) (Below.refl _ _) (fun _ => rfl)
    (fun pre W => (∃ v, Boxed W (w.heap.size + 1) 22 v ∧ W.ownsRow w.heap.size 3 1 v (nbInts pre).length ((nbInts pre).map (Value.int .i64)) ∧ True) ∧ Below w.heap.size w W)
    (fun _ _ _ => False)
    (OwnFrom.and (Go.Own.from (holdsRow_own w.heap.size (w.heap.size + 1) 22 3 1 (fun pre : List (NB 256) => (nbInts pre).length) (fun pre => (nbInts pre).map (Value.int .i64)) (fun _ _ => True)) _) (ownFrom_below (Nat.le_refl _) (by omega)))
    (fun _ _ _ _ _ hs _ _ => hs)
    ⟨⟨_, bO, World.ownsRow_nil _ _ _ _, trivial⟩, hB0⟩
    (fun x => { tmps := #[sval S, .pointer (some ⟨w.heap.size, 0, none⟩), .slice none 0 0, .pointer (some ⟨w.heap.size + 1, 0, none⟩), .int .i64 (x.1 : Int), sval S, .func (.func 99) #[] #[.pointer (some ⟨w.heap.size + 1 + 1, 0, none⟩)], .int .i64 (x.1 : Int), undef, undef, undef, undef, undef], defers := [] }) ?assign ?body ?done ?stop
  case assign =>
    intro l x W K hK
    gi_wp2
    exact hK
  case body =>
    rintro l pre x W ⟨⟨v, hv, hrw, -⟩, hB⟩ hlt
    have hc := hv.cell
    have hpl := nbInts_len pre
    have HL := Hid.of hpl
    have hl2 : (nbInts pre).length ≤ 256 := by omega
    clear hpl
    gi_wp2_with (gi_at_builtin; refine wpListIn_append_own _ rfl _ _ 22 rfl w.heap.size 3 i0 (.int .i64 0) 1 8 Tryd.underlying22 hi hz0 hz1 hz2 rfl (by decide) _ _ _ rfl (hrw.alloc _) ⟨W.heap.size, 0, none⟩ 1 1 [.int .i64 (x.1 : Int)] rfl rfl (cell_one_new _ _ _) (by simp [Value.oneCell']) (by unfold maxLen; omega) (by omega) (by have := hB.size; simp; omega) ?_; intro v' w1 hown' hgrow _; obtain ⟨g', cap', rfl⟩ := ownsRow_succ hown'; obtain ⟨hv1, hv2, hr2, hk2, hb2⟩ := hv.appended (by decide) hrw hB.size (by omega) hown' hgrow; have hc1 := hv1.cell; have hf1 := hv1.frozen)
    exact ⟨hk2.from _, hb2, ⟨_, hv2, by rw [nbInts_snoc]; simpa using hr2, trivial⟩, hB.trans hb2⟩
  case done =>
    rintro D ys W hD rfl ⟨⟨v, hv, hrw, -⟩, hB⟩ hK
    have hc := hv.cell
    rw [hrow] at hrw
    gi_wp2
    refine ⟨by simp, .inl ⟨_, _, rfl, run_takeDeferred hK, ?_⟩⟩
    refine ⟨_, results_tmp rfl _ _ _, ?_⟩
    exact ⟨v, rfl, (show Own _ _ v (rowS S) from ownsRow_putObj hrw _ hK rfl), hB.trans (belowK_b (w := w) (Nat.le_refl _) W D _ _ (by omega) hK rfl rfl)⟩
  case stop =>
    rintro D c pre W _ _ h _
    exact h.elim

theorem rowO_any (S : Nat → Nat) (w : World) (hS : okS S) (hT : Tab w) : Calls Tryd.prog 39 #[sval S] w fun e W' => GivesO w (rowS S) e W' :=
  callsIn_wide.1 (rowO_in S hS w hT)

end Go.Proofs.YtcjcjaeaoianfaaDoor
namespace Go.Proofs.YtcjcjaeaoianfaaDoor
open Go.RowKit
set_option linter.unusedVariables false

theorem getD_cons_succ' (y : Int) (r : List Int) (j : Nat) : (y :: r)[j + 1]?.getD 0 = r[j]?.getD 0 := by simp

theorem ins_put {x : Int} : ∀ {L : List Int} {p : Nat}, p ≤ L.length → (∀ j, j < p → L[j]?.getD 0 < x) → (p = L.length ∨ x < L[p]?.getD 0) → ins x L = L.take p ++ x :: L.drop p
  | [], p, hp, _, _ => by have : p = 0 := by simpa using hp
                          subst this; simp [ins]
  | y :: r, 0, _, _, h => by
    rcases h with h | h
    · simp at h
    · have h : x < y := by simpa using h
      simp only [ins, List.take_zero, List.drop_zero, List.nil_append]
      rw [if_neg (by omega), if_neg (by omega)]
  | y :: r, p + 1, hp, hl, h => by
    have h0 : y < x := by simpa using hl 0 (by omega)
    have := ins_put (x := x) (L := r) (p := p) (by simpa using hp) (fun j hj => by have := hl (j + 1) (by omega); rwa [getD_cons_succ'] at this) (by rcases h with h | h; left; simpa using h; right; rwa [getD_cons_succ'] at h)
    simp only [ins]
    rw [if_pos h0, this]
    simp
theorem ins_same {x : Int} : ∀ {L : List Int} {p : Nat}, p < L.length → (∀ j, j < p → L[j]?.getD 0 < x) → L[p]?.getD 0 = x → ins x L = L
  | [], p, hp, _, _ => by simp at hp
  | y :: r, 0, _, _, h => by
    have h : y = x := by simpa using h
    simp only [ins]
    rw [if_neg (by omega), if_pos h]
  | y :: r, p + 1, hp, hl, h => by
    have h0 : y < x := by simpa using hl 0 (by omega)
    have := ins_same (x := x) (L := r) (p := p) (by simpa using hp) (fun j hj => by have := hl (j + 1) (by omega); rwa [getD_cons_succ'] at this) (by rwa [getD_cons_succ'] at h)
    simp only [ins]
    rw [if_pos h0, this]

/-- The list with one place more, at c. -/
def gap (L : List Int) (c : Nat) (y : Int) : List Int := L.take c ++ y :: L.drop c

theorem gap_len {L : List Int} {c : Nat} {y : Int} (h : c ≤ L.length) : (gap L c y).length = L.length + 1 := by simp [gap]; omega
theorem gap_end (L : List Int) : L ++ [0] = gap L L.length 0 := by simp [gap]
theorem gap_at {L : List Int} {c : Nat} {y : Int} (h : c < L.length) : (gap L (c + 1) y)[c]?.getD 0 = L[c]?.getD 0 := by
  rw [gap, List.getElem?_append_left (by simp; omega), List.getElem?_take_of_lt (by omega)]
theorem gap_set {L : List Int} {c : Nat} {y x : Int} (h : c ≤ L.length) : (gap L c y).set c x = gap L c x := by
  rw [gap, gap, List.set_append_right _ _ (by simp; omega)]
  simp only [List.length_take]
  rw [show c - min c L.length = 0 by omega]; rfl
theorem gap_move {L : List Int} {c : Nat} {y : Int} (h : c < L.length) : (gap L (c + 1) y).set (c + 1) (L[c]?.getD 0) = gap L c (L[c]?.getD 0) := by
  rw [gap_set (by omega), gap, gap, List.take_add_one, List.getElem?_eq_getElem h]
  conv => rhs; rw [List.drop_eq_getElem_cons h]
  simp only [Option.toList_some, Option.getD_some, List.append_assoc, List.singleton_append]

theorem Own.cellAt {w : World} {B g n cap : Nat} {M : List Int} (h : Own w B (.slice (some ⟨g, 0, none⟩) n cap) M) {j : Nat} (hj : j < M.length) : w.cell? ⟨g, j, none⟩ = some (.int .i64 (M[j]?.getD 0)) ∧ w.frozen? ⟨g, j, none⟩ = false ∧ B ≤ g := by
  rcases h.cells_of with ⟨h0, _⟩ | ⟨g', cap', h0, hb, hg, hc, hf⟩
  · simp at h0
  · simp only [Value.slice.injEq, Option.some.injEq, Addr.mk.injEq, and_true] at h0
    obtain ⟨rfl, rfl, rfl⟩ := h0
    have := hc j hj
    rw [Nat.zero_add, List.getD_eq_getElem?_getD] at this
    exact ⟨this, hf j, hb⟩
theorem Own.stored {w : World} {B g n cap : Nat} {M : List Int} (h : Own w B (.slice (some ⟨g, 0, none⟩) n cap) M) (j : Nat) (x : Int) : Own (w.setCell ⟨g, j, none⟩ (.int .i64 x)) B (.slice (some ⟨g, 0, none⟩) n cap) (M.set j x) := by
  have hn : n = M.length := by
    rcases h.2 with ⟨h0, _⟩ | ⟨g', cap', cur, h0, _⟩
    · simp at h0
    · simp only [Value.slice.injEq] at h0; exact h0.2.1
  subst hn
  have := (World.ownsRow.stored h j (.int .i64 x)).1
  unfold Own
  rw [List.length_set, List.map_set]
  exact this
theorem Own.shape {w : World} {B : Nat} {v : Value} {M : List Int} (h : Own w B v M) (hp : 0 < M.length) : ∃ g cap, v = .slice (some ⟨g, 0, none⟩) M.length cap := by
  rcases h.cells_of with ⟨_, h0⟩ | ⟨g', cap', h0, _⟩
  · subst h0; simp at hp
  · exact ⟨g', cap', h0⟩

theorem srt_take {xs : List Int} {k : Nat} {x : Int} (h : k < xs.length) (hx : Hid (x = xs[k]?.getD 0)) : srt (xs.take (k + 1)) = ins x (srt (xs.take k)) := by
  have hx := hx.out
  rw [List.getElem?_eq_getElem h, Option.getD_some] at hx
  rw [List.take_add_one, List.getElem?_eq_getElem h, Option.toList_some, srt_snoc, hx]

set_option maxHeartbeats 2000000 in
set_option maxRecDepth 100000 in
theorem sorted_some (bx ox cx : Nat) (xs : List Int) (w : World) (hl : xs.length ≤ 17592186044416) (hbx : bx < w.heap.size) (hc : Cells w bx ox xs) :
    Calls Tryd.prog 76 #[.slice (some ⟨bx, ox, none⟩) xs.length cx] w fun e w' => ∃ v, e = .returned v ∧ Own w' w.heap.size v (srt xs) ∧ Below w.heap.size w w' := by
  obtain ⟨i0, hi, hz0, hz1, hz2⟩ := info_parts Tryd.infoInt
  go_enter Tryd.func76, Tryd.ntmps76
  go_wp2
  go_loopw [3, 4] (fun v i wr => ∃ k : Nat, k ≤ xs.length ∧ i = .int .i64 k ∧ Own wr w.heap.size v (srt (xs.take k)) ∧ Below w.heap.size w wr) (fun _ i _ => xs.length - (intOf i).toNat)
  case atStart => exact ⟨0, Nat.zero_le _, rfl, own_nil _ _, Below.refl _ _⟩
  case round =>
    obtain ⟨k, hk, rfl, hown, hbel⟩ := hrel
    by_cases hlt : k < xs.length
    · obtain ⟨x, HX, hcx0⟩ := hc.at hlt
      obtain ⟨wo, hwo⟩ : ∃ wo : World, wo = wr := ⟨_, rfl⟩
      subst hwo
      have hcx : wo.cell? ⟨bx, ox + k, none⟩ = some (.int .i64 x) := (hbel.cell (p := ⟨bx, ox + k, none⟩) hbx).trans hcx0
      have hcx00 := hcx0
      clear hcx0
      have hnext : Hid (srt (xs.take (k + 1)) = ins x (srt (xs.take k))) := srt_take hlt HX
      have hll : (srt (xs.take k)).length ≤ k := Nat.le_trans (srt_len _) (List.length_take_le _ _)
      generalize srt (xs.take k) = L at *
      obtain ⟨a, cap, rfl, hat, hlm⟩ := hown.at
      unfold maxLen at hlm
      go_wp2
      go_loopw [5] (fun i wr' => ∃ p q : Nat, p ≤ L.length ∧ i = .int .i64 p ∧ wr' = wo.drewN q ∧ Hid (∀ j, j < p → L[j]?.getD 0 < x)) (fun i _ => L.length - (intOf i).toNat)
      case atStart => exact ⟨0, 0, Nat.zero_le _, rfl, rfl, fun j hj => by omega⟩
      case round =>
        obtain ⟨p, q, hp, rfl, rfl, hlow⟩ := hrel
        by_cases hpl : p < L.length
        · rcases hat with h0 | ⟨b, off, rfl, hb, hca⟩
          · subst h0; simp at hpl
          · obtain ⟨y, HY, hcy⟩ := hca.at hpl
            by_cases c1 : y < x
            · have d : decide (y < x) = true := by simpa using c1
              go_wp2
              go_quiet (fail)
              go_wp2
              go_roundw
              case rel => exact ⟨p + 1, _, by omega, by go_num, rfl, fun j hj => by
                by_cases e : j = p
                · subst e; have := HY.out; omega
                · exact hlow.out j (by omega)⟩
              case measure => simp [intOf]; omega
            · have d : decide (y < x) = false := by simpa using c1
              go_wp2
              go_quiet (fail)
              go_wp2
              obtain ⟨Q, hQ⟩ : ∃ Q, (wo.drewN q).drewN nq = wo.drewN Q := ⟨_, World.drewN_drewN _ _ _⟩
              rw [hQ]
              clear hQ
              by_cases c2 : y = x
              · have HC : Hid (y = x) := c2
                have d2 : (y == x) = true := by simp [c2]
                clear c2
                have E2 : Hid (srt (xs.take (k + 1)) = L) := by show _ = _; rw [hnext.out]; exact ins_same hpl hlow.out (by rw [← HY.out]; exact HC.out)
                go_quiet (fail)
                go_wp2
                go_roundw
                case rel => exact ⟨k + 1, by omega, by go_num, by rw [E2.out]; exact hown.drewN _, below_drewN hbel _⟩
                case measure => simp [intOf]; omega
              · have d2 : (y == x) = false := by simp [c2]
                go_quiet (fail)
                obtain ⟨Q', hQ'⟩ : ∃ Q', (wo.drewN Q).drewN nq = wo.drewN Q' := ⟨_, World.drewN_drewN _ _ _⟩
                rw [hQ']
                clear hQ'
                have HE : Hid (p = L.length ∨ x < L[p]?.getD 0) := .inr (by have := HY.out; omega)
                obtain ⟨wq, hwq⟩ : ∃ wq : World, wq = wo.drewN Q' := ⟨_, rfl⟩
                have hown0 : Own wq w.heap.size (.slice (some ⟨b, off, none⟩) L.length cap) L := by rw [hwq]; exact hown.drewN Q'
                have hbelo : Below w.heap.size w wq := by rw [hwq]; exact below_drewN hbel _
                have hcxq : wq.cell? ⟨bx, ox + k, none⟩ = some (.int .i64 x) := by rw [hwq]; exact hcx
                rw [← hwq]
                clear hwq hown hbel hcx
                have hszo : w.heap.size ≤ wq.heap.size := hbelo.size
                have hbxq : bx < wq.heap.size := by omega
                go_wp2_with (at_builtin; refine wpList_append_own _ rfl _ _ 22 rfl w.heap.size 3 i0 (.int .i64 0) 1 8 Tryd.underlying22 hi hz0 hz1 hz2 rfl (by decide) _ _ _ rfl (World.ownsRow.alloc hown0 _) ⟨wq.heap.size, 0, none⟩ 1 1 [.int .i64 0] rfl rfl (cell_one_new _ _ _) (by intro u hu; simp at hu; subst hu; rfl) (by unfold maxLen; omega) (by omega) (by simp; omega) ?_)
                intro v' w1 hown' hgrow _
                obtain ⟨o1, o2, -⟩ := own_snoc hown0 hbelo hszo hown' hgrow
                clear hown' hgrow hown0 hcxq
                obtain ⟨g, cap', rfl⟩ := o1.shape (by simp)
                rw [List.length_append, List.length_singleton] at o1 ⊢
                rw [gap_end] at o1
                go_wp2
                go_loopw [6] (fun i wr' => ∃ (c : Nat) (z : Int), p ≤ c ∧ c ≤ L.length ∧ i = .int .i64 c ∧ Own wr' w.heap.size (.slice (some ⟨g, 0, none⟩) (L.length + 1) cap') (gap L c z) ∧ Below w.heap.size w wr') (fun i _ => (intOf i).toNat)
                case atStart => exact ⟨L.length, 0, hp, Nat.le_refl _, by go_num, o1, o2⟩
                case round =>
                  obtain ⟨c, z, hc1, hc2, rfl, ow, bw⟩ := hrel
                  clear o1 o2
                  by_cases hcp : p < c
                  · obtain ⟨e, rfl⟩ : ∃ e, c = e + 1 := ⟨c - 1, by omega⟩
                    have hgl := gap_len (y := z) hc2
                    obtain ⟨f1, f2, f3⟩ := ow.cellAt (j := e) (by omega)
                    obtain ⟨f4, f5, -⟩ := ow.cellAt (j := e + 1) (by omega)
                    rw [gap_at (by omega)] at f1
                    have ow' := ow.stored (e + 1) (L[e]?.getD 0)
                    rw [gap_move (by omega)] at ow'
                    have bw' := bw.setCell (p := ⟨g, e + 1, none⟩) f3 (.int .i64 (L[e]?.getD 0))
                    generalize L[e]?.getD 0 = u at *
                    generalize (gap L (e + 1) z)[e + 1]?.getD 0 = u' at *
                    clear ow
                    go_wp2
                    go_roundw
                    case rel => exact ⟨e, u, by omega, by omega, by go_num, ow', bw'⟩
                    case measure => simp [intOf]
                  · have hcp' : c = p := by omega
                    subst hcp'
                    have hgl := gap_len (y := z) hc2
                    obtain ⟨f1, f2, f3⟩ := ow.cellAt (j := c) (by omega)
                    have hcx2 : wr.cell? ⟨bx, ox + k, none⟩ = some (.int .i64 x) := (bw.cell (p := ⟨bx, ox + k, none⟩) hbx).trans hcx00
                    have ow' := ow.stored c x
                    rw [gap_set hc2, gap, ← ins_put hc2 hlow.out HE.out, ← hnext.out] at ow'
                    have bw' := bw.setCell (p := ⟨g, c, none⟩) f3 (.int .i64 x)
                    generalize (gap L c z)[c]?.getD 0 = u' at *
                    clear ow
                    go_wp2
                    go_roundw
                    case rel => exact ⟨k + 1, by omega, by go_num, ow', bw'⟩
                    case measure => simp [intOf]; omega
        · go_wp2
          go_quiet (fail)
          go_wp2
          obtain ⟨Q, hQ⟩ : ∃ Q, (wo.drewN q).drewN nq = wo.drewN Q := ⟨_, World.drewN_drewN _ _ _⟩
          rw [hQ]
          clear hQ
          go_quiet (fail)
          obtain ⟨Q', hQ'⟩ : ∃ Q', (wo.drewN Q).drewN nq = wo.drewN Q' := ⟨_, World.drewN_drewN _ _ _⟩
          rw [hQ']
          clear hQ'
          have HE : Hid (p = L.length ∨ x < L[p]?.getD 0) := .inl (by omega)
          obtain ⟨wq, hwq⟩ : ∃ wq : World, wq = wo.drewN Q' := ⟨_, rfl⟩
          have hown0 : Own wq w.heap.size (.slice a L.length cap) L := by rw [hwq]; exact hown.drewN Q'
          have hbelo : Below w.heap.size w wq := by rw [hwq]; exact below_drewN hbel _
          have hcxq : wq.cell? ⟨bx, ox + k, none⟩ = some (.int .i64 x) := by rw [hwq]; exact hcx
          rw [← hwq]
          clear hwq hown hbel hcx hat
          have hszo : w.heap.size ≤ wq.heap.size := hbelo.size
          have hbxq : bx < wq.heap.size := by omega
          go_wp2_with (at_builtin; refine wpList_append_own _ rfl _ _ 22 rfl w.heap.size 3 i0 (.int .i64 0) 1 8 Tryd.underlying22 hi hz0 hz1 hz2 rfl (by decide) _ _ _ rfl (World.ownsRow.alloc hown0 _) ⟨wq.heap.size, 0, none⟩ 1 1 [.int .i64 0] rfl rfl (cell_one_new _ _ _) (by intro u hu; simp at hu; subst hu; rfl) (by unfold maxLen; omega) (by omega) (by simp; omega) ?_)
          intro v' w1 hown' hgrow _
          obtain ⟨o1, o2, -⟩ := own_snoc hown0 hbelo hszo hown' hgrow
          clear hown' hgrow hown0 hcxq
          obtain ⟨g, cap', rfl⟩ := o1.shape (by simp)
          rw [List.length_append, List.length_singleton] at o1 ⊢
          rw [gap_end] at o1
          go_wp2
          go_loopw [6] (fun i wr' => ∃ (c : Nat) (z : Int), p ≤ c ∧ c ≤ L.length ∧ i = .int .i64 c ∧ Own wr' w.heap.size (.slice (some ⟨g, 0, none⟩) (L.length + 1) cap') (gap L c z) ∧ Below w.heap.size w wr') (fun i _ => (intOf i).toNat)
          case atStart => exact ⟨L.length, 0, hp, Nat.le_refl _, by go_num, o1, o2⟩
          case round =>
            obtain ⟨c, z, hc1, hc2, rfl, ow, bw⟩ := hrel
            clear o1 o2
            by_cases hcp : p < c
            · omega
            · have hcp' : c = p := by omega
              subst hcp'
              have hgl := gap_len (y := z) hc2
              obtain ⟨f1, f2, f3⟩ := ow.cellAt (j := c) (by omega)
              have hcx2 : wr.cell? ⟨bx, ox + k, none⟩ = some (.int .i64 x) := (bw.cell (p := ⟨bx, ox + k, none⟩) hbx).trans hcx00
              have ow' := ow.stored c x
              rw [gap_set hc2, gap, ← ins_put hc2 hlow.out HE.out, ← hnext.out] at ow'
              have bw' := bw.setCell (p := ⟨g, c, none⟩) f3 (.int .i64 x)
              generalize (gap L c z)[c]?.getD 0 = u' at *
              clear ow
              go_wp2
              go_roundw
              case rel => exact ⟨k + 1, by omega, by go_num, ow', bw'⟩
              case measure => simp [intOf]; omega
    · rw [List.take_of_length_le (by omega)] at hown
      go_wp2
      go_ret
      exact ⟨_, rfl, hown, hbel⟩

set_option maxHeartbeats 400000 in
theorem sorted_nil (a : Option Addr) (cx : Nat) (w : World) :
    Calls Tryd.prog 76 #[.slice a 0 cx] w fun e w' => e = .returned (.slice none 0 0) ∧ w' = w := by
  go_enter Tryd.func76, Tryd.ntmps76
  go_wp2
  refine wp_loop_rounds 1 ?_
  rw [rounds_succ]
  go_wp2
  go_ret
  exact ⟨rfl, rfl⟩

theorem sorted_any (a : Option Addr) (cx : Nat) (xs : List Int) (w : World) (hs : At w a xs) (hl : xs.length ≤ 17592186044416) :
    Calls Tryd.prog 76 #[.slice a xs.length cx] w fun e w' => Gives w (srt xs) e w' := by
  rcases hs with rfl | ⟨b, off, rfl, hb, hc⟩
  · refine (sorted_nil a cx w).mono ?_
    rintro e w' ⟨rfl, rfl⟩
    exact gives_of_own (B := w'.heap.size) (own_nil _ _) (Below.refl _ _)
  · refine (sorted_some b off cx xs w hl hb hc).mono ?_
    rintro e w' ⟨v, rfl, h1, h2⟩
    exact gives_of_own h1 h2

end Go.Proofs.YtcjcjaeaoianfaaDoor
namespace Go.Proofs.YtcjcjaeaoianfaaDoor
open Go.RowKit

theorem Own.low {w : World} {B B' : Nat} {v : Value} {xs : List Int} (h : Own w B v xs) (hB : B' ≤ B) : Own w B' v xs := by
  refine ⟨h.1, ?_⟩
  rcases h.2 with hn | ⟨g, cap, cur, e, hg, rest⟩
  · exact .inl hn
  · exact .inr ⟨g, cap, cur, e, Nat.le_trans hB hg, rest⟩
theorem GivesO.gives {w : World} {xs : List Int} {e : Ending} {w' : World} (h : GivesO w xs e w') : Gives w xs e w' := by
  obtain ⟨v, rfl, h1, h2⟩ := h
  exact gives_of_own h1 h2
theorem sorted_own (a : Option Addr) (cx : Nat) (xs : List Int) (w : World) (hs : At w a xs) (hl : xs.length ≤ 17592186044416) :
    Calls Tryd.prog 76 #[.slice a xs.length cx] w fun e w' => GivesO w (srt xs) e w' := by
  rcases hs with rfl | ⟨b, off, rfl, hb, hc⟩
  · refine (sorted_nil a cx w).mono ?_
    rintro e w' ⟨rfl, rfl⟩
    exact ⟨_, rfl, own_nil _ _, Below.refl _ _⟩
  · refine (sorted_some b off cx xs w hl hb hc).mono ?_
    rintro e w' ⟨v, rfl, h1, h2⟩
    exact ⟨v, rfl, h1, h2⟩

end Go.Proofs.YtcjcjaeaoianfaaDoor
