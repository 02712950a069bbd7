/-
  machine.Leader, of whatever machine may be.
  The walk of determine.find.
  How many pairs are not yet told apart; what a sweep of Apart knows.
-/
import Derived.Test.YtkkkacmccndinaaDoorCLead
import Derived.Test.YtkkkacmccndinaaDoorG19
import Derived.Test.YtkkkacmccndinaaDoorG14
import Derived.Test.YtkkkacmccndinaaDoorCLead1
import Derived.Deep.RegionHeld3
import Derived.Test.YtkkkacmccndinaaDoorG20
namespace Go.Proofs.YtkkkacmccndinaaDoor
open Go.RowKit
set_option linter.unusedVariables false

/-- What machine.Leader answers, of what may be. -/
theorem leader_any (m : Mach) (l : ML) (w : World) (hm : mayB m = true) (h : MAt w m l) :
    Calls Tryd.prog 64 #[mval m l] w fun e w' => ∃ L, e = .returned (leadV L) ∧ LD w' L m.ev.toNat (m.st.toNat * m.ev.toNat) (tabS m.ev.toNat m.arrows) ∧ L.all (w.heap.size ≤ ·) ∧ Below w.heap.size w w' := by
  have hz := mayB_size hm
  have ha := arrsFrom_in (mayB_arrs hm)
  obtain ⟨st, ev, starts, arrows, ends⟩ := m
  obtain ⟨z1, z2, z3, z4, z5⟩ := hz
  simp only at z1 z2 z3 z4 z5 ha
  obtain ⟨s, rfl⟩ : ∃ s : Nat, st = (s : Int) := ⟨st.toNat, by omega⟩
  obtain ⟨e, rfl⟩ : ∃ e : Nat, ev = (e : Int) := ⟨ev.toNat, by omega⟩
  obtain ⟨a1, c1, a2, c2, a3, c3⟩ := l
  simp only [Int.toNat_natCast]
  exact leader_go s e starts arrows ends a1 c1 a2 c2 a3 c3 w (Hid.of h) (Hid.of hm) (by omega) (by omega) z5 (Hid.of ha)

theorem LD.other4 {W : World} {L : LB} {b' ev N : Nat} {T : Nat → Nat → Nat} (h : LD W L ev N T) (hn : L.all (· ≠ b')) (v0 v1 v2 v3 : Value) : LD ((((W.setCell ⟨b', 0, none⟩ v0).setCell ⟨b', 1, none⟩ v1).setCell ⟨b', 2, none⟩ v2).setCell ⟨b', 3, none⟩ v3) L ev N T := by
  obtain ⟨cs, c1, c2, c3⟩ := h.tab
  exact ⟨Blk.other4' h.is 0 hn.1 v0 v1 v2 v3, Blk.other4' h.evb 0 hn.2.1 v0 v1 v2 v3, Blk.other4' h.to 0 hn.2.2.1 v0 v1 v2 v3, ⟨cs, Blk.other4' c1 0 hn.2.2.2.1 v0 v1 v2 v3, c2, c3⟩, Blk.other4' h.bd 0 hn.2.2.2.2 v0 v1 v2 v3⟩
theorem LD.alloc {W : World} {L : LB} {ev N : Nat} {T : Nat → Nat → Nat} (h : LD W L ev N T) (o : Obj) : LD (W.alloc o) L ev N T := h.kept ((Below.refl _ _).alloc (Nat.le_refl _) o)
theorem LD.drew {W : World} {L : LB} {ev N : Nat} {T : Nat → Nat → Nat} (h : LD W L ev N T) : LD W.drew L ev N T := ⟨h.is, h.evb, h.to, h.tab, h.bd⟩

end Go.Proofs.YtkkkacmccndinaaDoor
namespace Go.Proofs.YtkkkacmccndinaaDoor
open Go.RowKit
set_option linter.unusedVariables false

/-- What find leaves. -/
def FindPost (w : World) (m : Mach) (e : Ending) (w' : World) : Prop :=
  match detS m with
  | none => e = .returned (.tuple #[.slice none 0 0, .slice none 0 0, .bool false]) ∧ Below w.heap.size w w'
  | some s => ∃ vs va SL, e = .returned (.tuple #[vs, va, .bool true]) ∧ RepL SL s.sets ∧ OwnS w' w.heap.size vs SL ∧ OwnA w' w.heap.size va s.ar ∧ Below w.heap.size w w'

theorem repNil : RepL [] [] := ⟨rfl, fun k S h => by simp at h⟩
theorem ents_nil : entsS [] = #[] := rfl
theorem updS_first {S : Nat → Nat} {l : List Int} (hr : Rep S l) (hi : Inc l) {w : World} {r : Nat} (hm : w.heap[r]? = some (.map #[] 0)) :
    (Instr.mapUpdate 120 (.map (some r)) (sval S) (.int .i64 0)).run Tryd.prog w = .ok () (setMap w r (.map (entsS [S]) 1)) := by
  have := updS_new (SL := []) repNil (by simp) hr hi (w := w) (r := r) hm rfl
  simpa using this

theorem Below.map {B : Nat} {w W : World} (h : Below B w W) {br : Nat} (hb : B ≤ br) (o : Obj) : Below B w (setMap W br o) :=
  h.trans ⟨rfl, rfl, rfl, by rw [size_setMap]; exact Nat.le_refl _, fun j hj => heap_setMap_ne _ _ _ (by omega)⟩
theorem Blk.map {W : World} {b br : Nat} {t : TypeId} {cs : Array Value} (h : Blk W b t cs) (hn : b ≠ br) (o : Obj) : Blk (setMap W br o) b t cs := (heap_setMap_ne W br o hn).trans h
theorem fi_first {B : Nat} {W : World} {br : Nat} {v : Value} {S : Nat → Nat} (ho : OwnS W B v [S]) (hm : W.heap[br]? = some (.map #[] 0)) (hb : B ≤ br) : FDI B (setMap W br (.map (entsS [S]) 1)) br v (.slice none 0 0) [S] [] := by
  have hbr := (Array.getElem?_eq_some_iff.1 hm).1
  refine ⟨own_same ho (fun k hk => heap_setMap_ne _ _ _ (fun e => ?_)), ownA_nil _ _, heap_setMap _ _ hbr, hb⟩
  obtain ⟨cs, hc⟩ := own_type ho hk
  rw [e, hm] at hc; cases hc
theorem fi_first2 {B : Nat} {W : World} {br : Nat} {S : Nat → Nat} (hm : W.heap[br]? = some (.map (entsS [S]) 1)) (hb : B ≤ br) (hB : B ≤ W.heap.size) : FDI B (W.alloc (.cells (scells S) 58)) br (.slice (some ⟨W.heap.size, 0, none⟩) 1 1) (.slice none 0 0) [S] [] :=
  ⟨ownS_one W S B hB, ownA_nil _ _, (Below.heap_alloc W _ br (Array.getElem?_eq_some_iff.1 hm).1).trans hm, hb⟩
theorem FDI.drew {B : Nat} {W : World} {br : Nat} {vs va : Value} {SL : List (Nat → Nat)} {A : List Arr} (h : FDI B W br vs va SL A) : FDI B W.drew br vs va SL A := h.below (Below.refl _ _).drew

set_option maxRecDepth 100000 in
set_option maxHeartbeats 8000000 in
theorem find_any0 (st ev : Nat) (starts : List Int) (ars : List Arr) (ends : List Int) (hm : Hid (mayB ⟨(st : Int), (ev : Int), starts, ars, ends⟩ = true)) (S0 : Nat → Nat) (hr0 : Hid (Rep S0 starts)) (L : LB) (w : World) (hT : Hid (Tab w)) (hL : Hid (LD w L ev (st * ev) (tabS ev ars))) :
    Calls Tryd.prog 63 #[sval S0, .int .i64 ev, leadV L] w fun e w' => FindPost w ⟨(st : Int), (ev : Int), starts, ars, ends⟩ e w' := by
  have hz := mayB_size hm.out
  unfold sizeOk at hz
  dsimp only at hz
  have he8 : ev ≤ 8 := by omega
  have hst : st ≤ 256 := by omega
  have hi0 : Hid (Inc starts) := (may_starts hm.out).1
  have hmm := @run_makeMap Tryd.prog
  have b0 : SB (w.alloc (.cells (scells S0) 58)) w.heap.size S0 := Blk.new w _ _
  have bel0 : Hid (Below w.heap.size w (w.alloc (.cells (scells S0) 58))) := (Below.refl _ _).alloc (Nat.le_refl _) _
  have sz0 : (w.alloc (.cells (scells S0) 58)).heap.size = w.heap.size + 1 := World.size_alloc _ _
  clear hz
  go_enter Tryd.func63, Tryd.ntmps63
  go_wp2
  revert b0 bel0 sz0
  generalize w.alloc (.cells (scells S0) 58) = V
  intro b0 bel0 sz0
  obtain ⟨c0, c1, c2, c3⟩ := b0.cells
  refine Code.wp_mono (Q := regQ fun a' W' => ∃ (br : Nat) (vs r17 r18 r19 r20 r21 : Value), a' = { tmps := #[sval S0, .int .i64 ev, leadV L, .pointer (some ⟨w.heap.size, 0, none⟩), undef, undef, .slice none 0 0, .slice none 0 0, .bool false, vs, .map (some br), undef, undef, undef, undef, undef, undef, r17, r18, r19, r20, r21, undef, undef, undef, undef, undef, undef, undef, undef, undef, undef, undef, undef, undef, undef, undef, undef, undef, undef, undef, undef, undef, undef, undef, undef, undef, undef, undef, undef, undef, undef, undef, undef, undef, undef, undef, undef, undef, undef, undef, undef, undef, undef, undef, undef, undef, undef, undef], defers := [] } ∧ FDI w.heap.size W' br vs (.slice none 0 0) [S0] [] ∧ Below w.heap.size w W') ?aft ?reg
  case reg =>
    have bd : SB V.drew w.heap.size S0 := b0
    have beld : Below w.heap.size w V.drew := bel0.out.drew
    have szd : V.drew.heap.size = w.heap.size + 1 := sz0
    clear c0 c1 c2 c3
    refine wp_region_held_drew (S := fun w' => w'.cell? ⟨w.heap.size, 0, none⟩ = some (.int .u64 (S0 0)) ∧ w'.cell? ⟨w.heap.size, 1, none⟩ = some (.int .u64 (S0 1)) ∧ w'.cell? ⟨w.heap.size, 2, none⟩ = some (.int .u64 (S0 2)) ∧ w'.cell? ⟨w.heap.size, 3, none⟩ = some (.int .u64 (S0 3))) (by kernel_rfl) b0.cells (fun hS0 => ?_)
    refine wpAnyH_take (i := 0) (v := sval S0) rfl (by kernel_rfl) (by kernel_rfl) (by kernel_rfl) (fun _ _ _ h => h) (Or.inl ⟨by kernel_rfl, fun w' hw' => by obtain ⟨q0, q1, q2, q3⟩ := hw'; go_simp⟩) hS0 ?_
    refine wpAnyH_take (i := 3) (v := sval S0) rfl (by kernel_rfl) (by kernel_rfl) (by kernel_rfl) (fun _ _ _ h => h) (Or.inl ⟨by kernel_rfl, fun w' hw' => by obtain ⟨q0, q1, q2, q3⟩ := hw'; go_simp⟩) hS0 ?_
    simp only [Act.put, List.setIfInBounds_toArray]
    refine wpAnyH_ready (rs := [1, 2]) (by kernel_rfl) (by simp) ?_
    refine AllReadyH.cons rfl (fun K' hK' => ?_) (AllReadyH.cons rfl (fun K' hK' => ?_) AllReadyH.nil)
    · go_simp
      refine hK'.out _ _ (SB.cells (Blk.drew (b0.alloc _))) (fun hS1 => ?_)
      clear hK' K'
      refine wpAnyH_take (i := 6) (v := .slice (some ⟨w.heap.size + 1, 0, none⟩) 1 1) rfl (by kernel_rfl) (by kernel_rfl) (by kernel_rfl) (fun _ _ _ h => h) (Or.inl ⟨by kernel_rfl, fun w' hw' => by obtain ⟨q0, q1, q2, q3⟩ := hw'; go_simp⟩) hS1 ?_
      refine wpAnyH_ready (rs := [2]) (by kernel_rfl) (by simp) ?_
      refine AllReadyH.cons rfl (fun K' hK' => ?_) AllReadyH.nil
      go_simp
      refine hK'.out _ _ (SB.cells (Blk.drew ((b0.alloc _).alloc _))) (fun hS2 => ?_)
      clear hK' K'
      refine wpAnyH_ready (rs := [4]) (by kernel_rfl) (by simp) ?_
      refine AllReadyH.cons rfl (fun K' hK' => ?_) AllReadyH.nil
      have hmp : ((V.alloc (.cells (scells S0) 58)).alloc (.map #[] 0)).heap[w.heap.size + 1 + 1]? = some (.map #[] 0) := by
        have := World.alloc_heap_new (V.alloc (.cells (scells S0) 58)) (.map #[] 0)
        rwa [World.size_alloc, sz0] at this
      have hu := updS_first hr0.out hi0.out (w := ((V.alloc (.cells (scells S0) 58)).alloc (.map #[] 0)).drew) (r := w.heap.size + 1 + 1) hmp
      go_simp
      refine hK'.out _ _ (SB.cells (Blk.map (Blk.drew ((b0.alloc _).alloc _)) (by omega) _)) (fun hS3 => ?_)
      clear hK' K'
      refine wpAnyH_take (i := 5) (v := .map (some (w.heap.size + 1 + 1))) rfl (by kernel_rfl) (by kernel_rfl) (by kernel_rfl) (fun _ _ _ h => h) (Or.inl ⟨by kernel_rfl, fun w' hw' => by obtain ⟨q0, q1, q2, q3⟩ := hw'; go_simp⟩) hS3 ?_
      refine wpAnyH_take (i := 7) (v := .map (some (w.heap.size + 1 + 1))) rfl (by kernel_rfl) (by kernel_rfl) (by kernel_rfl) (fun _ _ _ h => h) (Or.inl ⟨by kernel_rfl, fun w' hw' => by obtain ⟨q0, q1, q2, q3⟩ := hw'; go_simp⟩) hS3 ?_
      refine wpAnyH_done (by kernel_rfl) ?_ _
      have ho : OwnS ((V.alloc (.cells (scells S0) 58)).alloc (.map #[] 0)).drew w.heap.size (.slice (some ⟨w.heap.size + 1, 0, none⟩) 1 1) [S0] := by
        have := World.ownsRow.alloc (ownS_one V S0 w.heap.size (by omega)) (.map #[] 0)
        rw [sz0] at this
        exact this
      exact ⟨w.heap.size + 1 + 1, .slice (some ⟨w.heap.size + 1, 0, none⟩) 1 1, _, _, _, _, _, rfl, fi_first ho hmp (by omega), Below.map (((bel0.out.alloc (by omega) _).alloc (by simp; omega) _).drew) (by omega) _⟩
    · go_simp
      refine hK'.out _ _ (SB.cells (Blk.drew (b0.alloc _))) (fun hS1 => ?_)
      clear hK' K'
      refine wpAnyH_ready (rs := [1, 4]) (by kernel_rfl) (by simp) ?_
      refine AllReadyH.cons rfl (fun K' hK' => ?_) (AllReadyH.cons rfl (fun K' hK' => ?_) AllReadyH.nil)
      · go_simp
        refine hK'.out _ _ (SB.cells (Blk.drew ((b0.alloc _).alloc _))) (fun hS2 => ?_)
        clear hK' K'
        refine wpAnyH_take (i := 6) (v := .slice (some ⟨w.heap.size + 1 + 1, 0, none⟩) 1 1) rfl (by kernel_rfl) (by kernel_rfl) (by kernel_rfl) (fun _ _ _ h => h) (Or.inl ⟨by kernel_rfl, fun w' hw' => by obtain ⟨q0, q1, q2, q3⟩ := hw'; go_simp⟩) hS2 ?_
        refine wpAnyH_ready (rs := [4]) (by kernel_rfl) (by simp) ?_
        refine AllReadyH.cons rfl (fun K' hK' => ?_) AllReadyH.nil
        have hmp : ((V.alloc (.map #[] 0)).alloc (.cells (scells S0) 58)).heap[w.heap.size + 1]? = some (.map #[] 0) := by
          have := World.alloc_heap_new V (.map #[] 0)
          rw [sz0] at this
          exact (Below.heap_alloc (V.alloc (.map #[] 0)) (.cells (scells S0) 58) _ (by rw [World.size_alloc, sz0]; omega)).trans this
        have hu := updS_first hr0.out hi0.out (w := ((V.alloc (.map #[] 0)).alloc (.cells (scells S0) 58)).drew) (r := w.heap.size + 1) hmp
        go_simp
        refine hK'.out _ _ (SB.cells (Blk.map (Blk.drew ((b0.alloc _).alloc _)) (by omega) _)) (fun hS3 => ?_)
        clear hK' K'
        refine wpAnyH_take (i := 5) (v := .map (some (w.heap.size + 1))) rfl (by kernel_rfl) (by kernel_rfl) (by kernel_rfl) (fun _ _ _ h => h) (Or.inl ⟨by kernel_rfl, fun w' hw' => by obtain ⟨q0, q1, q2, q3⟩ := hw'; go_simp⟩) hS3 ?_
        refine wpAnyH_take (i := 7) (v := .map (some (w.heap.size + 1))) rfl (by kernel_rfl) (by kernel_rfl) (by kernel_rfl) (fun _ _ _ h => h) (Or.inl ⟨by kernel_rfl, fun w' hw' => by obtain ⟨q0, q1, q2, q3⟩ := hw'; go_simp⟩) hS3 ?_
        refine wpAnyH_done (by kernel_rfl) ?_ _
        have ho : OwnS ((V.alloc (.map #[] 0)).alloc (.cells (scells S0) 58)).drew w.heap.size (.slice (some ⟨w.heap.size + 1 + 1, 0, none⟩) 1 1) [S0] := by
          have := ownS_one (V.alloc (.map #[] 0)) S0 w.heap.size (by rw [World.size_alloc, sz0]; omega)
          rw [World.size_alloc, sz0] at this
          exact this
        exact ⟨w.heap.size + 1, .slice (some ⟨w.heap.size + 1 + 1, 0, none⟩) 1 1, _, _, _, _, _, rfl, fi_first ho hmp (by omega), Below.map (((bel0.out.alloc (by omega) _).alloc (by simp; omega) _).drew) (by omega) _⟩
      · have hmp : (V.alloc (.map #[] 0)).heap[w.heap.size + 1]? = some (.map #[] 0) := by
          have := World.alloc_heap_new V (.map #[] 0)
          rwa [sz0] at this
        have hu := updS_first hr0.out hi0.out (w := (V.alloc (.map #[] 0)).drew) (r := w.heap.size + 1) hmp
        go_simp
        refine hK'.out _ _ (SB.cells (Blk.map (Blk.drew (b0.alloc _)) (by omega) _)) (fun hS2 => ?_)
        clear hK' K'
        refine wpAnyH_take (i := 5) (v := .map (some (w.heap.size + 1))) rfl (by kernel_rfl) (by kernel_rfl) (by kernel_rfl) (fun _ _ _ h => h) (Or.inl ⟨by kernel_rfl, fun w' hw' => by obtain ⟨q0, q1, q2, q3⟩ := hw'; go_simp⟩) hS2 ?_
        refine wpAnyH_ready (rs := [1]) (by kernel_rfl) (by simp) ?_
        refine AllReadyH.cons rfl (fun K' hK' => ?_) AllReadyH.nil
        have hsz : (setMap (V.alloc (.map #[] 0)).drew (w.heap.size + 1) (.map (entsS [S0]) 1)).heap.size = w.heap.size + 1 + 1 := by rw [size_setMap]; show (V.alloc (.map #[] 0)).heap.size = _; rw [World.size_alloc, sz0]
        go_simp
        refine hK'.out _ _ (SB.cells (Blk.alloc (Blk.map (Blk.drew (b0.alloc _)) (by omega) _) _)) (fun hS3 => ?_)
        clear hK' K'
        refine wpAnyH_take (i := 6) (v := .slice (some ⟨w.heap.size + 1 + 1, 0, none⟩) 1 1) rfl (by kernel_rfl) (by kernel_rfl) (by kernel_rfl) (fun _ _ _ h => h) (Or.inl ⟨by kernel_rfl, fun w' hw' => by obtain ⟨q0, q1, q2, q3⟩ := hw'; go_simp⟩) hS3 ?_
        refine wpAnyH_take (i := 7) (v := .map (some (w.heap.size + 1))) rfl (by kernel_rfl) (by kernel_rfl) (by kernel_rfl) (fun _ _ _ h => h) (Or.inl ⟨by kernel_rfl, fun w' hw' => by obtain ⟨q0, q1, q2, q3⟩ := hw'; go_simp⟩) hS3 ?_
        refine wpAnyH_done (by kernel_rfl) ?_ _
        have hf := fi_first2 (B := w.heap.size) (S := S0) (W := setMap (V.alloc (.map #[] 0)).drew (w.heap.size + 1) (.map (entsS [S0]) 1)) (br := w.heap.size + 1) (heap_setMap _ _ (by show _ < (V.alloc (.map #[] 0)).heap.size; rw [World.size_alloc, sz0]; omega)) (by omega) (by omega)
        rw [hsz] at hf
        exact ⟨w.heap.size + 1, .slice (some ⟨w.heap.size + 1 + 1, 0, none⟩) 1 1, _, _, _, _, _, rfl, hf, (Below.map ((bel0.out.alloc (by omega) _).drew) (by omega) _).alloc (by omega) _⟩
  case aft =>
    refine regQ_imp ?_
    rintro a' W' ⟨br, vs, r17, r18, r19, r20, r21, rfl, q1, q2⟩
    have Q1 := Hid.of q1
    have Q2 := Hid.of q2
    clear q1 q2 b0 bel0 sz0 c0 c1 c2 c3 hmm
    have HRL0 := Hid.of (RepL.one hr0.out hi0.out)
    have HDI0 : Hid (DI ⟨(st : Int), (ev : Int), starts, ars, ends⟩ ev (0 * ev) ⟨[starts], []⟩) := di_start hm.out ev
    have HDE0 : Hid (detS ⟨(st : Int), (ev : Int), starts, ars, ends⟩ = dGo ars ev 257 0 ⟨[starts], []⟩) := by
      show detS ⟨(st : Int), (ev : Int), starts, ars, ends⟩ = _
      unfold detS; simp only [Int.toNat_natCast]
    obtain ⟨i0, hi, hz0, hz1, hz2⟩ := info_parts Tryd.infoSet
    obtain ⟨j0, ji, jz0, jz1, jz2⟩ := info_parts Tryd.infoArrow
    go_wp2_with fail
    go_loopw [9, 11, 12] (fun v9 v11 i wr => ∃ (k : Nat) (s : DS) (SL : List (Nat → Nat)), i = .int .i64 k ∧ k ≤ s.sets.length ∧ s.sets.length ≤ 256 ∧ Hid (FDI w.heap.size wr br v9 v11 SL s.ar) ∧ Hid (Below w.heap.size w wr) ∧ Hid (RepL SL s.sets) ∧ Hid (DI ⟨(st : Int), (ev : Int), starts, ars, ends⟩ ev (k * ev) s) ∧ Hid (detS ⟨(st : Int), (ev : Int), starts, ars, ends⟩ = dGo ars ev (257 - k) k s)) (fun _ _ i _ => 257 - (intOf i).toNat)
    case atStart => exact ⟨0, ⟨[starts], []⟩, [S0], rfl, Nat.zero_le _, by simp, Q1, Q2, HRL0, HDI0, HDE0⟩
    case round =>
      clear Q1 Q2 HRL0 HDI0 HDE0
      obtain ⟨k, s, SL, rfl, hk, h256, HF, HB, HR, HD, HE⟩ := hrel
      obtain ⟨va9, vc9, hv9, -, -, -⟩ := own_form2 HF.out.ss
      subst hv9
      have hSL : SL.length = s.sets.length := HR.out.len
      have HSL := Hid.of hSL
      clear hSL
      by_cases hlt : k < s.sets.length
      · have hltI : (k : Int) < (SL.length : Int) := by rw [HSL.out]; omega
        have hltD : decide ((k : Int) < (SL.length : Int)) = true := by simpa using hltI
        go_wp2_with fail
        go_loopw [9, 11, 29] (fun v9 v11 i wr' => ∃ (e : Nat) (SL1 : List (Nat → Nat)), i = .int .i64 e ∧ e ≤ ev ∧ (dRow ars k s e).sets.length ≤ 256 ∧ Hid (FDI w.heap.size wr' br v9 v11 SL1 (dRow ars k s e).ar) ∧ Hid (Below w.heap.size w wr') ∧ Hid (RepL SL1 (dRow ars k s e).sets)) (fun _ _ i _ => ev - (intOf i).toNat)
        case atStart => exact ⟨0, SL, rfl, Nat.zero_le _, h256, HF, HB, HR⟩
        case round =>
          clear HF HB HR HSL hltI hltD
          obtain ⟨e, SL1, rfl, hee, h256', HF, HB, HR⟩ := hrel
          have HDe := Hid.of (di_row hm.out HD.out hlt e hee)
          have HSuc : Hid (dRow ars k s (e + 1) = dStep ars k (dRow ars k s e) e) := dRow_succ _ _ _ _
          have hk1 : k < (dRow ars k s e).sets.length := by
            obtain ⟨t, ht, -⟩ := dRow_pre ars k s e
            rw [ht, List.length_append]; omega
          have HMono : Hid (∀ j, (dRow ars k s (e + 1)).sets.length ≤ (dRow ars k s (e + 1 + j)).sets.length) := fun j => dRow_mono ars k s (e + 1) j
          obtain ⟨va8, vc8, hv8, -, -, -⟩ := own_form2 HF.out.ss
          subst hv8
          obtain ⟨s1, HS1⟩ : ∃ s1, Hid (s1 = dRow ars k s e) := ⟨_, rfl⟩
          rw [← HS1.out] at h256' HF HR HDe HSuc hk1
          have HSL1 := Hid.of HR.out.len
          by_cases hle : e < ev
          · obtain ⟨l, hl⟩ : ∃ l, Hid (s1.sets[k]? = some l) := ⟨_, List.getElem?_eq_getElem hk1⟩
            obtain ⟨S, hS, hrS, hiS⟩ := HR.out.at hl.out
            obtain ⟨g, cap, hv, hg1, hg2, c0, c1, c2, c3⟩ := HF.out.ss.cell hS
            cases hv
            have HRS := Hid.of hrS
            have hkI : (k : Int) < (SL1.length : Int) := by rw [HSL1.out]; omega
            have hall : ∀ n ∈ allS S, n < st := fun n hn => by
              obtain ⟨n1, n2⟩ := (mem_allS S n).1 hn
              have := (HDe.out.inc l (List.mem_of_getElem? hl.out)).2 _ ((hrS.mem n n1).1 n2)
              dsimp only at this; omega
            have hTr : Tab wr := hT.out.below HB.out hT.out.lt
            have hLr : LD wr L ev (st * ev) (tabS ev ars) := hL.out.below HB.out hL.out.lt
            have hcall := Hid.of (lead1_any st ev e L (tabS ev ars) (okS_tab _ _) S hrS.ok hall hle he8 hst wr hTr hLr)
            have hRep : Hid (Rep (leadF (tabS ev ars) ev e (allS S)) (stepL ars l (e : Int))) := by
              have := rep_lead (st := (st : Int)) (ev := (ev : Int)) (e := (e : Int)) hrS (may_arrs hm.out) (by omega) (by omega) (by omega)
              have h2 : Rep (leadS ev ars S e) (stepL ars l (e : Int)) := by simpa only [Int.toNat_natCast] using this
              exact h2
            have hInc : Hid (Inc (stepL ars l (e : Int))) := inc_srt _
            obtain ⟨S1, HSS⟩ : ∃ S1, Hid (S1 = leadF (tabS ev ars) ev e (allS S)) := ⟨_, rfl⟩
            obtain ⟨to, HTO⟩ : ∃ to, Hid (to = stepL ars l (e : Int)) := ⟨_, rfl⟩
            rw [← HSS.out] at hcall hRep
            rw [← HTO.out] at hRep hInc
            clear hrS hiS hS hall hTr hLr
            have HST : Hid (dStep ars k s1 e = ⟨if findL s1.sets to = s1.sets.length then s1.sets ++ [to] else s1.sets, s1.ar ++ [⟨(k : Int), (e : Int), (findL s1.sets to : Nat)⟩]⟩) := by
              show _ = _
              unfold dStep; rw [hl.out, Option.getD_some, ← HTO.out]
            go_wp2_with fail
            refine hcall.out.mono ?_
            rintro r w1 ⟨rfl, hb1⟩
            have F1 : Hid (FDI w.heap.size (w1.alloc (.cells (scells S1) 58)) br (.slice (some ⟨g, 0, none⟩) SL1.length vc8) u11 SL1 s1.ar) := (HF.out.below hb1).below ((Below.refl _ _).alloc (Nat.le_refl _) _)
            have B1 : Hid (Below w.heap.size w (w1.alloc (.cells (scells S1) 58))) := (HB.out.trans (hb1.mono HB.out.size)).alloc (Nat.le_trans HB.out.size hb1.size) _
            have N1 : Hid (SB (w1.alloc (.cells (scells S1) 58)) w1.heap.size S1) := Blk.new w1 58 (scells S1)
            have hbr : br < w1.heap.size := Nat.lt_of_lt_of_le (Array.getElem?_eq_some_iff.1 HF.out.mp).1 hb1.size
            have hws : w.heap.size ≤ w1.heap.size := Nat.le_trans HB.out.size hb1.size
            obtain ⟨n0, n1, n2, n3⟩ := SB.cells N1.out
            clear hcall hb1 c0 c1 c2 c3 HF HB hg2
            have harl : s1.ar.length ≤ 2056 := by
              rw [HDe.out.len]
              have : k * ev ≤ 256 * 8 := Nat.mul_le_mul (by omega) he8
              omega
            by_cases hnew : findL s1.sets to = s1.sets.length
            · have lk := lookS_new HR.out HDe.out.nd hRep.out hInc.out (w := (w1.alloc (.cells (scells S1) 58))) (r := br) F1.out.mp hnew
              have hu := updS_new HR.out HDe.out.nd hRep.out hInc.out (w := (w1.alloc (.cells (scells S1) 58))) (r := br) F1.out.mp hnew
              have hzs : (setMap (w1.alloc (.cells (scells S1) 58)) br (.map (entsS (SL1 ++ [S1])) (SL1.length + 1))).heap.size = w1.heap.size + 1 := by rw [size_setMap, World.size_alloc]
              have NZ : Hid (SB (setMap (w1.alloc (.cells (scells S1) 58)) br (.map (entsS (SL1 ++ [S1])) (SL1.length + 1))) w1.heap.size S1) := Blk.map N1.out (by omega) _
              obtain ⟨k0, k1, k2, k3⟩ := SB.cells NZ.out
              have OZ : Hid (OwnS (setMap (w1.alloc (.cells (scells S1) 58)) br (.map (entsS (SL1 ++ [S1])) (SL1.length + 1))) w.heap.size (.slice (some ⟨g, 0, none⟩) SL1.length vc8) SL1) := own_same F1.out.ss (fun j hj => heap_setMap_ne _ _ _ (fun e => F1.out.apart.1 (by rw [hj, e])))
              have CF : Hid (∀ j v, ([.int .u64 (S1 0), .int .u64 (S1 1), .int .u64 (S1 2), .int .u64 (S1 3)] : List Value)[j]? = some v → ((setMap (w1.alloc (.cells (scells S1) 58)) br (.map (entsS (SL1 ++ [S1])) (SL1.length + 1))).alloc (.cells #[.int .u64 (S1 0), .int .u64 (S1 1), .int .u64 (S1 2), .int .u64 (S1 3)] 58)).cell? ((⟨w1.heap.size + 1, 0, none⟩ : Addr).add j) = some v) := by
                have := cells_four (setMap (w1.alloc (.cells (scells S1) 58)) br (.map (entsS (SL1 ++ [S1])) (SL1.length + 1))) (setMap (w1.alloc (.cells (scells S1) 58)) br (.map (entsS (SL1 ++ [S1])) (SL1.length + 1))) rfl 58 (.int .u64 (S1 0)) (.int .u64 (S1 1)) (.int .u64 (S1 2)) (.int .u64 (S1 3))
                rw [hzs] at this
                exact this
              have hlS : SL1.length ≤ 256 := by rw [HSL1.out]; exact h256'
              have HNX : Hid (dRow ars k s (e + 1) = ⟨s1.sets ++ [to], s1.ar ++ [⟨(k : Int), (e : Int), (SL1.length : Int)⟩]⟩) := by
                show _ = _
                rw [HSuc.out, HST.out, if_pos hnew, hnew, ← HSL1.out]
              have HNW := Hid.of hnew
              clear hnew
              go_wp2_with (at_builtin; refine wpList_append_block _ rfl (.tmp 52) (.tmp 54) 73 rfl w.heap.size 58 i0 (sval zeroS) 4 32 Tryd.underlying73 hi hz0 hz1 hz2 rfl (by decide) _ _ _ rfl (World.ownsRow.alloc OZ.out _) ⟨w1.heap.size + 1, 0, none⟩ 1 1 [.int .u64 (S1 0), .int .u64 (S1 1), .int .u64 (S1 2), .int .u64 (S1 3)] rfl rfl CF.out (by intro u hu; simp at hu; rcases hu with rfl | rfl | rfl | rfl <;> rfl) (by decide) (by unfold maxLen; omega) (by omega) (by rw [World.size_alloc, hzs]; omega) ?_)
              intro v7 w7 o7 g7 n7
              obtain ⟨p1, p2⟩ := FDI.push F1.out B1.out ((Below.refl _ _).alloc (Nat.le_refl _) _) (own_set o7) g7 (by rw [World.size_alloc]; omega)
              obtain ⟨qa, qc, hv7, -, -, -⟩ := own_form2 o7
              subst hv7
              have P1 := Hid.of p1
              have P2 := Hid.of p2
              clear p1 p2 o7 g7 n7 n0 n1 n2 n3 k0 k1 k2 k3 NZ OZ CF lk hu N1 F1 B1 hzs
              have HR7 := Hid.of (HR.out.snoc hRep.out hInc.out)
              by_cases hfit : SL1.length + 1 ≤ 256
              · have hfD : decide ((256 : Int) < ((SL1.length + 1 : Nat) : Int)) = false := by simp; omega
                have hwz := P2.out.size
                obtain ⟨ra1, rc1, hra, -, -, -⟩ := own_form2 P1.out.ar
                subst hra
                go_wp2_with (at_builtin; refine wpList_append_arrs _ rfl (.tmp 59) (.tmp 64) 23 rfl w.heap.size j0 Tryd.underlying23 ji jz0 jz1 jz2 _ s1.ar rfl (World.ownsRow.alloc P1.out.ar _) (some ⟨w7.heap.size, 0, none⟩) 1 [⟨(k : Int), (e : Int), (SL1.length : Int)⟩] rfl (atA_new _ _ ⟨(k : Int), (e : Int), (SL1.length : Int)⟩ _ rfl) (fun h => by cases h) (by simp; omega) (by simp; omega) ?_)
                intro v8 w8 o8 g8 n8
                obtain ⟨R1, R2⟩ := FDI.arrow P1.out P2.out ((Below.refl _ _).alloc (Nat.le_refl _) _) o8 g8 (Nat.le_trans P2.out.size (Nat.le_refl _))
                have R1' := Hid.of R1
                have R2' := Hid.of R2
                clear R1 R2 o8 g8 n8
                go_wp2_with fail
                go_roundw
                case rel => exact ⟨e + 1, SL1 ++ [S1], by go_num, by omega, (by rw [HNX.out]; have h2 := HSL1.out; simp; omega), (by show FDI _ _ _ _ _ _ _; rw [HNX.out]; exact R1'.out), R2', (by show RepL _ _; rw [HNX.out]; exact HR7.out)⟩
                case measure => simp [intOf]; omega

              · have hfD : decide ((256 : Int) < ((SL1.length + 1 : Nat) : Int)) = true := by simp; omega
                have HNO : Hid (detS ⟨(st : Int), (ev : Int), starts, ars, ends⟩ = none) := by
                  show _ = _
                  rw [HE.out]
                  refine dGo_none hlt ?_ (by omega)
                  have h1 := HMono.out (ev - (e + 1))
                  rw [show e + 1 + (ev - (e + 1)) = ev by omega, HNX.out] at h1
                  have h2 := HSL1.out
                  simp only [List.length_append, List.length_cons, List.length_nil] at h1
                  omega
                go_wp2
                refine bodyPost_ret (v := .tuple #[.slice none 0 0, .slice none 0 0, .bool false]) (by simp [results, go_sem]) rfl ?_
                unfold FindPost
                rw [HNO.out]
                exact ⟨rfl, P2.out⟩
            · have lk := lookS_known HR.out HDe.out.nd hRep.out hInc.out (w := (w1.alloc (.cells (scells S1) 58))) (r := br) F1.out.mp hnew
              have hfl := findL_le s1.sets to
              have HNX : Hid (dRow ars k s (e + 1) = ⟨s1.sets, s1.ar ++ [⟨(k : Int), (e : Int), (findL s1.sets to : Nat)⟩]⟩) := by
                show _ = _
                rw [HSuc.out, HST.out, if_neg hnew]
              have hlS : SL1.length ≤ 256 := by rw [HSL1.out]; exact h256'
              obtain ⟨n, HN⟩ : ∃ n, Hid (n = findL s1.sets to) := ⟨_, rfl⟩
              rw [← HN.out] at lk HNX hfl
              clear hnew
              have hfD : decide ((256 : Int) < (SL1.length : Int)) = false := by simp; omega
              have hwz := B1.out.size
              obtain ⟨ra1, rc1, hra, -, -, -⟩ := own_form2 F1.out.ar
              subst hra
              go_wp2_with (at_builtin; refine wpList_append_arrs _ rfl (.tmp 59) (.tmp 64) 23 rfl w.heap.size j0 Tryd.underlying23 ji jz0 jz1 jz2 _ s1.ar rfl (World.ownsRow.alloc F1.out.ar _) (some ⟨w1.heap.size + 1, 0, none⟩) 1 [⟨(k : Int), (e : Int), (n : Int)⟩] rfl (atA_new _ _ ⟨(k : Int), (e : Int), (n : Int)⟩ _ (by rw [World.size_alloc])) (fun h => by cases h) (by simp; omega) (by simp; omega) ?_)
              intro v8 w8 o8 g8 n8
              obtain ⟨R1, R2⟩ := FDI.arrow F1.out B1.out ((Below.refl _ _).alloc (Nat.le_refl _) _) o8 g8 (Nat.le_trans B1.out.size (Nat.le_refl _))
              have R1' := Hid.of R1
              have R2' := Hid.of R2
              clear R1 R2 o8 g8 n8
              go_wp2_with fail
              go_roundw
              case rel => exact ⟨e + 1, SL1, by go_num, by omega, (by rw [HNX.out]; exact h256'), (by show FDI _ _ _ _ _ _ _; rw [HNX.out]; exact R1'.out), R2', (by show RepL _ _; rw [HNX.out]; exact HR.out)⟩
              case measure => simp [intOf]; omega
          · have hev2 : e = ev := by omega
            have HFIN : Hid (s1 = dRow ars k s ev) := by show _ = _; rw [HS1.out, hev2]
            have HDN : Hid (DI ⟨(st : Int), (ev : Int), starts, ars, ends⟩ ev ((k + 1) * ev) s1) := by
              have := HDe.out
              show DI _ _ _ _
              rw [Nat.succ_mul, ← hev2] at *
              exact this
            have HEN : Hid (detS ⟨(st : Int), (ev : Int), starts, ars, ends⟩ = dGo ars ev (257 - (k + 1)) (k + 1) s1) := by
              show _ = _
              rw [HE.out, dGo_next hlt (by rw [← HFIN.out]; omega) (by omega), ← HFIN.out, show 257 - k - 1 = 257 - (k + 1) by omega]
            clear hev2 HDe
            go_wp2_with fail
            go_roundw
            case rel => exact ⟨k + 1, s1, SL1, by go_num, by omega, h256', HF, HB, HR, HDN, HEN⟩
            case measure => simp [intOf]; omega
      · have hltD : decide ((k : Int) < (SL.length : Int)) = false := by simp; rw [HSL.out]; omega
        have hltI : ¬ (k : Int) < (SL.length : Int) := by rw [HSL.out]; omega
        have HFIN : Hid (detS ⟨(st : Int), (ev : Int), starts, ars, ends⟩ = some s) := by show _ = _; rw [HE.out, dGo_end hlt]
        go_wp2
        refine bodyPost_ret (v := .tuple #[.slice va9 SL.length vc9, u11, .bool true]) (by simp [results, go_sem]) rfl ?_
        unfold FindPost
        rw [HFIN.out]
        exact ⟨_, _, SL, rfl, HR.out, HF.out.ss, HF.out.ar, HB.out⟩

end Go.Proofs.YtkkkacmccndinaaDoor
namespace Go.Proofs.YtkkkacmccndinaaDoor
open Go.RowKit
set_option linter.unusedVariables false

theorem of_prodL {α β : Type} {x : α} {y : β} {m : List β} : ∀ {l : List α}, (x, y) ∈ prodL l m → x ∈ l ∧ y ∈ m
  | [], h => by simp [prodL] at h
  | z :: r, h => by
    rw [prodL, List.mem_append] at h
    rcases h with h | h
    · obtain ⟨u, hu, e⟩ := List.mem_map.1 h
      cases e
      exact ⟨by simp, hu⟩
    · have := of_prodL h
      exact ⟨by simp [this.1], this.2⟩
def sqr (n : Nat) : List (Nat × Nat) := prodL (List.range n) (List.range n)
theorem mem_sqr {n x y : Nat} : (x, y) ∈ sqr n ↔ x < n ∧ y < n := by
  constructor
  · intro h; have := of_prodL h; simpa using this
  · rintro ⟨h1, h2⟩; exact mem_prodL (by simpa using h2) (by simpa using h1)
/-- How many are not told apart. -/
def cntF (n : Nat) (T : Nat → Nat → Bool) : Nat := ((sqr n).filter fun p => !T p.1 p.2).length
theorem cntF_congr {n : Nat} {T T' : Nat → Nat → Bool} (h : ∀ x y, x < n → y < n → T x y = T' x y) : cntF n T = cntF n T' := by
  unfold cntF
  congr 1
  refine List.filter_congr (fun p hp => ?_)
  obtain ⟨x, y⟩ := p
  have := mem_sqr.1 hp
  dsimp only
  rw [h x y this.1 this.2]
theorem cntF_set {n s t : Nat} {T : Nat → Nat → Bool} (hs : s < n) (ht : t < n) (h : T s t = false) : cntF n (fun x y => if x = s ∧ y = t then true else T x y) < cntF n T := by
  unfold cntF
  have e : (sqr n).filter (fun p => !(if p.1 = s ∧ p.2 = t then true else T p.1 p.2)) = ((sqr n).filter fun p => !T p.1 p.2).filter (fun p => !(decide (p.1 = s ∧ p.2 = t))) := by
    rw [List.filter_filter]
    refine List.filter_congr (fun p hp => ?_)
    by_cases e : p.1 = s ∧ p.2 = t
    · rw [if_pos e]; simp [e]
    · rw [if_neg e]; simp [e]
  rw [e, List.length_filter_lt_length_iff_exists]
  exact ⟨(s, t), List.mem_filter.2 ⟨mem_sqr.2 ⟨hs, ht⟩, by simp [h]⟩, by simp⟩
/-- .. as the memory has it. -/
def cntW (W : World) (q : Nat → Nat) (n : Nat) : Nat := ((sqr n).filter fun p => match W.cell? ⟨q p.1, p.2, none⟩ with
  | some (.bool b) => !b
  | _ => true).length
theorem AT.cnt {w W : World} {d : Mach} {l : ML} {n : Nat} {q : Nat → Nat} {T : Nat → Nat → Bool} {v : Nat → Value} {Ld : Nat → List Int} (h : AT w W d l n n q T v Ld) : cntW W q n = cntF n T := by
  unfold cntW cntF
  congr 1
  refine List.filter_congr (fun p hp => ?_)
  obtain ⟨x, y⟩ := p
  have := mem_sqr.1 hp
  dsimp only
  rw [(h.rw x this.1).cell this.2]
/-- Where a state leads to, as a number. -/
def toN (ars : List Arr) (s e : Nat) : Nat := (toI ars (s : Int) (e : Int)).toNat
/-- What a sweep that began with T0 knows: b: something was found; P: what has been gone through. -/
structure SW (d : Mach) (n v : Nat) (T0 T : Nat → Nat → Bool) (b : Bool) (P : Nat → Nat → Nat → Prop) : Prop where
  bs : ∀ x y, x < n → y < n → hasB d.ends (x : Int) ≠ hasB d.ends (y : Int) → T x y = true
  sd : ∀ x y, x < n → y < n → T x y = true → langS d [(x : Int)] ≠ langS d [(y : Int)]
  yes : b = true → cntF n T < cntF n T0
  no : b = false → (∀ x y, x < n → y < n → T x y = T0 x y) ∧ ∀ x y e, x < n → y < n → e < v → P x y e → T (toN d.arrows x e) (toN d.arrows y e) = true → T x y = true
theorem SW.more {d : Mach} {n v : Nat} {T0 T : Nat → Nat → Bool} {b : Bool} {P P' : Nat → Nat → Nat → Prop} (h : SW d n v T0 T b P) (hp : ∀ x y e, x < n → y < n → e < v → P' x y e → P x y e ∨ T x y = true) : SW d n v T0 T b P' :=
  ⟨h.bs, h.sd, h.yes, fun hb => ⟨(h.no hb).1, fun x y e hx hy he hP ht => by
    rcases hp x y e hx hy he hP with h1 | h1
    · exact (h.no hb).2 x y e hx hy he h1 ht
    · exact h1⟩⟩
theorem SW.miss {d : Mach} {n v : Nat} {T0 T : Nat → Nat → Bool} {b : Bool} {P P' : Nat → Nat → Nat → Prop} {s t e : Nat} (h : SW d n v T0 T b P) (hm : T (toN d.arrows s e) (toN d.arrows t e) = false) (hp : ∀ x y e', P' x y e' → P x y e' ∨ (x = s ∧ y = t ∧ e' = e)) : SW d n v T0 T b P' :=
  ⟨h.bs, h.sd, h.yes, fun hb => ⟨(h.no hb).1, fun x y e' hx hy he hP ht => by
    rcases hp x y e' hP with h1 | ⟨rfl, rfl, rfl⟩
    · exact (h.no hb).2 x y e' hx hy he h1 ht
    · rw [hm] at ht; cases ht⟩⟩
theorem SW.hit {d : Mach} (hd : detB d = true) {n v : Nat} (en : d.st = (n : Int)) (ev : d.ev = (v : Int)) {T0 T : Nat → Nat → Bool} {b : Bool} {P P' : Nat → Nat → Nat → Prop} {s t e : Nat} (h : SW d n v T0 T b P) (hs : s < n) (ht : t < n) (he : e < v) (hf : T s t = false) (hm : T (toN d.arrows s e) (toN d.arrows t e) = true) : SW d n v T0 (fun x y => if x = s ∧ y = t then true else T x y) true P' := by
  have a1 := (toI_step hd (s := (s : Int)) (e := (e : Int)) (by omega) (by omega) (by omega) (by omega)).2
  have a2 := (toI_step hd (s := (t : Int)) (e := (e : Int)) (by omega) (by omega) (by omega) (by omega)).2
  refine ⟨fun x y hx hy hxy => ?_, fun x y hx hy hxy => ?_, fun _ => ?_, fun hb => by cases hb⟩
  · by_cases c : x = s ∧ y = t
    · rw [if_pos c]
    · rw [if_neg c]; exact h.bs x y hx hy hxy
  · by_cases c : x = s ∧ y = t
    · obtain ⟨rfl, rfl⟩ := c
      refine apart_on hd (e := e) (by omega) (by omega) (by omega) (by omega) (by omega) ?_
      have := h.sd _ _ (show toN d.arrows x e < n by unfold toN; omega) (show toN d.arrows y e < n by unfold toN; omega) hm
      unfold toN at this
      rwa [Int.toNat_of_nonneg a1.1, Int.toNat_of_nonneg a2.1] at this
    · rw [if_neg c] at hxy; exact h.sd x y hx hy hxy
  · have c1 := cntF_set hs ht hf
    cases b with
    | true => have := h.yes rfl; omega
    | false => rw [← cntF_congr (h.no rfl).1]; exact c1

end Go.Proofs.YtkkkacmccndinaaDoor
