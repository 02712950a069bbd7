/-
  The walk of determine.find.
  A machine's block that is written whole; results with a machine.
  What the laws of machines share: 'great' walked.
  What the laws of machines share: 'great' and 'machines' walked.
  What is said on the way through reach.part: what lies where.
  What determine.Make leaves, and the reference's; what its walk knows of the memory.
  Plain: states, and where unseen events lead to from them, as the reference finds them. No program, no model.
-/
import Derived.Deep.RegionHeld3
import Derived.Test.YtbdkaobbfmgnhaaDoorG16
import Derived.Test.YtbdkaobbfmgnhaaDoorG15
import Derived.Test.YtbdkaobbfmgnhaaDoorG18
import Derived.Test.YtbdkaobbfmgnhaaDoorCLead
import Derived.Test.YtbdkaobbfmgnhaaDoorG03
import Derived.Test.YtbdkaobbfmgnhaaDoorCRefMay
import Derived.Test.YtbdkaobbfmgnhaaDoorG10
import Derived.RangeFuncBox
import Derived.Test.YtbdkaobbfmgnhaaDoorG04
import Derived.Test.YtbdkaobbfmgnhaaDoorG14
namespace Go.Proofs.YtbdkaobbfmgnhaaDoor
open Go.RowKit
set_option linter.unusedVariables false

/-- What find leaves. -/
def FindPost (w : World) (m : Mach) (e : Ending) (w' : World) : Prop :=
  match detS m with
  | none => e = .returned (.tuple #[.slice none 0 0, .slice none 0 0, .bool false]) ∧ Below w.heap.size w w'
  | some s => ∃ vs va SL, e = .returned (.tuple #[vs, va, .bool true]) ∧ RepL SL s.sets ∧ OwnS w' w.heap.size vs SL ∧ OwnA w' w.heap.size va s.ar ∧ Below w.heap.size w w'

theorem repNil : RepL [] [] := ⟨rfl, fun k S h => by simp at h⟩
theorem updS_first {S : Nat → Nat} {l : List Int} (hr : Rep S l) (hi : Inc l) {w : World} {r : Nat} (hm : w.heap[r]? = some (.map #[] 0)) :
    (Instr.mapUpdate 142 (.map (some r)) (sval S) (.int .i64 0)).run Tryd.prog w = .ok () (setMap w r (.map (entsS [S]) 1)) := by
  have := updS_new (SL := []) repNil (by simp) hr hi (w := w) (r := r) hm rfl
  simpa using this

theorem Below.map {B : Nat} {w W : World} (h : Below B w W) {br : Nat} (hb : B ≤ br) (o : Obj) : Below B w (setMap W br o) :=
  h.trans ⟨rfl, rfl, rfl, by rw [size_setMap]; exact Nat.le_refl _, fun j hj => heap_setMap_ne _ _ _ (by omega)⟩
theorem Blk.map {W : World} {b br : Nat} {t : TypeId} {cs : Array Value} (h : Blk W b t cs) (hn : b ≠ br) (o : Obj) : Blk (setMap W br o) b t cs := (heap_setMap_ne W br o hn).trans h
theorem fi_first {B : Nat} {W : World} {br : Nat} {v : Value} {S : Nat → Nat} (ho : OwnS W B v [S]) (hm : W.heap[br]? = some (.map #[] 0)) (hb : B ≤ br) : FDI B (setMap W br (.map (entsS [S]) 1)) br v (.slice none 0 0) [S] [] := by
  have hbr := (Array.getElem?_eq_some_iff.1 hm).1
  refine ⟨own_same ho (fun k hk => heap_setMap_ne _ _ _ (fun e => ?_)), ownA_nil _ _, heap_setMap _ _ hbr, hb⟩
  obtain ⟨cs, hc⟩ := own_type ho hk
  rw [e, hm] at hc; cases hc
theorem fi_first2 {B : Nat} {W : World} {br : Nat} {S : Nat → Nat} (hm : W.heap[br]? = some (.map (entsS [S]) 1)) (hb : B ≤ br) (hB : B ≤ W.heap.size) : FDI B (W.alloc (.cells (scells S) 62)) br (.slice (some ⟨W.heap.size, 0, none⟩) 1 1) (.slice none 0 0) [S] [] :=
  ⟨ownS_one W S B hB, ownA_nil _ _, (Below.heap_alloc W _ br (Array.getElem?_eq_some_iff.1 hm).1).trans hm, hb⟩
set_option maxRecDepth 100000 in
set_option maxHeartbeats 8000000 in
theorem find_any0 (st ev : Nat) (starts : List Int) (ars : List Arr) (ends : List Int) (hm : Hid (mayB ⟨(st : Int), (ev : Int), starts, ars, ends⟩ = true)) (S0 : Nat → Nat) (hr0 : Hid (Rep S0 starts)) (L : LB) (w : World) (hT : Hid (Tab w)) (hL : Hid (LD w L ev (st * ev) (tabS ev ars))) :
    Calls Tryd.prog 75 #[sval S0, .int .i64 ev, leadV L] w fun e w' => FindPost w ⟨(st : Int), (ev : Int), starts, ars, ends⟩ e w' := by
  have hz := mayB_size hm.out
  unfold sizeOk at hz
  dsimp only at hz
  have he8 : ev ≤ 8 := by omega
  have hst : st ≤ 256 := by omega
  have hi0 : Hid (Inc starts) := (may_starts hm.out).1
  have hmm := @run_makeMap Tryd.prog
  have b0 : SB (w.alloc (.cells (scells S0) 62)) w.heap.size S0 := Blk.new w _ _
  have bel0 : Hid (Below w.heap.size w (w.alloc (.cells (scells S0) 62))) := (Below.refl _ _).alloc (Nat.le_refl _) _
  have sz0 : (w.alloc (.cells (scells S0) 62)).heap.size = w.heap.size + 1 := World.size_alloc _ _
  clear hz
  go_enter Tryd.func75, Tryd.ntmps75
  go_wp2
  revert b0 bel0 sz0
  generalize w.alloc (.cells (scells S0) 62) = V
  intro b0 bel0 sz0
  obtain ⟨c0, c1, c2, c3⟩ := b0.cells
  refine Code.wp_mono (Q := regQ fun a' W' => ∃ (br : Nat) (vs r17 r18 r19 r20 r21 : Value), a' = { tmps := #[sval S0, .int .i64 ev, leadV L, .pointer (some ⟨w.heap.size, 0, none⟩), undef, undef, .slice none 0 0, .slice none 0 0, .bool false, vs, .map (some br), undef, undef, undef, undef, undef, undef, r17, r18, r19, r20, r21, undef, undef, undef, undef, undef, undef, undef, undef, undef, undef, undef, undef, undef, undef, undef, undef, undef, undef, undef, undef, undef, undef, undef, undef, undef, undef, undef, undef, undef, undef, undef, undef, undef, undef, undef, undef, undef, undef, undef, undef, undef, undef, undef, undef, undef, undef, undef], defers := [] } ∧ FDI w.heap.size W' br vs (.slice none 0 0) [S0] [] ∧ Below w.heap.size w W') ?aft ?reg
  case reg =>
    have bd : SB V.drew w.heap.size S0 := b0
    have beld : Below w.heap.size w V.drew := bel0.out.drew
    have szd : V.drew.heap.size = w.heap.size + 1 := sz0
    clear c0 c1 c2 c3
    refine wp_region_held_drew (S := fun w' => w'.cell? ⟨w.heap.size, 0, none⟩ = some (.int .u64 (S0 0)) ∧ w'.cell? ⟨w.heap.size, 1, none⟩ = some (.int .u64 (S0 1)) ∧ w'.cell? ⟨w.heap.size, 2, none⟩ = some (.int .u64 (S0 2)) ∧ w'.cell? ⟨w.heap.size, 3, none⟩ = some (.int .u64 (S0 3))) (by kernel_rfl) b0.cells (fun hS0 => ?_)
    refine wpAnyH_take (i := 0) (v := sval S0) rfl (by kernel_rfl) (by kernel_rfl) (by kernel_rfl) (fun _ _ _ h => h) (Or.inl ⟨by kernel_rfl, fun w' hw' => by obtain ⟨q0, q1, q2, q3⟩ := hw'; go_simp⟩) hS0 ?_
    refine wpAnyH_take (i := 3) (v := sval S0) rfl (by kernel_rfl) (by kernel_rfl) (by kernel_rfl) (fun _ _ _ h => h) (Or.inl ⟨by kernel_rfl, fun w' hw' => by obtain ⟨q0, q1, q2, q3⟩ := hw'; go_simp⟩) hS0 ?_
    simp only [Act.put, List.setIfInBounds_toArray]
    refine wpAnyH_ready (rs := [1, 2]) (by kernel_rfl) (by simp) ?_
    refine AllReadyH.cons rfl (fun K' hK' => ?_) (AllReadyH.cons rfl (fun K' hK' => ?_) AllReadyH.nil)
    · go_simp
      refine hK'.out _ _ (SB.cells (Blk.drew (b0.alloc _))) (fun hS1 => ?_)
      clear hK' K'
      refine wpAnyH_take (i := 6) (v := .slice (some ⟨w.heap.size + 1, 0, none⟩) 1 1) rfl (by kernel_rfl) (by kernel_rfl) (by kernel_rfl) (fun _ _ _ h => h) (Or.inl ⟨by kernel_rfl, fun w' hw' => by obtain ⟨q0, q1, q2, q3⟩ := hw'; go_simp⟩) hS1 ?_
      refine wpAnyH_ready (rs := [2]) (by kernel_rfl) (by simp) ?_
      refine AllReadyH.cons rfl (fun K' hK' => ?_) AllReadyH.nil
      go_simp
      refine hK'.out _ _ (SB.cells (Blk.drew ((b0.alloc _).alloc _))) (fun hS2 => ?_)
      clear hK' K'
      refine wpAnyH_ready (rs := [4]) (by kernel_rfl) (by simp) ?_
      refine AllReadyH.cons rfl (fun K' hK' => ?_) AllReadyH.nil
      have hmp : ((V.alloc (.cells (scells S0) 62)).alloc (.map #[] 0)).heap[w.heap.size + 1 + 1]? = some (.map #[] 0) := by
        have := World.alloc_heap_new (V.alloc (.cells (scells S0) 62)) (.map #[] 0)
        rwa [World.size_alloc, sz0] at this
      have hu := updS_first hr0.out hi0.out (w := ((V.alloc (.cells (scells S0) 62)).alloc (.map #[] 0)).drew) (r := w.heap.size + 1 + 1) hmp
      go_simp
      refine hK'.out _ _ (SB.cells (Blk.map (Blk.drew ((b0.alloc _).alloc _)) (by omega) _)) (fun hS3 => ?_)
      clear hK' K'
      refine wpAnyH_take (i := 5) (v := .map (some (w.heap.size + 1 + 1))) rfl (by kernel_rfl) (by kernel_rfl) (by kernel_rfl) (fun _ _ _ h => h) (Or.inl ⟨by kernel_rfl, fun w' hw' => by obtain ⟨q0, q1, q2, q3⟩ := hw'; go_simp⟩) hS3 ?_
      refine wpAnyH_take (i := 7) (v := .map (some (w.heap.size + 1 + 1))) rfl (by kernel_rfl) (by kernel_rfl) (by kernel_rfl) (fun _ _ _ h => h) (Or.inl ⟨by kernel_rfl, fun w' hw' => by obtain ⟨q0, q1, q2, q3⟩ := hw'; go_simp⟩) hS3 ?_
      refine wpAnyH_done (by kernel_rfl) ?_ _
      have ho : OwnS ((V.alloc (.cells (scells S0) 62)).alloc (.map #[] 0)).drew w.heap.size (.slice (some ⟨w.heap.size + 1, 0, none⟩) 1 1) [S0] := by
        have := World.ownsRow.alloc (ownS_one V S0 w.heap.size (by omega)) (.map #[] 0)
        rw [sz0] at this
        exact this
      exact ⟨w.heap.size + 1 + 1, .slice (some ⟨w.heap.size + 1, 0, none⟩) 1 1, _, _, _, _, _, rfl, fi_first ho hmp (by omega), Below.map (((bel0.out.alloc (by omega) _).alloc (by simp; omega) _).drew) (by omega) _⟩
    · go_simp
      refine hK'.out _ _ (SB.cells (Blk.drew (b0.alloc _))) (fun hS1 => ?_)
      clear hK' K'
      refine wpAnyH_ready (rs := [1, 4]) (by kernel_rfl) (by simp) ?_
      refine AllReadyH.cons rfl (fun K' hK' => ?_) (AllReadyH.cons rfl (fun K' hK' => ?_) AllReadyH.nil)
      · go_simp
        refine hK'.out _ _ (SB.cells (Blk.drew ((b0.alloc _).alloc _))) (fun hS2 => ?_)
        clear hK' K'
        refine wpAnyH_take (i := 6) (v := .slice (some ⟨w.heap.size + 1 + 1, 0, none⟩) 1 1) rfl (by kernel_rfl) (by kernel_rfl) (by kernel_rfl) (fun _ _ _ h => h) (Or.inl ⟨by kernel_rfl, fun w' hw' => by obtain ⟨q0, q1, q2, q3⟩ := hw'; go_simp⟩) hS2 ?_
        refine wpAnyH_ready (rs := [4]) (by kernel_rfl) (by simp) ?_
        refine AllReadyH.cons rfl (fun K' hK' => ?_) AllReadyH.nil
        have hmp : ((V.alloc (.map #[] 0)).alloc (.cells (scells S0) 62)).heap[w.heap.size + 1]? = some (.map #[] 0) := by
          have := World.alloc_heap_new V (.map #[] 0)
          rw [sz0] at this
          exact (Below.heap_alloc (V.alloc (.map #[] 0)) (.cells (scells S0) 62) _ (by rw [World.size_alloc, sz0]; omega)).trans this
        have hu := updS_first hr0.out hi0.out (w := ((V.alloc (.map #[] 0)).alloc (.cells (scells S0) 62)).drew) (r := w.heap.size + 1) hmp
        go_simp
        refine hK'.out _ _ (SB.cells (Blk.map (Blk.drew ((b0.alloc _).alloc _)) (by omega) _)) (fun hS3 => ?_)
        clear hK' K'
        refine wpAnyH_take (i := 5) (v := .map (some (w.heap.size + 1))) rfl (by kernel_rfl) (by kernel_rfl) (by kernel_rfl) (fun _ _ _ h => h) (Or.inl ⟨by kernel_rfl, fun w' hw' => by obtain ⟨q0, q1, q2, q3⟩ := hw'; go_simp⟩) hS3 ?_
        refine wpAnyH_take (i := 7) (v := .map (some (w.heap.size + 1))) rfl (by kernel_rfl) (by kernel_rfl) (by kernel_rfl) (fun _ _ _ h => h) (Or.inl ⟨by kernel_rfl, fun w' hw' => by obtain ⟨q0, q1, q2, q3⟩ := hw'; go_simp⟩) hS3 ?_
        refine wpAnyH_done (by kernel_rfl) ?_ _
        have ho : OwnS ((V.alloc (.map #[] 0)).alloc (.cells (scells S0) 62)).drew w.heap.size (.slice (some ⟨w.heap.size + 1 + 1, 0, none⟩) 1 1) [S0] := by
          have := ownS_one (V.alloc (.map #[] 0)) S0 w.heap.size (by rw [World.size_alloc, sz0]; omega)
          rw [World.size_alloc, sz0] at this
          exact this
        exact ⟨w.heap.size + 1, .slice (some ⟨w.heap.size + 1 + 1, 0, none⟩) 1 1, _, _, _, _, _, rfl, fi_first ho hmp (by omega), Below.map (((bel0.out.alloc (by omega) _).alloc (by simp; omega) _).drew) (by omega) _⟩
      · have hmp : (V.alloc (.map #[] 0)).heap[w.heap.size + 1]? = some (.map #[] 0) := by
          have := World.alloc_heap_new V (.map #[] 0)
          rwa [sz0] at this
        have hu := updS_first hr0.out hi0.out (w := (V.alloc (.map #[] 0)).drew) (r := w.heap.size + 1) hmp
        go_simp
        refine hK'.out _ _ (SB.cells (Blk.map (Blk.drew (b0.alloc _)) (by omega) _)) (fun hS2 => ?_)
        clear hK' K'
        refine wpAnyH_take (i := 5) (v := .map (some (w.heap.size + 1))) rfl (by kernel_rfl) (by kernel_rfl) (by kernel_rfl) (fun _ _ _ h => h) (Or.inl ⟨by kernel_rfl, fun w' hw' => by obtain ⟨q0, q1, q2, q3⟩ := hw'; go_simp⟩) hS2 ?_
        refine wpAnyH_ready (rs := [1]) (by kernel_rfl) (by simp) ?_
        refine AllReadyH.cons rfl (fun K' hK' => ?_) AllReadyH.nil
        have hsz : (setMap (V.alloc (.map #[] 0)).drew (w.heap.size + 1) (.map (entsS [S0]) 1)).heap.size = w.heap.size + 1 + 1 := by rw [size_setMap]; show (V.alloc (.map #[] 0)).heap.size = _; rw [World.size_alloc, sz0]
        go_simp
        refine hK'.out _ _ (SB.cells (Blk.alloc (Blk.map (Blk.drew (b0.alloc _)) (by omega) _) _)) (fun hS3 => ?_)
        clear hK' K'
        refine wpAnyH_take (i := 6) (v := .slice (some ⟨w.heap.size + 1 + 1, 0, none⟩) 1 1) rfl (by kernel_rfl) (by kernel_rfl) (by kernel_rfl) (fun _ _ _ h => h) (Or.inl ⟨by kernel_rfl, fun w' hw' => by obtain ⟨q0, q1, q2, q3⟩ := hw'; go_simp⟩) hS3 ?_
        refine wpAnyH_take (i := 7) (v := .map (some (w.heap.size + 1))) rfl (by kernel_rfl) (by kernel_rfl) (by kernel_rfl) (fun _ _ _ h => h) (Or.inl ⟨by kernel_rfl, fun w' hw' => by obtain ⟨q0, q1, q2, q3⟩ := hw'; go_simp⟩) hS3 ?_
        refine wpAnyH_done (by kernel_rfl) ?_ _
        have hf := fi_first2 (B := w.heap.size) (S := S0) (W := setMap (V.alloc (.map #[] 0)).drew (w.heap.size + 1) (.map (entsS [S0]) 1)) (br := w.heap.size + 1) (heap_setMap _ _ (by show _ < (V.alloc (.map #[] 0)).heap.size; rw [World.size_alloc, sz0]; omega)) (by omega) (by omega)
        rw [hsz] at hf
        exact ⟨w.heap.size + 1, .slice (some ⟨w.heap.size + 1 + 1, 0, none⟩) 1 1, _, _, _, _, _, rfl, hf, (Below.map ((bel0.out.alloc (by omega) _).drew) (by omega) _).alloc (by omega) _⟩
  case aft =>
    refine regQ_imp ?_
    rintro a' W' ⟨br, vs, r17, r18, r19, r20, r21, rfl, q1, q2⟩
    have Q1 := Hid.of q1
    have Q2 := Hid.of q2
    clear q1 q2 b0 bel0 sz0 c0 c1 c2 c3 hmm
    have HRL0 := Hid.of (RepL.one hr0.out hi0.out)
    have HDI0 : Hid (DI ⟨(st : Int), (ev : Int), starts, ars, ends⟩ ev (0 * ev) ⟨[starts], []⟩) := di_start hm.out ev
    have HDE0 : Hid (detS ⟨(st : Int), (ev : Int), starts, ars, ends⟩ = dGo ars ev 257 0 ⟨[starts], []⟩) := by
      show detS ⟨(st : Int), (ev : Int), starts, ars, ends⟩ = _
      unfold detS; simp only [Int.toNat_natCast]
    obtain ⟨i0, hi, hz0, hz1, hz2⟩ := info_parts Tryd.infoSet
    obtain ⟨j0, ji, jz0, jz1, jz2⟩ := info_parts Tryd.infoArrow
    go_wp2_with fail
    go_loopw [9, 11, 12] (fun v9 v11 i wr => ∃ (k : Nat) (s : DS) (SL : List (Nat → Nat)), i = .int .i64 k ∧ k ≤ s.sets.length ∧ s.sets.length ≤ 256 ∧ Hid (FDI w.heap.size wr br v9 v11 SL s.ar) ∧ Hid (Below w.heap.size w wr) ∧ Hid (RepL SL s.sets) ∧ Hid (DI ⟨(st : Int), (ev : Int), starts, ars, ends⟩ ev (k * ev) s) ∧ Hid (detS ⟨(st : Int), (ev : Int), starts, ars, ends⟩ = dGo ars ev (257 - k) k s)) (fun _ _ i _ => 257 - (intOf i).toNat)
    case atStart => exact ⟨0, ⟨[starts], []⟩, [S0], rfl, Nat.zero_le _, by simp, Q1, Q2, HRL0, HDI0, HDE0⟩
    case round =>
      clear Q1 Q2 HRL0 HDI0 HDE0
      obtain ⟨k, s, SL, rfl, hk, h256, HF, HB, HR, HD, HE⟩ := hrel
      obtain ⟨va9, vc9, hv9, -, -, -⟩ := own_form2 HF.out.ss
      subst hv9
      have hSL : SL.length = s.sets.length := HR.out.len
      have HSL := Hid.of hSL
      clear hSL
      by_cases hlt : k < s.sets.length
      · have hltI : (k : Int) < (SL.length : Int) := by rw [HSL.out]; omega
        have hltD : decide ((k : Int) < (SL.length : Int)) = true := by simpa using hltI
        go_wp2_with fail
        go_loopw [9, 11, 29] (fun v9 v11 i wr' => ∃ (e : Nat) (SL1 : List (Nat → Nat)), i = .int .i64 e ∧ e ≤ ev ∧ (dRow ars k s e).sets.length ≤ 256 ∧ Hid (FDI w.heap.size wr' br v9 v11 SL1 (dRow ars k s e).ar) ∧ Hid (Below w.heap.size w wr') ∧ Hid (RepL SL1 (dRow ars k s e).sets)) (fun _ _ i _ => ev - (intOf i).toNat)
        case atStart => exact ⟨0, SL, rfl, Nat.zero_le _, h256, HF, HB, HR⟩
        case round =>
          clear HF HB HR HSL hltI hltD
          obtain ⟨e, SL1, rfl, hee, h256', HF, HB, HR⟩ := hrel
          have HDe := Hid.of (di_row hm.out HD.out hlt e hee)
          have HSuc : Hid (dRow ars k s (e + 1) = dStep ars k (dRow ars k s e) e) := dRow_succ _ _ _ _
          have hk1 : k < (dRow ars k s e).sets.length := by
            obtain ⟨t, ht, -⟩ := dRow_pre ars k s e
            rw [ht, List.length_append]; omega
          have HMono : Hid (∀ j, (dRow ars k s (e + 1)).sets.length ≤ (dRow ars k s (e + 1 + j)).sets.length) := fun j => dRow_mono ars k s (e + 1) j
          obtain ⟨va8, vc8, hv8, -, -, -⟩ := own_form2 HF.out.ss
          subst hv8
          obtain ⟨s1, HS1⟩ : ∃ s1, Hid (s1 = dRow ars k s e) := ⟨_, rfl⟩
          rw [← HS1.out] at h256' HF HR HDe HSuc hk1
          have HSL1 := Hid.of HR.out.len
          by_cases hle : e < ev
          · obtain ⟨l, hl⟩ : ∃ l, Hid (s1.sets[k]? = some l) := ⟨_, List.getElem?_eq_getElem hk1⟩
            obtain ⟨S, hS, hrS, hiS⟩ := HR.out.at hl.out
            obtain ⟨g, cap, hv, hg1, hg2, c0, c1, c2, c3⟩ := HF.out.ss.cell hS
            cases hv
            have HRS := Hid.of hrS
            have hkI : (k : Int) < (SL1.length : Int) := by rw [HSL1.out]; omega
            have hall : ∀ n ∈ allS S, n < st := fun n hn => by
              obtain ⟨n1, n2⟩ := (mem_allS S n).1 hn
              have := (HDe.out.inc l (List.mem_of_getElem? hl.out)).2 _ ((hrS.mem n n1).1 n2)
              dsimp only at this; omega
            have hTr : Tab wr := hT.out.below HB.out hT.out.lt
            have hLr : LD wr L ev (st * ev) (tabS ev ars) := hL.out.below HB.out hL.out.lt
            have hcall := Hid.of (lead1_any st ev e L (tabS ev ars) (okS_tab _ _) S hrS.ok hall hle he8 hst wr hTr hLr)
            have hRep : Hid (Rep (leadF (tabS ev ars) ev e (allS S)) (stepL ars l (e : Int))) := by
              have := rep_lead (st := (st : Int)) (ev := (ev : Int)) (e := (e : Int)) hrS (may_arrs hm.out) (by omega) (by omega) (by omega)
              have h2 : Rep (leadS ev ars S e) (stepL ars l (e : Int)) := by simpa only [Int.toNat_natCast] using this
              exact h2
            have hInc : Hid (Inc (stepL ars l (e : Int))) := inc_srt _
            obtain ⟨S1, HSS⟩ : ∃ S1, Hid (S1 = leadF (tabS ev ars) ev e (allS S)) := ⟨_, rfl⟩
            obtain ⟨to, HTO⟩ : ∃ to, Hid (to = stepL ars l (e : Int)) := ⟨_, rfl⟩
            rw [← HSS.out] at hcall hRep
            rw [← HTO.out] at hRep hInc
            clear hrS hiS hS hall hTr hLr
            have HST : Hid (dStep ars k s1 e = ⟨if findL s1.sets to = s1.sets.length then s1.sets ++ [to] else s1.sets, s1.ar ++ [⟨(k : Int), (e : Int), (findL s1.sets to : Nat)⟩]⟩) := by
              show _ = _
              unfold dStep; rw [hl.out, Option.getD_some, ← HTO.out]
            go_wp2_with fail
            refine hcall.out.mono ?_
            rintro r w1 ⟨rfl, hb1⟩
            have F1 : Hid (FDI w.heap.size (w1.alloc (.cells (scells S1) 62)) br (.slice (some ⟨g, 0, none⟩) SL1.length vc8) u11 SL1 s1.ar) := (HF.out.below hb1).below ((Below.refl _ _).alloc (Nat.le_refl _) _)
            have B1 : Hid (Below w.heap.size w (w1.alloc (.cells (scells S1) 62))) := (HB.out.trans (hb1.mono HB.out.size)).alloc (Nat.le_trans HB.out.size hb1.size) _
            have N1 : Hid (SB (w1.alloc (.cells (scells S1) 62)) w1.heap.size S1) := Blk.new w1 62 (scells S1)
            have hbr : br < w1.heap.size := Nat.lt_of_lt_of_le (Array.getElem?_eq_some_iff.1 HF.out.mp).1 hb1.size
            have hws : w.heap.size ≤ w1.heap.size := Nat.le_trans HB.out.size hb1.size
            obtain ⟨n0, n1, n2, n3⟩ := SB.cells N1.out
            clear hcall hb1 c0 c1 c2 c3 HF HB hg2
            have harl : s1.ar.length ≤ 2056 := by
              rw [HDe.out.len]
              have : k * ev ≤ 256 * 8 := Nat.mul_le_mul (by omega) he8
              omega
            by_cases hnew : findL s1.sets to = s1.sets.length
            · have lk := lookS_new HR.out HDe.out.nd hRep.out hInc.out (w := (w1.alloc (.cells (scells S1) 62))) (r := br) F1.out.mp hnew
              have hu := updS_new HR.out HDe.out.nd hRep.out hInc.out (w := (w1.alloc (.cells (scells S1) 62))) (r := br) F1.out.mp hnew
              have hzs : (setMap (w1.alloc (.cells (scells S1) 62)) br (.map (entsS (SL1 ++ [S1])) (SL1.length + 1))).heap.size = w1.heap.size + 1 := by rw [size_setMap, World.size_alloc]
              have NZ : Hid (SB (setMap (w1.alloc (.cells (scells S1) 62)) br (.map (entsS (SL1 ++ [S1])) (SL1.length + 1))) w1.heap.size S1) := Blk.map N1.out (by omega) _
              obtain ⟨k0, k1, k2, k3⟩ := SB.cells NZ.out
              have OZ : Hid (OwnS (setMap (w1.alloc (.cells (scells S1) 62)) br (.map (entsS (SL1 ++ [S1])) (SL1.length + 1))) w.heap.size (.slice (some ⟨g, 0, none⟩) SL1.length vc8) SL1) := own_same F1.out.ss (fun j hj => heap_setMap_ne _ _ _ (fun e => F1.out.apart.1 (by rw [hj, e])))
              have CF : Hid (∀ j v, ([.int .u64 (S1 0), .int .u64 (S1 1), .int .u64 (S1 2), .int .u64 (S1 3)] : List Value)[j]? = some v → ((setMap (w1.alloc (.cells (scells S1) 62)) br (.map (entsS (SL1 ++ [S1])) (SL1.length + 1))).alloc (.cells #[.int .u64 (S1 0), .int .u64 (S1 1), .int .u64 (S1 2), .int .u64 (S1 3)] 62)).cell? ((⟨w1.heap.size + 1, 0, none⟩ : Addr).add j) = some v) := by
                have := cells_four (setMap (w1.alloc (.cells (scells S1) 62)) br (.map (entsS (SL1 ++ [S1])) (SL1.length + 1))) (setMap (w1.alloc (.cells (scells S1) 62)) br (.map (entsS (SL1 ++ [S1])) (SL1.length + 1))) rfl 62 (.int .u64 (S1 0)) (.int .u64 (S1 1)) (.int .u64 (S1 2)) (.int .u64 (S1 3))
                rw [hzs] at this
                exact this
              have hlS : SL1.length ≤ 256 := by rw [HSL1.out]; exact h256'
              have HNX : Hid (dRow ars k s (e + 1) = ⟨s1.sets ++ [to], s1.ar ++ [⟨(k : Int), (e : Int), (SL1.length : Int)⟩]⟩) := by
                show _ = _
                rw [HSuc.out, HST.out, if_pos hnew, hnew, ← HSL1.out]
              have HNW := Hid.of hnew
              clear hnew
              go_wp2_with (at_builtin; refine wpList_append_block _ rfl (.tmp 52) (.tmp 54) 87 rfl w.heap.size 62 i0 (sval zeroS) 4 32 Tryd.underlying87 hi hz0 hz1 hz2 rfl (by decide) _ _ _ rfl (World.ownsRow.alloc OZ.out _) ⟨w1.heap.size + 1, 0, none⟩ 1 1 [.int .u64 (S1 0), .int .u64 (S1 1), .int .u64 (S1 2), .int .u64 (S1 3)] rfl rfl CF.out (by intro u hu; simp at hu; rcases hu with rfl | rfl | rfl | rfl <;> rfl) (by decide) (by unfold maxLen; omega) (by omega) (by rw [World.size_alloc, hzs]; omega) ?_)
              intro v7 w7 o7 g7 n7
              obtain ⟨p1, p2⟩ := FDI.push F1.out B1.out ((Below.refl _ _).alloc (Nat.le_refl _) _) (own_set o7) g7 (by rw [World.size_alloc]; omega)
              obtain ⟨qa, qc, hv7, -, -, -⟩ := own_form2 o7
              subst hv7
              have P1 := Hid.of p1
              have P2 := Hid.of p2
              clear p1 p2 o7 g7 n7 n0 n1 n2 n3 k0 k1 k2 k3 NZ OZ CF lk hu N1 F1 B1 hzs
              have HR7 := Hid.of (HR.out.snoc hRep.out hInc.out)
              by_cases hfit : SL1.length + 1 ≤ 256
              · have hfD : decide ((256 : Int) < ((SL1.length + 1 : Nat) : Int)) = false := by simp; omega
                have hwz := P2.out.size
                obtain ⟨ra1, rc1, hra, -, -, -⟩ := own_form2 P1.out.ar
                subst hra
                go_wp2_with (at_builtin; refine wpList_append_arrs _ rfl (.tmp 59) (.tmp 64) 23 rfl w.heap.size j0 Tryd.underlying23 ji jz0 jz1 jz2 _ s1.ar rfl (World.ownsRow.alloc P1.out.ar _) (some ⟨w7.heap.size, 0, none⟩) 1 [⟨(k : Int), (e : Int), (SL1.length : Int)⟩] rfl (atA_new _ _ ⟨(k : Int), (e : Int), (SL1.length : Int)⟩ _ rfl) (fun h => by cases h) (by simp; omega) (by simp; omega) ?_)
                intro v8 w8 o8 g8 n8
                obtain ⟨R1, R2⟩ := FDI.arrow P1.out P2.out ((Below.refl _ _).alloc (Nat.le_refl _) _) o8 g8 (Nat.le_trans P2.out.size (Nat.le_refl _))
                have R1' := Hid.of R1
                have R2' := Hid.of R2
                clear R1 R2 o8 g8 n8
                go_wp2_with fail
                go_roundw
                case rel => exact ⟨e + 1, SL1 ++ [S1], by go_num, by omega, (by rw [HNX.out]; have h2 := HSL1.out; simp; omega), (by show FDI _ _ _ _ _ _ _; rw [HNX.out]; exact R1'.out), R2', (by show RepL _ _; rw [HNX.out]; exact HR7.out)⟩
                case measure => simp [intOf]; omega

              · have hfD : decide ((256 : Int) < ((SL1.length + 1 : Nat) : Int)) = true := by simp; omega
                have HNO : Hid (detS ⟨(st : Int), (ev : Int), starts, ars, ends⟩ = none) := by
                  show _ = _
                  rw [HE.out]
                  refine dGo_none hlt ?_ (by omega)
                  have h1 := HMono.out (ev - (e + 1))
                  rw [show e + 1 + (ev - (e + 1)) = ev by omega, HNX.out] at h1
                  have h2 := HSL1.out
                  simp only [List.length_append, List.length_cons, List.length_nil] at h1
                  omega
                go_wp2
                refine bodyPost_ret (v := .tuple #[.slice none 0 0, .slice none 0 0, .bool false]) (by simp [results, go_sem]) rfl ?_
                unfold FindPost
                rw [HNO.out]
                exact ⟨rfl, P2.out⟩
            · have lk := lookS_known HR.out HDe.out.nd hRep.out hInc.out (w := (w1.alloc (.cells (scells S1) 62))) (r := br) F1.out.mp hnew
              have hfl := findL_le s1.sets to
              have HNX : Hid (dRow ars k s (e + 1) = ⟨s1.sets, s1.ar ++ [⟨(k : Int), (e : Int), (findL s1.sets to : Nat)⟩]⟩) := by
                show _ = _
                rw [HSuc.out, HST.out, if_neg hnew]
              have hlS : SL1.length ≤ 256 := by rw [HSL1.out]; exact h256'
              obtain ⟨n, HN⟩ : ∃ n, Hid (n = findL s1.sets to) := ⟨_, rfl⟩
              rw [← HN.out] at lk HNX hfl
              clear hnew
              have hfD : decide ((256 : Int) < (SL1.length : Int)) = false := by simp; omega
              have hwz := B1.out.size
              obtain ⟨ra1, rc1, hra, -, -, -⟩ := own_form2 F1.out.ar
              subst hra
              go_wp2_with (at_builtin; refine wpList_append_arrs _ rfl (.tmp 59) (.tmp 64) 23 rfl w.heap.size j0 Tryd.underlying23 ji jz0 jz1 jz2 _ s1.ar rfl (World.ownsRow.alloc F1.out.ar _) (some ⟨w1.heap.size + 1, 0, none⟩) 1 [⟨(k : Int), (e : Int), (n : Int)⟩] rfl (atA_new _ _ ⟨(k : Int), (e : Int), (n : Int)⟩ _ (by rw [World.size_alloc])) (fun h => by cases h) (by simp; omega) (by simp; omega) ?_)
              intro v8 w8 o8 g8 n8
              obtain ⟨R1, R2⟩ := FDI.arrow F1.out B1.out ((Below.refl _ _).alloc (Nat.le_refl _) _) o8 g8 (Nat.le_trans B1.out.size (Nat.le_refl _))
              have R1' := Hid.of R1
              have R2' := Hid.of R2
              clear R1 R2 o8 g8 n8
              go_wp2_with fail
              go_roundw
              case rel => exact ⟨e + 1, SL1, by go_num, by omega, (by rw [HNX.out]; exact h256'), (by show FDI _ _ _ _ _ _ _; rw [HNX.out]; exact R1'.out), R2', (by show RepL _ _; rw [HNX.out]; exact HR.out)⟩
              case measure => simp [intOf]; omega
          · have hev2 : e = ev := by omega
            have HFIN : Hid (s1 = dRow ars k s ev) := by show _ = _; rw [HS1.out, hev2]
            have HDN : Hid (DI ⟨(st : Int), (ev : Int), starts, ars, ends⟩ ev ((k + 1) * ev) s1) := by
              have := HDe.out
              show DI _ _ _ _
              rw [Nat.succ_mul, ← hev2] at *
              exact this
            have HEN : Hid (detS ⟨(st : Int), (ev : Int), starts, ars, ends⟩ = dGo ars ev (257 - (k + 1)) (k + 1) s1) := by
              show _ = _
              rw [HE.out, dGo_next hlt (by rw [← HFIN.out]; omega) (by omega), ← HFIN.out, show 257 - k - 1 = 257 - (k + 1) by omega]
            clear hev2 HDe
            go_wp2_with fail
            go_roundw
            case rel => exact ⟨k + 1, s1, SL1, by go_num, by omega, h256', HF, HB, HR, HDN, HEN⟩
            case measure => simp [intOf]; omega
      · have hltD : decide ((k : Int) < (SL.length : Int)) = false := by simp; rw [HSL.out]; omega
        have hltI : ¬ (k : Int) < (SL.length : Int) := by rw [HSL.out]; omega
        have HFIN : Hid (detS ⟨(st : Int), (ev : Int), starts, ars, ends⟩ = some s) := by show _ = _; rw [HE.out, dGo_end hlt]
        go_wp2
        refine bodyPost_ret (v := .tuple #[.slice va9 SL.length vc9, u11, .bool true]) (by simp [results, go_sem]) rfl ?_
        unfold FindPost
        rw [HFIN.out]
        exact ⟨_, _, SL, rfl, HR.out, HF.out.ss, HF.out.ar, HB.out⟩

end Go.Proofs.YtbdkaobbfmgnhaaDoor
namespace Go.Proofs.YtbdkaobbfmgnhaaDoor
open Go.RowKit
set_option linter.unusedVariables false

theorem zcell_at {W : World} {b : Nat} {t : TypeId} (h : Blk W b t zcells) : W.cell? ⟨b, 0, none⟩ = some (.int .i64 0) ∧ W.cell? ⟨b, 1, none⟩ = some (.int .i64 0) ∧ W.cell? ⟨b, 2, none⟩ = some (.slice none 0 0) ∧ W.cell? ⟨b, 3, none⟩ = some (.slice none 0 0) ∧ W.cell? ⟨b, 4, none⟩ = some (.slice none 0 0) :=
  ⟨h.cell 0 rfl, h.cell 1 rfl, h.cell 2 rfl, h.cell 3 rfl, h.cell 4 rfl⟩
theorem Blk.other5 {W : World} {b b' : Nat} {t : TypeId} {cs : Array Value} (h : Blk W b t cs) (hne : b ≠ b') (v0 v1 v2 v3 v4 : Value) : Blk (((((W.setCell ⟨b', 0, none⟩ v0).setCell ⟨b', 1, none⟩ v1).setCell ⟨b', 2, none⟩ v2).setCell ⟨b', 3, none⟩ v3).setCell ⟨b', 4, none⟩ v4) b t cs :=
  ((((h.other hne v0).other hne v1).other hne v2).other hne v3).other hne v4

theorem Blk.set5 {W : World} {b : Nat} {t : TypeId} (h : Blk W b t zcells) (v0 v1 v2 v3 v4 : Value) : Blk (((((W.setCell ⟨b, 0, none⟩ v0).setCell ⟨b, 1, none⟩ v1).setCell ⟨b, 2, none⟩ v2).setCell ⟨b, 3, none⟩ v3).setCell ⟨b, 4, none⟩ v4) b t #[v0, v1, v2, v3, v4] :=
  ((((h.set 0 v0).set 1 v1).set 2 v2).set 3 v3).set 4 v4
theorem below_set5 {W V : World} {B b' : Nat} (h : Below B V W) (hb : B ≤ b') (v0 v1 v2 v3 v4 : Value) : Below B V (((((W.setCell ⟨b', 0, none⟩ v0).setCell ⟨b', 1, none⟩ v1).setCell ⟨b', 2, none⟩ v2).setCell ⟨b', 3, none⟩ v3).setCell ⟨b', 4, none⟩ v4) :=
  ((((h.setCell (p := ⟨b', 0, none⟩) hb v0).setCell (p := ⟨b', 1, none⟩) hb v1).setCell (p := ⟨b', 2, none⟩) hb v2).setCell (p := ⟨b', 3, none⟩) hb v3).setCell (p := ⟨b', 4, none⟩) hb v4
theorem results_three {fn : Func} {p u v : Tmp} (h : fn.results = #[.cell p 25, .tmp u, .tmp v]) (tmps : Array Value) (w : World) (g : Nat) (m : Mach) (l : ML) (x y : Value) (hp : tmps.getD p undef = .pointer (some ⟨g, 0, none⟩)) (hu : tmps.getD u undef = x) (hv : tmps.getD v undef = y) (hB : Blk w g 25 (mcells m l)) :
    (results fn tmps).run Tryd.prog w = .ok (.tuple #[mval m l, x, y]) w := by
  obtain ⟨x0, x1, x2, x3, x4⟩ := mcell_at hB
  have e : (results fn tmps).run Tryd.prog w = ((asAddr (tmps.getD p undef)).run Tryd.prog w).andThen fun a w₁ => ((loadVar 25 a).run Tryd.prog w₁).andThen fun r w₂ => .ok (.tuple #[r, tmps.getD u undef, tmps.getD v undef]) w₂ := by
    simp only [results, h]
    simp [Sem.run_bind, Result.andThen]
  rw [e, hp, hu, hv]
  go_simp

abbrev m0 : Mach := ⟨0, 0, [], [], []⟩
abbrev ml0 : ML := ⟨none, 0, none, 0, none, 0⟩

end Go.Proofs.YtbdkaobbfmgnhaaDoor
namespace Go.Proofs.YtbdkaobbfmgnhaaDoor
open Go.RowKit
set_option linter.unusedVariables false

theorem sameB_self : ∀ xs : List Int, sameB xs xs = true := by intro xs; simp [sameB]
end Go.Proofs.YtbdkaobbfmgnhaaDoor
namespace Go.Proofs.YtbdkaobbfmgnhaaDoor
open Go.RowKit
set_option linter.unusedVariables false

theorem sameA_self : ∀ l : List Arr, sameA l l = true
  | [] => rfl
  | a :: r => by simp [sameA, sameA_self r]
theorem sameM_self (m : Mach) : sameM m m = true := by
  rw [sameM_go rfl rfl (sameB_self _) (sameB_self _) rfl]; exact sameA_self _
theorem mat0 (w : World) : MAt w m0 ml0 := ⟨.inl rfl, .inl rfl, .inl rfl, Nat.le_refl _, Nat.zero_le _, fun _ => rfl, Nat.le_refl _, Nat.zero_le _, fun _ => rfl, Nat.le_refl _, Nat.zero_le _, fun _ => rfl⟩
set_option maxHeartbeats 1000000 in
theorem machines_any (m n : Mach) (l k : ML) (w : World) (h : MAt w m l) (h' : MAt w n k) :
    Calls Tryd.prog 32 #[mval m l, mval n k] w fun e w' => e = .returned (.bool (sameM m n)) ∧ Below w.heap.size w w' := by
  have B0 : Hid (Below w.heap.size w ((w.alloc (.cells (mcells m l) 25)).alloc (.cells (mcells n k) 25))) := ((Below.refl _ _).alloc (Nat.le_refl _) _).alloc (by simp) _
  have H := Hid.of (h.below B0.out (Nat.le_refl _))
  have H' := Hid.of (h'.below B0.out (Nat.le_refl _))
  clear h h'
  go_enter Tryd.func32, Tryd.ntmps32
  go_wp2_with fail
  refine (refMSame_any m n l k _ H.out H'.out).mono ?_
  rintro e w1 ⟨rfl, hb⟩
  have HB := Hid.of (B0.out.trans (hb.mono B0.out.size))
  clear hb
  go_wp2
  go_ret
  exact ⟨rfl, HB.out⟩

end Go.Proofs.YtbdkaobbfmgnhaaDoor
namespace Go.Proofs.YtbdkaobbfmgnhaaDoor
open Go.RowKit
set_option linter.unusedVariables false

/-- A machine's slices lie from block B on. -/
structure FrM (B : Nat) (m : Mach) (l : ML) : Prop where
  s : m.starts = [] ∨ ∃ b off, l.a1 = some ⟨b, off, none⟩ ∧ B ≤ b
  a : m.arrows = [] ∨ ∃ b off, l.a2 = some ⟨b, off, none⟩ ∧ B ≤ b
  e : m.ends = [] ∨ ∃ b off, l.a3 = some ⟨b, off, none⟩ ∧ B ≤ b
theorem At.set {w : World} {a : Option Addr} {xs : List Int} {B b j : Nat} (h : At w a xs) (hf : xs = [] ∨ ∃ b off, a = some ⟨b, off, none⟩ ∧ B ≤ b) (hb : b < B) (v : Value) : At (w.setCell ⟨b, j, none⟩ v) a xs := by
  rcases h with h | ⟨g, off, h1, h2, h3⟩
  · exact .inl h
  · rcases hf with hf | ⟨g', off', h1', h4⟩
    · exact .inl hf
    · rw [h1] at h1'; cases h1'
      exact .inr ⟨g, off, h1, by rw [size_set]; exact h2, fun i hi => (World.cell?_of_block (w := w) (Below.heap_setCell w ⟨b, j, none⟩ v g (by show g ≠ b; omega))).trans (h3 i hi)⟩
theorem AtA.set {w : World} {a : Option Addr} {xs : List Arr} {B b j : Nat} (h : AtA w a xs) (hf : xs = [] ∨ ∃ b off, a = some ⟨b, off, none⟩ ∧ B ≤ b) (hb : b < B) (v : Value) : AtA (w.setCell ⟨b, j, none⟩ v) a xs := by
  rcases h with h | ⟨g, off, h1, h2, h3⟩
  · exact .inl h
  · rcases hf with hf | ⟨g', off', h1', h4⟩
    · exact .inl hf
    · rw [h1] at h1'; cases h1'
      have e : ∀ q, (w.setCell ⟨b, j, none⟩ v).cell? ⟨g, q, none⟩ = w.cell? ⟨g, q, none⟩ := fun q => World.cell?_of_block (w := w) (Below.heap_setCell w ⟨b, j, none⟩ v g (by show g ≠ b; omega))
      exact .inr ⟨g, off, h1, by rw [size_set]; exact h2, fun i hi => by rw [e, e, e]; exact h3 i hi⟩
theorem MAt.set {w : World} {m : Mach} {l : ML} {B b j : Nat} (h : MAt w m l) (hf : FrM B m l) (hb : b < B) (v : Value) : MAt (w.setCell ⟨b, j, none⟩ v) m l :=
  ⟨h.s.set hf.s hb v, h.a.set hf.a hb v, h.e.set hf.e hb v, h.s1, h.s2, h.s3, h.a1, h.a2, h.a3, h.e1, h.e2, h.e3⟩
theorem MAt.set5 {w : World} {m : Mach} {l : ML} {B b : Nat} (h : MAt w m l) (hf : FrM B m l) (hb : b < B) (v0 v1 v2 v3 v4 : Value) : MAt (((((w.setCell ⟨b, 0, none⟩ v0).setCell ⟨b, 1, none⟩ v1).setCell ⟨b, 2, none⟩ v2).setCell ⟨b, 3, none⟩ v3).setCell ⟨b, 4, none⟩ v4) m l :=
  ((((h.set hf hb v0).set hf hb v1).set hf hb v2).set hf hb v3).set hf hb v4
theorem Own.fr {w : World} {B n c : Nat} {a : Option Addr} {xs : List Int} (h : Own w B (.slice a n c) xs) : xs = [] ∨ ∃ b off, a = some ⟨b, off, none⟩ ∧ B ≤ b := by
  rcases h.cells_of with ⟨-, h0⟩ | ⟨g, cap, h0, h5, -, -, -⟩
  · exact .inl h0
  · cases h0; exact .inr ⟨g, 0, rfl, h5⟩
theorem OwnA.fr {w : World} {B n c : Nat} {a : Option Addr} {xs : List Arr} (h : OwnA w B (.slice a n c) xs) : xs = [] ∨ ∃ b off, a = some ⟨b, off, none⟩ ∧ B ≤ b := by
  rcases h.forms with ⟨-, h0⟩ | ⟨g, cap, h0, h5, -⟩
  · exact .inl h0
  · cases h0; exact .inr ⟨g, 0, rfl, h5⟩
theorem fr_mono {a : Option Addr} {n : Prop} {B B' : Nat} (h : n ∨ ∃ b off, a = some ⟨b, off, none⟩ ∧ B ≤ b) (hB : B' ≤ B) : n ∨ ∃ b off, a = some ⟨b, off, none⟩ ∧ B' ≤ b := by
  rcases h with h | ⟨b, off, h1, h2⟩
  · exact .inl h
  · exact .inr ⟨b, off, h1, by omega⟩

end Go.Proofs.YtbdkaobbfmgnhaaDoor
namespace Go.Proofs.YtbdkaobbfmgnhaaDoor
open Go.RowKit
set_option linter.unusedVariables false

/-- What Make answers. -/
def detOut (m : Mach) : Mach × List (List Int) × Int :=
  if mayB m = false then (m0, [], 2) else match detS m with
    | none => (m0, [], 1)
    | some s => (detM m s, s.sets, 0)
/-- What Make leaves. -/
def MakePost (w : World) (m : Mach) (e : Ending) (w' : World) : Prop := ∃ L va vc, e = .returned (.tuple #[mval (detOut m).1 L, .slice va (detOut m).2.1.length vc, .int .i64 (detOut m).2.2]) ∧ MAt w' (detOut m).1 L ∧ At2 w' va (detOut m).2.1 ∧ (detOut m).2.1.length ≤ 256 ∧ Below w.heap.size w w'
theorem makePost_err {w w' : World} {m : Mach} {c : Int} (h : detOut m = (m0, [], c)) (hb : Below w.heap.size w w') : MakePost w m (.returned (.tuple #[mval m0 ml0, .slice none 0 0, .int .i64 c])) w' := by
  unfold MakePost
  rw [h]
  exact ⟨ml0, none, 0, rfl, mat0 _, .inl rfl, Nat.zero_le _, hb⟩
theorem detOut_bad {m : Mach} (h : mayB m = false) : detOut m = (m0, [], 2) := by unfold detOut; rw [if_pos h]
theorem detOut_none {m : Mach} (h : mayB m = true) (hd : detS m = none) : detOut m = (m0, [], 1) := by unfold detOut; rw [if_neg (by rw [h]; simp), hd]
theorem detOut_some {m : Mach} {s : DS} (h : mayB m = true) (hd : detS m = some s) : detOut m = (detM m s, s.sets, 0) := by unfold detOut; rw [if_neg (by rw [h]; simp), hd]

theorem InnB.setM {W : World} {b j : Nat} {v : Value} {xs : List Int} {cs : Array Value} (h : InnB W v xs) (hb : Blk W b 25 cs) (x : Value) : InnB (W.setCell ⟨b, j, none⟩ x) v xs :=
  h.kept fun g cs' hg => Below.heap_setCell W ⟨b, j, none⟩ x g (fun e => by
    have hb' : W.heap[b]? = some (.cells cs 25 (0, 0)) := hb
    have e' : g = b := e
    rw [e', hb'] at hg
    cases hg)
theorem Own2.setM {W : World} {B b j : Nat} {v : Value} {LL : List (List Int)} {cs : Array Value} (h : Own2 W B v LL) (hb : Blk W b 25 cs) (hB : b < B) (x : Value) : Own2 (W.setCell ⟨b, j, none⟩ x) B v LL := by
  obtain ⟨vs, ho, hi⟩ := h
  exact ⟨vs, ownsRow_set ho hB x, fun k y ys h1 h2 => (hi k y ys h1 h2).setM hb x⟩

theorem dleaf {w X : World} {M : Mach} {L : ML} {vr : Value} {LL : List (List Int)} (hb : Below w.heap.size w X) (hr : Blk X (w.heap.size + 1) 25 zcells) (hM : MAt X M L) (hF : FrM (w.heap.size + 2) M L) (hO : Own2 X (w.heap.size + 2) vr LL) :
    Blk (((((X.setCell ⟨w.heap.size + 1, 0, none⟩ (.int .i64 M.st)).setCell ⟨w.heap.size + 1, 1, none⟩ (.int .i64 M.ev)).setCell ⟨w.heap.size + 1, 2, none⟩ (.slice L.a1 M.starts.length L.c1)).setCell ⟨w.heap.size + 1, 3, none⟩ (.slice L.a2 M.arrows.length L.c2)).setCell ⟨w.heap.size + 1, 4, none⟩ (.slice L.a3 M.ends.length L.c3)) (w.heap.size + 1) 25 (mcells M L)
    ∧ MAt (((((X.setCell ⟨w.heap.size + 1, 0, none⟩ (.int .i64 M.st)).setCell ⟨w.heap.size + 1, 1, none⟩ (.int .i64 M.ev)).setCell ⟨w.heap.size + 1, 2, none⟩ (.slice L.a1 M.starts.length L.c1)).setCell ⟨w.heap.size + 1, 3, none⟩ (.slice L.a2 M.arrows.length L.c2)).setCell ⟨w.heap.size + 1, 4, none⟩ (.slice L.a3 M.ends.length L.c3)) M L
    ∧ Own2 (((((X.setCell ⟨w.heap.size + 1, 0, none⟩ (.int .i64 M.st)).setCell ⟨w.heap.size + 1, 1, none⟩ (.int .i64 M.ev)).setCell ⟨w.heap.size + 1, 2, none⟩ (.slice L.a1 M.starts.length L.c1)).setCell ⟨w.heap.size + 1, 3, none⟩ (.slice L.a2 M.arrows.length L.c2)).setCell ⟨w.heap.size + 1, 4, none⟩ (.slice L.a3 M.ends.length L.c3)) (w.heap.size + 2) vr LL
    ∧ Below w.heap.size w (((((X.setCell ⟨w.heap.size + 1, 0, none⟩ (.int .i64 M.st)).setCell ⟨w.heap.size + 1, 1, none⟩ (.int .i64 M.ev)).setCell ⟨w.heap.size + 1, 2, none⟩ (.slice L.a1 M.starts.length L.c1)).setCell ⟨w.heap.size + 1, 3, none⟩ (.slice L.a2 M.arrows.length L.c2)).setCell ⟨w.heap.size + 1, 4, none⟩ (.slice L.a3 M.ends.length L.c3)) := by
  refine ⟨hr.set5 _ _ _ _ _, hM.set5 hF (by omega) _ _ _ _ _, ?_, below_set5 hb (b' := w.heap.size + 1) (by omega) _ _ _ _ _⟩
  have o1 := hO.setM (j := 0) hr (by omega) (.int .i64 M.st)
  have r1 := hr.set 0 (.int .i64 M.st)
  have o2 := o1.setM (j := 1) r1 (by omega) (.int .i64 M.ev)
  have r2 := r1.set 1 (.int .i64 M.ev)
  have o3 := o2.setM (j := 2) r2 (by omega) (.slice L.a1 M.starts.length L.c1)
  have r3 := r2.set 2 (.slice L.a1 M.starts.length L.c1)
  have o4 := o3.setM (j := 3) r3 (by omega) (.slice L.a2 M.arrows.length L.c2)
  have r4 := r3.set 3 (.slice L.a2 M.arrows.length L.c2)
  exact o4.setM (j := 4) r4 (by omega) (.slice L.a3 M.ends.length L.c3)

/-- What Make knows behind find. -/
structure DB (w X : World) (m : Mach) (l : ML) (vs va : Value) (SL : List (Nat → Nat)) (A : List Arr) : Prop where
  bel : Below w.heap.size w X
  kb : Blk X w.heap.size 25 (mcells m l)
  rb : Blk X (w.heap.size + 1) 25 zcells
  ss : OwnS X (w.heap.size + 2) vs SL
  ar : OwnA X (w.heap.size + 2) va A
  tab : Tab X
theorem DB.below {w X X' : World} {m : Mach} {l : ML} {vs va : Value} {SL : List (Nat → Nat)} {A : List Arr} (h : DB w X m l vs va SL A) (hb : Below X.heap.size X X') : DB w X' m l vs va SL A :=
  ⟨h.bel.trans (hb.mono h.bel.size), h.kb.below hb h.kb.lt, h.rb.below hb h.rb.lt, own_same h.ss (fun k hk => hb.block k (World.ownsRow.lt h.ss k hk).2), h.ar.kept hb (Nat.le_refl _), h.tab.below hb h.tab.lt⟩
theorem DB.cells {w X : World} {m : Mach} {l : ML} {vs va : Value} {SL : List (Nat → Nat)} {A : List Arr} (h : DB w X m l vs va SL A) : X.cell? ⟨w.heap.size, 1, none⟩ = some (.int .i64 m.ev) ∧ X.cell? ⟨w.heap.size, 4, none⟩ = some (.slice l.a3 m.ends.length l.c3) := ⟨h.kb.cell 1 rfl, h.kb.cell 4 rfl⟩
theorem ownsRow_low {W : World} {B B' s n : Nat} {e : TypeId} {v : Value} {xs : List Value} (h : W.ownsRow B e s v n xs) (hB : B' ≤ B) : W.ownsRow B' e s v n xs := by
  refine ⟨h.1, ?_⟩
  rcases h.2 with hn | ⟨g, cap, cur, rfl, hg, rest⟩
  · exact .inl hn
  · exact .inr ⟨g, cap, cur, rfl, Nat.le_trans hB hg, rest⟩
theorem Own2.low {W : World} {B B' : Nat} {v : Value} {LL : List (List Int)} (h : Own2 W B v LL) (hB : B' ≤ B) : Own2 W B' v LL := by
  obtain ⟨vs, ho, hi⟩ := h
  exact ⟨vs, ownsRow_low ho hB, hi⟩

end Go.Proofs.YtbdkaobbfmgnhaaDoor
namespace Go.Proofs.YtbdkaobbfmgnhaaDoor
open Go.RowKit
set_option linter.unusedVariables false

/-- What is seen of a word. -/
def seenL (seen word : List Int) : List Int := word.filter fun n => hasB seen n == true

/-- One arrow more. -/
def wAdd (seen : List Int) (x : Int) (l : List Int) (a : Arr) : List Int := if (decide (a.f = x) && (!hasB seen a.e && !hasB l a.t)) = true then l ++ [a.t] else l
def wRow (ars : List Arr) (seen : List Int) (x : Int) (l : List Int) : List Int := ars.foldl (wAdd seen x) l
def wGo (ars : List Arr) (seen : List Int) : Nat → Nat → List Int → List Int
  | 0, _, l => l
  | f + 1, k, l => if k < l.length then wGo ars seen f (k + 1) (wRow ars seen (l[k]?.getD 0) l) else l
def wideL (ars : List Arr) (seen ss : List Int) : List Int := srt (wGo ars seen (ss.length + 256) 0 ss)

/-- How a list has grown. -/
def WB (ss l : List Int) : Prop := ∃ t, l = ss ++ t ∧ t.Nodup ∧ ∀ x ∈ t, 0 ≤ x ∧ x < (256 : Nat)
theorem WB.refl (ss : List Int) : WB ss ss := ⟨[], by simp, by simp, by simp⟩
theorem WB.len {ss l : List Int} (h : WB ss l) : l.length ≤ ss.length + 256 := by
  obtain ⟨t, rfl, h1, h2⟩ := h
  have := nodup_len 256 t h1 h2
  rw [List.length_append]; omega
theorem WB.add {ss l : List Int} (h : WB ss l) {seen : List Int} {x : Int} {a : Arr} (ha : 0 ≤ a.t ∧ a.t < (256 : Nat)) : WB ss (wAdd seen x l a) := by
  unfold wAdd
  split
  · rename_i hc
    obtain ⟨t, rfl, h1, h2⟩ := h
    have hn : a.t ∉ ss ++ t := by
      intro hm
      rw [(hasB_iff _ _).2 hm] at hc
      simp at hc
    refine ⟨t ++ [a.t], by rw [List.append_assoc], ?_, ?_⟩
    · rw [List.nodup_append]
      exact ⟨h1, by simp, fun y hy z hz e => by simp at hz; subst hz; subst e; exact hn (by simp [hy])⟩
    · intro y hy
      rcases List.mem_append.1 hy with hy | hy
      · exact h2 y hy
      · have : y = a.t := by simpa using hy
        rw [this]; exact ha
  · exact h
theorem wAdd_pre (seen : List Int) (x : Int) (l : List Int) (a : Arr) : ∃ t, wAdd seen x l a = l ++ t := by
  unfold wAdd; split
  · exact ⟨_, rfl⟩
  · exact ⟨[], by simp⟩
theorem wRow_pre (seen : List Int) (x : Int) : ∀ (ars : List Arr) (l : List Int), ∃ t, wRow ars seen x l = l ++ t
  | [], l => ⟨[], by simp [wRow]⟩
  | a :: r, l => by
    obtain ⟨t, h⟩ := wAdd_pre seen x l a
    obtain ⟨u, h'⟩ := wRow_pre seen x r (wAdd seen x l a)
    exact ⟨t ++ u, by show wRow r seen x (wAdd seen x l a) = _; rw [h', h, List.append_assoc]⟩
end Go.Proofs.YtbdkaobbfmgnhaaDoor
