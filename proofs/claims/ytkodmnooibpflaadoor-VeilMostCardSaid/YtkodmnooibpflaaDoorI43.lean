/-
  The walks of keeper.next and keeper.able.
  The walk of keeper.able.
-/
import Derived.Test.YtkodmnooibpflaaDoorI15
import Derived.Test.YtkodmnooibpflaaDoorI42
import Derived.Test.YtkodmnooibpflaaDoorESpread
import Derived.Test.YtkodmnooibpflaaDoorI10
import Derived.Test.YtkodmnooibpflaaDoorI18
namespace Go.Proofs.YtkodmnooibpflaaDoor
open Go.RowKit Go.Shelf
set_option linter.unusedVariables false
attribute [local go_sem] Oper.semAt_some

theorem regQ_inV {φ : Act → World → Prop} : ¬ LetsOut (regQ φ) := fun ⟨_, _, h⟩ => h
theorem cell_set4V {Y : World} {b c j : Nat} (h : b ≠ c) (v0 v1 v2 v3 : Value) : ((((Y.setCell ⟨c, 0, none⟩ v0).setCell ⟨c, 1, none⟩ v1).setCell ⟨c, 2, none⟩ v2).setCell ⟨c, 3, none⟩ v3).cell? ⟨b, j, none⟩ = Y.cell? ⟨b, j, none⟩ := by
 unfold World.cell?
 rw [Below.heap_setCell _ _ _ _ (show b ≠ c from h), Below.heap_setCell _ _ _ _ (show b ≠ c from h), Below.heap_setCell _ _ _ _ (show b ≠ c from h), Below.heap_setCell _ _ _ _ (show b ≠ c from h)]

set_option maxRecDepth 100000 in
set_option maxHeartbeats 8000000 in
theorem knext_in (S : Nat → Nat) (hS : okS S) (e : Nat) (he8 : e < 8) (p : Plant) (P : PTL) (fa : Option Addr) (fc : Nat) (free : List Int) (R : Nat → Nat) (T : Nat → Nat → Nat) (mb : Nat) (hTok : Hid (∀ p, okS (T p))) (hall : ∀ k ∈ allS S, k < 6) (kb : Nat) (w : World) (hT : Tab w) (hK : KV w kb p P fa fc free R T mb) :
  CallsIn Fence.wide 5 Tryd.prog 119 #[.pointer (some ⟨kb, 0, none⟩), sval S, .int .i64 e] w fun e' W' => e' = .returned (sval (toF (fun n => T (n * 8 + e)) (allS S))) ∧ Below w.heap.size w W' := by
 obtain ⟨xs, hxs⟩ := nb_of (N := 6) (allS S) hall
 clear hall
 refine callsIn_of_wp_marks Tryd.func119 rfl trivial ?_ rfl
 simp only [Tryd.ntmps119, List.size_toArray, List.length_cons, List.length_nil, Nat.reduceAdd, Nat.reduceSub, Array.replicate_succ, Array.replicate_zero, List.push_toArray, List.append_toArray, List.nil_append, List.cons_append]
 gi_wp2_with (refine ⟨trivial, ?_⟩; refine CallsIn.mono (callsIn_wide.2 (all_any S _)) ?_; rintro e1 w1 ⟨rfl, rfl⟩)
 have hB0 : Below w.heap.size w ((((((w.alloc (.cells #[.pointer (some ⟨kb, 0, none⟩)] 114)).alloc (.cells (scells S) 79)).alloc (.cells #[.int .i64 e] 3)).alloc (.cells #[.int .u64 0, .int .u64 0, .int .u64 0, .int .u64 0] 79)).alloc (.cells #[.int .u64 0, .int .u64 0, .int .u64 0, .int .u64 0] 79)).alloc (.cells (scells S) 79)) := (((((((Below.refl _ _).alloc (Nat.le_refl _) _).alloc (by simp) _).alloc (by simp; omega) _).alloc (by simp; omega) _).alloc (by simp; omega) _).alloc (by simp; omega) _)
 have bK : Boxed ((((((w.alloc (.cells #[.pointer (some ⟨kb, 0, none⟩)] 114)).alloc (.cells (scells S) 79)).alloc (.cells #[.int .i64 e] 3)).alloc (.cells #[.int .u64 0, .int .u64 0, .int .u64 0, .int .u64 0] 79)).alloc (.cells #[.int .u64 0, .int .u64 0, .int .u64 0, .int .u64 0] 79)).alloc (.cells (scells S) 79)) w.heap.size 114 (.pointer (some ⟨kb, 0, none⟩)) := ((((((Boxed.new w 114 (.pointer (some ⟨kb, 0, none⟩))).alloc (.cells (scells S) 79)).alloc (.cells #[.int .i64 e] 3)).alloc (.cells #[.int .u64 0, .int .u64 0, .int .u64 0, .int .u64 0] 79)).alloc (.cells #[.int .u64 0, .int .u64 0, .int .u64 0, .int .u64 0] 79)).alloc (.cells (scells S) 79))
 have bX : Boxed ((((((w.alloc (.cells #[.pointer (some ⟨kb, 0, none⟩)] 114)).alloc (.cells (scells S) 79)).alloc (.cells #[.int .i64 e] 3)).alloc (.cells #[.int .u64 0, .int .u64 0, .int .u64 0, .int .u64 0] 79)).alloc (.cells #[.int .u64 0, .int .u64 0, .int .u64 0, .int .u64 0] 79)).alloc (.cells (scells S) 79)) (w.heap.size + 1 + 1) 3 (.int .i64 e) := by
  have := ((((Boxed.new ((w.alloc (.cells #[.pointer (some ⟨kb, 0, none⟩)] 114)).alloc (.cells (scells S) 79)) 3 (.int .i64 e)).alloc (.cells #[.int .u64 0, .int .u64 0, .int .u64 0, .int .u64 0] 79)).alloc (.cells #[.int .u64 0, .int .u64 0, .int .u64 0, .int .u64 0] 79)).alloc (.cells (scells S) 79))
  rwa [World.size_alloc, World.size_alloc] at this
 have bR : SB ((((((w.alloc (.cells #[.pointer (some ⟨kb, 0, none⟩)] 114)).alloc (.cells (scells S) 79)).alloc (.cells #[.int .i64 e] 3)).alloc (.cells #[.int .u64 0, .int .u64 0, .int .u64 0, .int .u64 0] 79)).alloc (.cells #[.int .u64 0, .int .u64 0, .int .u64 0, .int .u64 0] 79)).alloc (.cells (scells S) 79)) (w.heap.size + 1 + 1 + 1) zeroS := by
  have := (((Blk.new (((w.alloc (.cells #[.pointer (some ⟨kb, 0, none⟩)] 114)).alloc (.cells (scells S) 79)).alloc (.cells #[.int .i64 e] 3)) 79 #[.int .u64 0, .int .u64 0, .int .u64 0, .int .u64 0]).alloc (.cells #[.int .u64 0, .int .u64 0, .int .u64 0, .int .u64 0] 79)).alloc (.cells (scells S) 79))
  rwa [World.size_alloc, World.size_alloc, World.size_alloc] at this
 have bO : SB ((((((w.alloc (.cells #[.pointer (some ⟨kb, 0, none⟩)] 114)).alloc (.cells (scells S) 79)).alloc (.cells #[.int .i64 e] 3)).alloc (.cells #[.int .u64 0, .int .u64 0, .int .u64 0, .int .u64 0] 79)).alloc (.cells #[.int .u64 0, .int .u64 0, .int .u64 0, .int .u64 0] 79)).alloc (.cells (scells S) 79)) (w.heap.size + 1 + 1 + 1 + 1) zeroS := by
  have := ((Blk.new ((((w.alloc (.cells #[.pointer (some ⟨kb, 0, none⟩)] 114)).alloc (.cells (scells S) 79)).alloc (.cells #[.int .i64 e] 3)).alloc (.cells #[.int .u64 0, .int .u64 0, .int .u64 0, .int .u64 0] 79)) 79 #[.int .u64 0, .int .u64 0, .int .u64 0, .int .u64 0]).alloc (.cells (scells S) 79))
  rwa [World.size_alloc, World.size_alloc, World.size_alloc, World.size_alloc] at this
 have bN : SB ((((((w.alloc (.cells #[.pointer (some ⟨kb, 0, none⟩)] 114)).alloc (.cells (scells S) 79)).alloc (.cells #[.int .i64 e] 3)).alloc (.cells #[.int .u64 0, .int .u64 0, .int .u64 0, .int .u64 0] 79)).alloc (.cells #[.int .u64 0, .int .u64 0, .int .u64 0, .int .u64 0] 79)).alloc (.cells (scells S) 79)) (w.heap.size + 1 + 1 + 1 + 1 + 1) S := by
  have := (Blk.new (((((w.alloc (.cells #[.pointer (some ⟨kb, 0, none⟩)] 114)).alloc (.cells (scells S) 79)).alloc (.cells #[.int .i64 e] 3)).alloc (.cells #[.int .u64 0, .int .u64 0, .int .u64 0, .int .u64 0] 79)).alloc (.cells #[.int .u64 0, .int .u64 0, .int .u64 0, .int .u64 0] 79)) 79 (scells S))
  rwa [World.size_alloc, World.size_alloc, World.size_alloc, World.size_alloc, World.size_alloc] at this
 have hsz0 : ((((((w.alloc (.cells #[.pointer (some ⟨kb, 0, none⟩)] 114)).alloc (.cells (scells S) 79)).alloc (.cells #[.int .i64 e] 3)).alloc (.cells #[.int .u64 0, .int .u64 0, .int .u64 0, .int .u64 0] 79)).alloc (.cells #[.int .u64 0, .int .u64 0, .int .u64 0, .int .u64 0] 79)).alloc (.cells (scells S) 79)).heap.size = w.heap.size + 6 := by simp
 revert hB0 bK bX bR bO bN hsz0
 generalize ((((((w.alloc (.cells #[.pointer (some ⟨kb, 0, none⟩)] 114)).alloc (.cells (scells S) 79)).alloc (.cells #[.int .i64 e] 3)).alloc (.cells #[.int .u64 0, .int .u64 0, .int .u64 0, .int .u64 0] 79)).alloc (.cells #[.int .u64 0, .int .u64 0, .int .u64 0, .int .u64 0] 79)).alloc (.cells (scells S) 79)) = W0
 intro hB0 bK bX bR bO bN hsz0
 have hT0 := hT.below hB0 hT.lt
 have hw0 := hT.lt
 refine wpIn_rangeFunc_ownG rfl (by omega) (gf := 131) (lb := #[.pointer (some ⟨w.heap.size + 1 + 1 + 1 + 1 + 1, 0, none⟩)]) rfl trivial (enters_of Tryd.func131 (by kernel_rfl) rfl)
  (all_stops 4 (by omega) (w.heap.size + 1 + 1 + 1 + 1 + 1) (w.heap.size + 4) S hS xs hxs (by omega) W0 (by omega) bN hT0) belowK_t (belowK_b (by omega)) (Below.refl _ _) (fun _ => rfl)
  (fun pre W' => SB W' (w.heap.size + 1 + 1 + 1 + 1) (toF (fun n => T (n * 8 + e)) (nbNats pre)) ∧ Below (w.heap.size + 4) W0 W')
  (fun _ _ _ => False)
  (OwnFrom.and (Go.Own.from (own_SB (w.heap.size + 1 + 1 + 1 + 1) (fun pre : List (NB 6) => toF (fun n => T (n * 8 + e)) (nbNats pre))) _) (ownFrom_below (by omega) (by omega)))
  (fun _ _ _ _ _ hs _ _ => hs)
  ⟨bO, Below.refl _ _⟩
  (fun x => { tmps := #[.pointer (some ⟨kb, 0, none⟩), sval S, .int .i64 e, .pointer (some ⟨w.heap.size, 0, none⟩), .pointer (some ⟨w.heap.size + 1, 0, none⟩), .pointer (some ⟨w.heap.size + 1 + 1, 0, none⟩), .pointer (some ⟨w.heap.size + 1 + 1 + 1, 0, none⟩), .pointer (some ⟨w.heap.size + 1 + 1 + 1 + 1, 0, none⟩), .int .i64 (x.1 : Int), sval S, .func (.func 131) #[] #[.pointer (some ⟨w.heap.size + 1 + 1 + 1 + 1 + 1, 0, none⟩)], .int .i64 (x.1 : Int), undef, undef, undef, undef, undef, undef, undef, undef, undef, undef, undef], defers := [] }) ?assign ?body ?done ?stop
 case assign =>
  intro l x W K hK
  gi_wp2
  exact hK
 case body =>
  rintro l' pre x W' ⟨hO, hB'⟩ hlt
  have hBW : Below w.heap.size w W' := hB0.trans (hB'.mono (by omega))
  have hKW := hK.below hBW hK.lt
  have c0 : W'.cell? ⟨w.heap.size, 0, none⟩ = some (.pointer (some ⟨kb, 0, none⟩)) := Boxed.cell ((hB'.block _ (by omega)).trans bK)
  have c1 : W'.cell? ⟨w.heap.size + 1 + 1, 0, none⟩ = some (.int .i64 e) := Boxed.cell ((hB'.block _ (by omega)).trans bX)
  have hx := x.2
  obtain ⟨n, hn⟩ : ∃ n, Hid (n = x.1) := ⟨_, rfl⟩
  rw [← hn.out] at hx ⊢
  obtain ⟨t0, t1, t2, t3⟩ := hKW.lead hx he8
  obtain ⟨o0, o1, o2, o3⟩ := hO.cells
  have fO := hO.frozen
  have mx : Tryd.prog.follows .mixedOrders = true := by kernel_rfl
  have hn0 : (0 : Int) ≤ (n : Int) := by omega
  have hnI : (n : Int) < 6 := by omega
  have he0 : (0 : Int) ≤ (e : Int) := by omega
  have heI : (e : Int) < 8 := by omega
  have hTp : Hid (okS (T (n * 8 + e))) := hTok.out _
  have hOd : Hid (SB W'.drew (w.heap.size + 1 + 1 + 1 + 1) (toF (fun n => T (n * 8 + e)) (nbNats pre))) := hO
  have HB := Hid.of hB'
  have HO := Hid.of hO
  have hOk : Hid (okS (toF (fun n => T (n * 8 + e)) (nbNats pre))) := ok_toF (fun _ => hTok.out _) _
  have HX : Hid (toF (fun n => T (n * 8 + e)) (nbNats (pre ++ [x])) = joinS (toF (fun n => T (n * 8 + e)) (nbNats pre)) (T (n * 8 + e))) := by show _ = _; rw [nbNats_snoc, toF_snoc, hn.out]
  obtain ⟨U, HU⟩ : ∃ U, Hid (U = T (n * 8 + e)) := ⟨_, rfl⟩
  rw [← HU.out] at hTp HX
  have SA : Hid (∀ X, Below W'.heap.size W' X → X.cell? ⟨w.heap.size, 0, none⟩ = some (.pointer (some ⟨kb, 0, none⟩)) ∧ X.cell? ⟨w.heap.size + 1 + 1, 0, none⟩ = some (.int .i64 e) ∧ X.cell? ⟨kb, 12 + n * 32 + e * 4, none⟩ = some (.int .u64 (U 0)) ∧ X.cell? ⟨kb, 12 + n * 32 + e * 4 + 1, none⟩ = some (.int .u64 (U 1)) ∧ X.cell? ⟨kb, 12 + n * 32 + e * 4 + 2, none⟩ = some (.int .u64 (U 2)) ∧ X.cell? ⟨kb, 12 + n * 32 + e * 4 + 3, none⟩ = some (.int .u64 (U 3))) := fun X hb => by
   obtain ⟨z0, z1, z2, z3⟩ := (hKW.below hb hKW.lt).lead hx he8
   rw [← HU.out] at z0 z1 z2 z3
   exact ⟨(hb.cell (p := ⟨w.heap.size, 0, none⟩) (show w.heap.size < _ by have := HO.out.lt; omega)).trans c0, (hb.cell (p := ⟨w.heap.size + 1 + 1, 0, none⟩) (show w.heap.size + 1 + 1 < _ by have := HO.out.lt; omega)).trans c1, z0, z1, z2, z3⟩
  have HKW := Hid.of hKW
  have HC0 := Hid.of c0
  have HC1 := Hid.of c1
  have hkl : Hid (kb < w.heap.size) := hK.lt
  clear hKW hBW hB' hO c0 c1 t0 t1 t2 t3 o0 o1 o2 o3 fO mx hOd
  generalize toF (fun n => T (n * 8 + e)) (nbNats pre) = O at *
  gi_wp2_with fail
  refine Code.wpIn_mono (Q := regQ fun a' X => ∃ w2, Below W'.heap.size W' w2 ∧ X = ((((w2.setCell ⟨w.heap.size + 1 + 1 + 1 + 1, 0, none⟩ (.int .u64 (joinS O U 0))).setCell ⟨w.heap.size + 1 + 1 + 1 + 1, 1, none⟩ (.int .u64 (joinS O U 1))).setCell ⟨w.heap.size + 1 + 1 + 1 + 1, 2, none⟩ (.int .u64 (joinS O U 2))).setCell ⟨w.heap.size + 1 + 1 + 1 + 1, 3, none⟩ (.int .u64 (joinS O U 3)))) ?aft ?reg
  case reg =>
   refine wpIn_region_round (S := fun w' => w'.cell? ⟨w.heap.size, 0, none⟩ = some (.pointer (some ⟨kb, 0, none⟩)) ∧ w'.cell? ⟨w.heap.size + 1 + 1, 0, none⟩ = some (.int .i64 e) ∧ w'.cell? ⟨kb, 12 + n * 32 + e * 4, none⟩ = some (.int .u64 (U 0)) ∧ w'.cell? ⟨kb, 12 + n * 32 + e * 4 + 1, none⟩ = some (.int .u64 (U 1)) ∧ w'.cell? ⟨kb, 12 + n * 32 + e * 4 + 2, none⟩ = some (.int .u64 (U 2)) ∧ w'.cell? ⟨kb, 12 + n * 32 + e * 4 + 3, none⟩ = some (.int .u64 (U 3))) (by kernel_rfl) (noDefer_spec (by kernel_rfl)) regQ_inV (SA.out _ (Below.refl _ _).drew) (fun hS => ?_)
   have BF : Hid (Below W'.heap.size W' W'.drew) := (Below.refl _ _).drew
   revert hS BF
   generalize W'.drew = Y0
   intro hS BF
   refine tkH 1 (.pointer (some ⟨kb, 0, none⟩)) rfl (fun w' hw' => by obtain ⟨q0, q1, q2, q3, q4, q5⟩ := hw'; go_simp) hS ?_
   refine tkH 2 (.int .i64 (n : Int)) rfl (fun w' hw' => by obtain ⟨q0, q1, q2, q3, q4, q5⟩ := hw'; go_simp) hS ?_
   refine tkH 3 (.int .i64 (e : Int)) rfl (fun w' hw' => by obtain ⟨q0, q1, q2, q3, q4, q5⟩ := hw'; go_simp) hS ?_
   refine tkH 4 (.pointer (some ⟨kb, 0, none⟩)) rfl (fun w' hw' => by obtain ⟨q0, q1, q2, q3, q4, q5⟩ := hw'; go_simp) hS ?_
   refine tkH 5 (.pointer (some ⟨kb, 12, none⟩)) rfl (fun w' hw' => by obtain ⟨q0, q1, q2, q3, q4, q5⟩ := hw'; go_simp) hS ?_
   refine tkH 6 (.pointer (some ⟨kb, 12 + n * 32, none⟩)) rfl (fun w' hw' => by obtain ⟨q0, q1, q2, q3, q4, q5⟩ := hw'; go_simp) hS ?_
   refine tkH 7 (.pointer (some ⟨kb, 12 + n * 32 + e * 4, none⟩)) rfl (fun w' hw' => by obtain ⟨q0, q1, q2, q3, q4, q5⟩ := hw'; go_simp) hS ?_
   refine tkH 8 (sval U) rfl (fun w' hw' => by obtain ⟨q0, q1, q2, q3, q4, q5⟩ := hw'; go_simp) hS ?_
   simp only [Act.put, List.setIfInBounds_toArray]
   refine wpAnyH_ready (rs := [0]) (by kernel_rfl) (by simp) ?_
   refine AllReadyH.cons rfl (fun K' hK' => ?_) AllReadyH.nil
   clear hS
   have u := SB.cells (HO.out.below BF.out HO.out.lt)
   have o0 := u.1
   have o1 := u.2.1
   have o2 := u.2.2.1
   have o3 := u.2.2.2
   clear u
   go_simp
   refine hK'.out _ _ (SA.out _ BF.out) (fun hS => ?_)
   clear hK' K' o0 o1 o2 o3
   refine wpAnyH_ready (rs := [9]) (by kernel_rfl) (by simp) ?_
   refine AllReadyH.cons rfl (fun K' hK' => ?_) AllReadyH.nil
   clear hS
   go_simp
   refine (join_any O U Y0 hOk.out hTp.out).mono ?_
   rintro e Y5 ⟨rfl, hb⟩
   replace BF := Hid.of (BF.out.trans (hb.mono BF.out.size))
   refine hK'.out _ _ (SA.out _ BF.out) (fun hS => ?_)
   clear hK' K' hb
   refine wpAnyH_ready (rs := [10]) (by kernel_rfl) (by simp) ?_
   refine AllReadyH.cons rfl (fun K' hK' => ?_) AllReadyH.nil
   clear hS
   have KO := HO.out.below BF.out HO.out.lt
   have fO := KO.frozen
   have u := SB.cells KO
   have o0 := u.1
   have o1 := u.2.1
   have o2 := u.2.2.1
   have o3 := u.2.2.2
   clear u
   go_simp
   have hs := SA.out _ BF.out
   have z0 := hs.1
   have z1 := hs.2.1
   have z2 := hs.2.2.1
   have z3 := hs.2.2.2.1
   have z4 := hs.2.2.2.2.1
   have z5 := hs.2.2.2.2.2
   have hkb := hkl.out
   have NE : ∀ (b j : Nat), b ≠ w.heap.size + 1 + 1 + 1 + 1 → ((((Y5.setCell ⟨w.heap.size + 1 + 1 + 1 + 1, 0, none⟩ (.int .u64 (joinS O U 0))).setCell ⟨w.heap.size + 1 + 1 + 1 + 1, 1, none⟩ (.int .u64 (joinS O U 1))).setCell ⟨w.heap.size + 1 + 1 + 1 + 1, 2, none⟩ (.int .u64 (joinS O U 2))).setCell ⟨w.heap.size + 1 + 1 + 1 + 1, 3, none⟩ (.int .u64 (joinS O U 3))).cell? ⟨b, j, none⟩ = Y5.cell? ⟨b, j, none⟩ := fun b j hne => cell_set4V hne (.int .u64 (joinS O U 0)) (.int .u64 (joinS O U 1)) (.int .u64 (joinS O U 2)) (.int .u64 (joinS O U 3))
   refine hK'.out _ _ ⟨(NE _ _ (by omega)).trans z0, (NE _ _ (by omega)).trans z1, (NE _ _ (by omega)).trans z2, (NE _ _ (by omega)).trans z3, (NE _ _ (by omega)).trans z4, (NE _ _ (by omega)).trans z5⟩ (fun hS => ?_)
   clear hK' K'
   refine wpAnyH_done (by kernel_rfl) ?_ _
   exact ⟨Y5, BF.out, rfl⟩
  case aft =>
   refine regQ_imp ?_
   rintro a' X ⟨w2, HB2, rfl⟩
   have hO2 := HO.out.below HB2 HO.out.lt
   have k1 : KeepsOthers W' w2 := ⟨HB2.size, fun k o hk _ => (HB2.block k (Array.getElem?_eq_some_iff.1 hk).1).trans hk⟩
   have k2 : Below (w.heap.size + 4) W' w2 := HB2.mono (Nat.le_of_lt HO.out.lt)
   have k3 := below_set4 k2 (b' := w.heap.size + 1 + 1 + 1 + 1) (Nat.le_refl _) (.int .u64 (joinS O U 0)) (.int .u64 (joinS O U 1)) (.int .u64 (joinS O U 2)) (.int .u64 (joinS O U 3))
   gi_wp2_with fail
   exact ⟨((((k1.trans (KeepsOthers.setCell _ _ _)).trans (KeepsOthers.setCell _ _ _)).trans (KeepsOthers.setCell _ _ _)).trans (KeepsOthers.setCell _ _ _)).from _, k3, by rw [HX.out]; exact SB.set4 hO2 _, HB.out.trans k3⟩
 case done =>
  rintro D ys W' hD rfl ⟨hO, hB'⟩ hK
  have hBW : Below w.heap.size w W' := hB0.trans (hB'.mono (by omega))
  obtain ⟨o0, o1, o2, o3⟩ := hO.cells
  have HQ : Hid (toF (fun n => T (n * 8 + e)) (nbNats ys) = toF (fun n => T (n * 8 + e)) (allS S)) := by show _ = _; rw [← hxs]; rfl
  have hres := bR.below hB' (by omega)
  obtain ⟨r0, r1, r2, r3⟩ := SB.cells hres
  have rz := hres.frozen
  have k2 := Hid.of (SB.set4 hres (toF (fun n => T (n * 8 + e)) (nbNats ys)))
  have k3 := Hid.of (below_set4 hBW (b' := w.heap.size + 1 + 1 + 1) (by omega) (.int .u64 (toF (fun n => T (n * 8 + e)) (nbNats ys) 0)) (.int .u64 (toF (fun n => T (n * 8 + e)) (nbNats ys) 1)) (.int .u64 (toF (fun n => T (n * 8 + e)) (nbNats ys) 2)) (.int .u64 (toF (fun n => T (n * 8 + e)) (nbNats ys) 3)))
  have hMk : Marks w.heap.size [D] W' := by
   refine ⟨fun D' hD' => ?_, by simp⟩
   have e : D' = D := by simpa using hD'
   rw [e]
   exact ⟨by omega, hK⟩
  have k4 := Hid.of (hMk.other4 hres (toF (fun n => T (n * 8 + e)) (nbNats ys)))
  clear hMk
  clear hO hBW hB' hres hK
  generalize toF (fun n => T (n * 8 + e)) (nbNats ys) = O at *
  gi_wp2
  refine leaves_marks (B := w.heap.size) (fun W => SB W (w.heap.size + 1 + 1 + 1) O ∧ Below w.heap.size w W) ?hJ ?hfin [D] _ k4.out ⟨k2.out, k3.out⟩
  case hJ =>
   rintro W D ⟨h1, h2⟩ hD hk
   refine ⟨(World.putObj_heap_other (fun e => ?_)).trans h1, h2.trans (belowK_b (w := w) (Nat.le_refl _) W D _ _ hD hk rfl rfl)⟩
   have h3 : W.heap[w.heap.size + 1 + 1 + 1]? = _ := h1
   rw [e, hk] at h3
   cases h3
  case hfin =>
   rintro W ⟨h1, h2⟩
   exact ⟨_, results_cell_row (g := w.heap.size + 1 + 1 + 1) (p := 6) rfl _ _ _ _ _ _ rfl h1 Tryd.underlying79 rfl (by kernel_rfl), by rw [← HQ.out], h2⟩
 case stop =>
  rintro D c pre W _ _ h _
  exact h.elim

theorem knext_any (S : Nat → Nat) (hS : okS S) (e : Nat) (he8 : e < 8) (p : Plant) (P : PTL) (fa : Option Addr) (fc : Nat) (free : List Int) (R : Nat → Nat) (T : Nat → Nat → Nat) (mb : Nat) (hTok : ∀ p, okS (T p)) (hall : ∀ k ∈ allS S, k < 6) (kb : Nat) (w : World) (hT : Tab w) (hK : KV w kb p P fa fc free R T mb) :
  Calls Tryd.prog 119 #[.pointer (some ⟨kb, 0, none⟩), sval S, .int .i64 e] w fun e' W' => e' = .returned (sval (toF (fun n => T (n * 8 + e)) (allS S))) ∧ Below w.heap.size w W' :=
 callsIn_wide.1 (knext_in S hS e he8 p P fa fc free R T mb hTok hall kb w hT hK)

end Go.Proofs.YtkodmnooibpflaaDoor
namespace Go.Proofs.YtkodmnooibpflaaDoor
open Go.RowKit Go.Shelf
set_option linter.unusedVariables false
attribute [local go_sem] Oper.semAt_some

set_option maxRecDepth 100000 in
set_option maxHeartbeats 8000000 in
theorem kable_in (S : Nat → Nat) (hS : okS S) (e : Nat) (he8 : e < 8) (p : Plant) (P : PTL) (fa : Option Addr) (fc : Nat) (free : List Int) (R : Nat → Nat) (T : Nat → Nat → Nat) (mb : Nat) (hTok : Hid (∀ p, okS (T p))) (hall : ∀ k ∈ allS S, k < 6) (kb : Nat) (w : World) (hT : Tab w) (hK : KV w kb p P fa fc free R T mb) :
  CallsIn Fence.wide 5 Tryd.prog 149 #[.pointer (some ⟨kb, 0, none⟩), sval S, .int .i64 e] w fun e' W' => e' = .returned (sval (ableF T e (allS S))) ∧ Below w.heap.size w W' := by
 obtain ⟨xs, hxs⟩ := nb_of (N := 6) (allS S) hall
 clear hall
 refine callsIn_of_wp_marks Tryd.func149 rfl trivial ?_ rfl
 simp only [Tryd.ntmps149, List.size_toArray, List.length_cons, List.length_nil, Nat.reduceAdd, Nat.reduceSub, Array.replicate_succ, Array.replicate_zero, List.push_toArray, List.append_toArray, List.nil_append, List.cons_append]
 gi_wp2_with (refine ⟨trivial, ?_⟩; refine CallsIn.mono (callsIn_wide.2 (all_any S _)) ?_; rintro e1 w1 ⟨rfl, rfl⟩)
 have hB0 : Below w.heap.size w ((((((w.alloc (.cells #[.pointer (some ⟨kb, 0, none⟩)] 114)).alloc (.cells (scells S) 79)).alloc (.cells #[.int .i64 e] 3)).alloc (.cells #[.int .u64 0, .int .u64 0, .int .u64 0, .int .u64 0] 79)).alloc (.cells #[.int .u64 0, .int .u64 0, .int .u64 0, .int .u64 0] 79)).alloc (.cells (scells S) 79)) := (((((((Below.refl _ _).alloc (Nat.le_refl _) _).alloc (by simp) _).alloc (by simp; omega) _).alloc (by simp; omega) _).alloc (by simp; omega) _).alloc (by simp; omega) _)
 have bK : Boxed ((((((w.alloc (.cells #[.pointer (some ⟨kb, 0, none⟩)] 114)).alloc (.cells (scells S) 79)).alloc (.cells #[.int .i64 e] 3)).alloc (.cells #[.int .u64 0, .int .u64 0, .int .u64 0, .int .u64 0] 79)).alloc (.cells #[.int .u64 0, .int .u64 0, .int .u64 0, .int .u64 0] 79)).alloc (.cells (scells S) 79)) w.heap.size 114 (.pointer (some ⟨kb, 0, none⟩)) := ((((((Boxed.new w 114 (.pointer (some ⟨kb, 0, none⟩))).alloc (.cells (scells S) 79)).alloc (.cells #[.int .i64 e] 3)).alloc (.cells #[.int .u64 0, .int .u64 0, .int .u64 0, .int .u64 0] 79)).alloc (.cells #[.int .u64 0, .int .u64 0, .int .u64 0, .int .u64 0] 79)).alloc (.cells (scells S) 79))
 have bX : Boxed ((((((w.alloc (.cells #[.pointer (some ⟨kb, 0, none⟩)] 114)).alloc (.cells (scells S) 79)).alloc (.cells #[.int .i64 e] 3)).alloc (.cells #[.int .u64 0, .int .u64 0, .int .u64 0, .int .u64 0] 79)).alloc (.cells #[.int .u64 0, .int .u64 0, .int .u64 0, .int .u64 0] 79)).alloc (.cells (scells S) 79)) (w.heap.size + 1 + 1) 3 (.int .i64 e) := by
  have := ((((Boxed.new ((w.alloc (.cells #[.pointer (some ⟨kb, 0, none⟩)] 114)).alloc (.cells (scells S) 79)) 3 (.int .i64 e)).alloc (.cells #[.int .u64 0, .int .u64 0, .int .u64 0, .int .u64 0] 79)).alloc (.cells #[.int .u64 0, .int .u64 0, .int .u64 0, .int .u64 0] 79)).alloc (.cells (scells S) 79))
  rwa [World.size_alloc, World.size_alloc] at this
 have bR : SB ((((((w.alloc (.cells #[.pointer (some ⟨kb, 0, none⟩)] 114)).alloc (.cells (scells S) 79)).alloc (.cells #[.int .i64 e] 3)).alloc (.cells #[.int .u64 0, .int .u64 0, .int .u64 0, .int .u64 0] 79)).alloc (.cells #[.int .u64 0, .int .u64 0, .int .u64 0, .int .u64 0] 79)).alloc (.cells (scells S) 79)) (w.heap.size + 1 + 1 + 1) zeroS := by
  have := (((Blk.new (((w.alloc (.cells #[.pointer (some ⟨kb, 0, none⟩)] 114)).alloc (.cells (scells S) 79)).alloc (.cells #[.int .i64 e] 3)) 79 #[.int .u64 0, .int .u64 0, .int .u64 0, .int .u64 0]).alloc (.cells #[.int .u64 0, .int .u64 0, .int .u64 0, .int .u64 0] 79)).alloc (.cells (scells S) 79))
  rwa [World.size_alloc, World.size_alloc, World.size_alloc] at this
 have bO : SB ((((((w.alloc (.cells #[.pointer (some ⟨kb, 0, none⟩)] 114)).alloc (.cells (scells S) 79)).alloc (.cells #[.int .i64 e] 3)).alloc (.cells #[.int .u64 0, .int .u64 0, .int .u64 0, .int .u64 0] 79)).alloc (.cells #[.int .u64 0, .int .u64 0, .int .u64 0, .int .u64 0] 79)).alloc (.cells (scells S) 79)) (w.heap.size + 1 + 1 + 1 + 1) zeroS := by
  have := ((Blk.new ((((w.alloc (.cells #[.pointer (some ⟨kb, 0, none⟩)] 114)).alloc (.cells (scells S) 79)).alloc (.cells #[.int .i64 e] 3)).alloc (.cells #[.int .u64 0, .int .u64 0, .int .u64 0, .int .u64 0] 79)) 79 #[.int .u64 0, .int .u64 0, .int .u64 0, .int .u64 0]).alloc (.cells (scells S) 79))
  rwa [World.size_alloc, World.size_alloc, World.size_alloc, World.size_alloc] at this
 have bN : SB ((((((w.alloc (.cells #[.pointer (some ⟨kb, 0, none⟩)] 114)).alloc (.cells (scells S) 79)).alloc (.cells #[.int .i64 e] 3)).alloc (.cells #[.int .u64 0, .int .u64 0, .int .u64 0, .int .u64 0] 79)).alloc (.cells #[.int .u64 0, .int .u64 0, .int .u64 0, .int .u64 0] 79)).alloc (.cells (scells S) 79)) (w.heap.size + 1 + 1 + 1 + 1 + 1) S := by
  have := (Blk.new (((((w.alloc (.cells #[.pointer (some ⟨kb, 0, none⟩)] 114)).alloc (.cells (scells S) 79)).alloc (.cells #[.int .i64 e] 3)).alloc (.cells #[.int .u64 0, .int .u64 0, .int .u64 0, .int .u64 0] 79)).alloc (.cells #[.int .u64 0, .int .u64 0, .int .u64 0, .int .u64 0] 79)) 79 (scells S))
  rwa [World.size_alloc, World.size_alloc, World.size_alloc, World.size_alloc, World.size_alloc] at this
 have hsz0 : ((((((w.alloc (.cells #[.pointer (some ⟨kb, 0, none⟩)] 114)).alloc (.cells (scells S) 79)).alloc (.cells #[.int .i64 e] 3)).alloc (.cells #[.int .u64 0, .int .u64 0, .int .u64 0, .int .u64 0] 79)).alloc (.cells #[.int .u64 0, .int .u64 0, .int .u64 0, .int .u64 0] 79)).alloc (.cells (scells S) 79)).heap.size = w.heap.size + 6 := by simp
 revert hB0 bK bX bR bO bN hsz0
 generalize ((((((w.alloc (.cells #[.pointer (some ⟨kb, 0, none⟩)] 114)).alloc (.cells (scells S) 79)).alloc (.cells #[.int .i64 e] 3)).alloc (.cells #[.int .u64 0, .int .u64 0, .int .u64 0, .int .u64 0] 79)).alloc (.cells #[.int .u64 0, .int .u64 0, .int .u64 0, .int .u64 0] 79)).alloc (.cells (scells S) 79)) = W0
 intro hB0 bK bX bR bO bN hsz0
 have hT0 := hT.below hB0 hT.lt
 have hw0 := hT.lt
 refine wpIn_rangeFunc_ownG rfl (by omega) (gf := 131) (lb := #[.pointer (some ⟨w.heap.size + 1 + 1 + 1 + 1 + 1, 0, none⟩)]) rfl trivial (enters_of Tryd.func131 (by kernel_rfl) rfl)
  (all_stops 4 (by omega) (w.heap.size + 1 + 1 + 1 + 1 + 1) (w.heap.size + 4) S hS xs hxs (by omega) W0 (by omega) bN hT0) belowK_t (belowK_b (by omega)) (Below.refl _ _) (fun _ => rfl)
  (fun pre W' => SB W' (w.heap.size + 1 + 1 + 1 + 1) (ableF T e (nbNats pre)) ∧ Below (w.heap.size + 4) W0 W')
  (fun _ _ _ => False)
  (OwnFrom.and (Go.Own.from (own_SB (w.heap.size + 1 + 1 + 1 + 1) (fun pre : List (NB 6) => ableF T e (nbNats pre))) _) (ownFrom_below (by omega) (by omega)))
  (fun _ _ _ _ _ hs _ _ => hs)
  ⟨bO, Below.refl _ _⟩
  (fun x => { tmps := #[.pointer (some ⟨kb, 0, none⟩), sval S, .int .i64 e, .pointer (some ⟨w.heap.size, 0, none⟩), .pointer (some ⟨w.heap.size + 1, 0, none⟩), .pointer (some ⟨w.heap.size + 1 + 1, 0, none⟩), .pointer (some ⟨w.heap.size + 1 + 1 + 1, 0, none⟩), .pointer (some ⟨w.heap.size + 1 + 1 + 1 + 1, 0, none⟩), .int .i64 (x.1 : Int), sval S, .func (.func 131) #[] #[.pointer (some ⟨w.heap.size + 1 + 1 + 1 + 1 + 1, 0, none⟩)], .int .i64 (x.1 : Int), undef, undef, undef, undef, undef, undef, undef, undef, undef, undef, undef, undef, undef, undef], defers := [] }) ?assign ?body ?done ?stop
 case assign =>
  intro l x W K hK
  gi_wp2
  exact hK
 case body =>
  rintro l' pre x W' ⟨hO, hB'⟩ hlt
  have hBW : Below w.heap.size w W' := hB0.trans (hB'.mono (by omega))
  have hKW := hK.below hBW hK.lt
  have c0 : W'.cell? ⟨w.heap.size, 0, none⟩ = some (.pointer (some ⟨kb, 0, none⟩)) := Boxed.cell ((hB'.block _ (by omega)).trans bK)
  have c1 : W'.cell? ⟨w.heap.size + 1 + 1, 0, none⟩ = some (.int .i64 e) := Boxed.cell ((hB'.block _ (by omega)).trans bX)
  have hx := x.2
  obtain ⟨n, hn⟩ : ∃ n, Hid (n = x.1) := ⟨_, rfl⟩
  rw [← hn.out] at hx ⊢
  obtain ⟨t0, t1, t2, t3⟩ := hKW.lead hx he8
  obtain ⟨o0, o1, o2, o3⟩ := hO.cells
  have fO := hO.frozen
  have mx : Tryd.prog.follows .mixedOrders = true := by kernel_rfl
  have hn0 : (0 : Int) ≤ (n : Int) := by omega
  have hnI : (n : Int) < 6 := by omega
  have he0 : (0 : Int) ≤ (e : Int) := by omega
  have heI : (e : Int) < 8 := by omega
  have hTp : Hid (okS (T (n * 8 + e))) := hTok.out _
  have hOd : Hid (SB W'.drew (w.heap.size + 1 + 1 + 1 + 1) (ableF T e (nbNats pre))) := hO
  have HB := Hid.of hB'
  have HO := Hid.of hO
  have hOk : Hid (okS (ableF T e (nbNats pre))) := ok_ableF T _ _
  have HX : Hid (ableF T e (nbNats (pre ++ [x])) = if emptyB (T (n * 8 + e)) = true then ableF T e (nbNats pre) else withS (ableF T e (nbNats pre)) n) := by show _ = _; rw [nbNats_snoc, ableF_snoc, hn.out]
  obtain ⟨U, HU⟩ : ∃ U, Hid (U = T (n * 8 + e)) := ⟨_, rfl⟩
  rw [← HU.out] at hTp HX
  have SA : Hid (∀ X, Below W'.heap.size W' X → X.cell? ⟨w.heap.size, 0, none⟩ = some (.pointer (some ⟨kb, 0, none⟩)) ∧ X.cell? ⟨w.heap.size + 1 + 1, 0, none⟩ = some (.int .i64 e) ∧ X.cell? ⟨kb, 12 + n * 32 + e * 4, none⟩ = some (.int .u64 (U 0)) ∧ X.cell? ⟨kb, 12 + n * 32 + e * 4 + 1, none⟩ = some (.int .u64 (U 1)) ∧ X.cell? ⟨kb, 12 + n * 32 + e * 4 + 2, none⟩ = some (.int .u64 (U 2)) ∧ X.cell? ⟨kb, 12 + n * 32 + e * 4 + 3, none⟩ = some (.int .u64 (U 3))) := fun X hb => by
   obtain ⟨z0, z1, z2, z3⟩ := (hKW.below hb hKW.lt).lead hx he8
   rw [← HU.out] at z0 z1 z2 z3
   exact ⟨(hb.cell (p := ⟨w.heap.size, 0, none⟩) (show w.heap.size < _ by have := HO.out.lt; omega)).trans c0, (hb.cell (p := ⟨w.heap.size + 1 + 1, 0, none⟩) (show w.heap.size + 1 + 1 < _ by have := HO.out.lt; omega)).trans c1, z0, z1, z2, z3⟩
  have HKW := Hid.of hKW
  have HC0 := Hid.of c0
  have HC1 := Hid.of c1
  have hkl : Hid (kb < w.heap.size) := hK.lt
  clear hKW hBW hB' hO c0 c1 t0 t1 t2 t3 o0 o1 o2 o3 fO mx hOd
  generalize ableF T e (nbNats pre) = O at *
  have hgd := run_guard_set
  gi_wp2_with fail
  cases hE : emptyB U with
  | true =>
   have heq : ∀ V, (Op.equalIn 10000 79 (.agg #[.int .u64 (U 0), .int .u64 (U 1), .int .u64 (U 2), .int .u64 (U 3)]) (.agg #[.int .u64 0, .int .u64 0, .int .u64 0, .int .u64 0])).run Tryd.prog V = .ok true V := fun V => by rw [← hE]; exact run_equalIn_set U V
   have HXX : Hid (ableF T e (nbNats (pre ++ [x])) = O) := HX.out.trans (by rw [hE]; rfl)
   clear hE
   refine Code.wpIn_mono (Q := regQ fun a' X => a' = { tmps := #[.pointer (some ⟨kb, 0, none⟩), sval S, .int .i64 e, .pointer (some ⟨w.heap.size, 0, none⟩), .pointer (some ⟨w.heap.size + 1, 0, none⟩), .pointer (some ⟨w.heap.size + 1 + 1, 0, none⟩), .pointer (some ⟨w.heap.size + 1 + 1 + 1, 0, none⟩), .pointer (some ⟨w.heap.size + 1 + 1 + 1 + 1, 0, none⟩), .int .i64 (n : Int), sval S, .func (.func 131) #[] #[.pointer (some ⟨w.heap.size + 1 + 1 + 1 + 1 + 1, 0, none⟩)], .int .i64 (n : Int), .pointer (some ⟨kb, 0, none⟩), .int .i64 (n : Int), .int .i64 (e : Int), .pointer (some ⟨kb, 0, none⟩), .pointer (some ⟨kb, 12, none⟩), .pointer (some ⟨kb, 12 + n * 32, none⟩), .pointer (some ⟨kb, 12 + n * 32 + e * 4, none⟩), sval U, .agg #[.int .u64 0, .int .u64 0, .int .u64 0, .int .u64 0], .bool false, undef, undef, undef, undef], defers := [] } ∧ X = W'.drew) ?aft ?reg
   case reg =>
    refine wpIn_region_round (S := fun w' => w'.cell? ⟨w.heap.size, 0, none⟩ = some (.pointer (some ⟨kb, 0, none⟩)) ∧ w'.cell? ⟨w.heap.size + 1 + 1, 0, none⟩ = some (.int .i64 e) ∧ w'.cell? ⟨kb, 12 + n * 32 + e * 4, none⟩ = some (.int .u64 (U 0)) ∧ w'.cell? ⟨kb, 12 + n * 32 + e * 4 + 1, none⟩ = some (.int .u64 (U 1)) ∧ w'.cell? ⟨kb, 12 + n * 32 + e * 4 + 2, none⟩ = some (.int .u64 (U 2)) ∧ w'.cell? ⟨kb, 12 + n * 32 + e * 4 + 3, none⟩ = some (.int .u64 (U 3))) (by kernel_rfl) (noDefer_spec (by kernel_rfl)) regQ_inV (SA.out _ (Below.refl _ _).drew) (fun hS => ?_)
    obtain ⟨Y0, HYE⟩ : ∃ Y0, Hid (Y0 = W'.drew) := ⟨_, rfl⟩
    rw [← HYE.out] at hS ⊢
    refine tkH 0 (.pointer (some ⟨kb, 0, none⟩)) rfl (fun w' hw' => by obtain ⟨q0, q1, q2, q3, q4, q5⟩ := hw'; go_simp) hS ?_
    refine tkH 1 (.int .i64 (n : Int)) rfl (fun w' hw' => by obtain ⟨q0, q1, q2, q3, q4, q5⟩ := hw'; go_simp) hS ?_
    refine tkH 2 (.int .i64 (e : Int)) rfl (fun w' hw' => by obtain ⟨q0, q1, q2, q3, q4, q5⟩ := hw'; go_simp) hS ?_
    refine tkH 3 (.pointer (some ⟨kb, 0, none⟩)) rfl (fun w' hw' => by obtain ⟨q0, q1, q2, q3, q4, q5⟩ := hw'; go_simp) hS ?_
    refine tkH 4 (.pointer (some ⟨kb, 12, none⟩)) rfl (fun w' hw' => by obtain ⟨q0, q1, q2, q3, q4, q5⟩ := hw'; go_simp) hS ?_
    refine tkH 5 (.pointer (some ⟨kb, 12 + n * 32, none⟩)) rfl (fun w' hw' => by obtain ⟨q0, q1, q2, q3, q4, q5⟩ := hw'; go_simp) hS ?_
    refine tkH 6 (.pointer (some ⟨kb, 12 + n * 32 + e * 4, none⟩)) rfl (fun w' hw' => by obtain ⟨q0, q1, q2, q3, q4, q5⟩ := hw'; go_simp) hS ?_
    refine tkH 7 (sval U) rfl (fun w' hw' => by obtain ⟨q0, q1, q2, q3, q4, q5⟩ := hw'; go_simp) hS ?_
    refine tkH 8 (.agg #[.int .u64 0, .int .u64 0, .int .u64 0, .int .u64 0]) rfl (fun w' hw' => by obtain ⟨q0, q1, q2, q3, q4, q5⟩ := hw'; go_simp) hS ?_
    refine tkH 9 (.bool false) rfl (fun w' hw' => by obtain ⟨q0, q1, q2, q3, q4, q5⟩ := hw'; go_simp) hS ?_
    refine wpAnyH_done (by kernel_rfl) ?_ _
    exact ⟨by kernel_rfl, rfl⟩
   case aft =>
    refine regQ_imp ?_
    rintro a' X ⟨rfl, rfl⟩
    clear heq
    have k1 : KeepsOthers W' W'.drew := ⟨Nat.le_refl _, fun k o hk _ => hk⟩
    have k2 : Below (w.heap.size + 4) W' W'.drew := (Below.refl _ _).drew
    gi_wp2_with fail
    exact ⟨k1.from _, k2, by rw [HXX.out]; exact HO.out, HB.out.trans k2⟩
  | false =>
   have heq : ∀ V, (Op.equalIn 10000 79 (.agg #[.int .u64 (U 0), .int .u64 (U 1), .int .u64 (U 2), .int .u64 (U 3)]) (.agg #[.int .u64 0, .int .u64 0, .int .u64 0, .int .u64 0])).run Tryd.prog V = .ok false V := fun V => by rw [← hE]; exact run_equalIn_set U V
   have HXX : Hid (ableF T e (nbNats (pre ++ [x])) = withS O n) := HX.out.trans (by rw [hE]; rfl)
   clear hE
   refine Code.wpIn_mono (Q := regQ fun a' X => a' = { tmps := #[.pointer (some ⟨kb, 0, none⟩), sval S, .int .i64 e, .pointer (some ⟨w.heap.size, 0, none⟩), .pointer (some ⟨w.heap.size + 1, 0, none⟩), .pointer (some ⟨w.heap.size + 1 + 1, 0, none⟩), .pointer (some ⟨w.heap.size + 1 + 1 + 1, 0, none⟩), .pointer (some ⟨w.heap.size + 1 + 1 + 1 + 1, 0, none⟩), .int .i64 (n : Int), sval S, .func (.func 131) #[] #[.pointer (some ⟨w.heap.size + 1 + 1 + 1 + 1 + 1, 0, none⟩)], .int .i64 (n : Int), .pointer (some ⟨kb, 0, none⟩), .int .i64 (n : Int), .int .i64 (e : Int), .pointer (some ⟨kb, 0, none⟩), .pointer (some ⟨kb, 12, none⟩), .pointer (some ⟨kb, 12 + n * 32, none⟩), .pointer (some ⟨kb, 12 + n * 32 + e * 4, none⟩), sval U, .agg #[.int .u64 0, .int .u64 0, .int .u64 0, .int .u64 0], .bool true, undef, undef, undef, undef], defers := [] } ∧ X = W'.drew) ?aft ?reg
   case reg =>
    refine wpIn_region_round (S := fun w' => w'.cell? ⟨w.heap.size, 0, none⟩ = some (.pointer (some ⟨kb, 0, none⟩)) ∧ w'.cell? ⟨w.heap.size + 1 + 1, 0, none⟩ = some (.int .i64 e) ∧ w'.cell? ⟨kb, 12 + n * 32 + e * 4, none⟩ = some (.int .u64 (U 0)) ∧ w'.cell? ⟨kb, 12 + n * 32 + e * 4 + 1, none⟩ = some (.int .u64 (U 1)) ∧ w'.cell? ⟨kb, 12 + n * 32 + e * 4 + 2, none⟩ = some (.int .u64 (U 2)) ∧ w'.cell? ⟨kb, 12 + n * 32 + e * 4 + 3, none⟩ = some (.int .u64 (U 3))) (by kernel_rfl) (noDefer_spec (by kernel_rfl)) regQ_inV (SA.out _ (Below.refl _ _).drew) (fun hS => ?_)
    obtain ⟨Y0, HYE⟩ : ∃ Y0, Hid (Y0 = W'.drew) := ⟨_, rfl⟩
    rw [← HYE.out] at hS ⊢
    refine tkH 0 (.pointer (some ⟨kb, 0, none⟩)) rfl (fun w' hw' => by obtain ⟨q0, q1, q2, q3, q4, q5⟩ := hw'; go_simp) hS ?_
    refine tkH 1 (.int .i64 (n : Int)) rfl (fun w' hw' => by obtain ⟨q0, q1, q2, q3, q4, q5⟩ := hw'; go_simp) hS ?_
    refine tkH 2 (.int .i64 (e : Int)) rfl (fun w' hw' => by obtain ⟨q0, q1, q2, q3, q4, q5⟩ := hw'; go_simp) hS ?_
    refine tkH 3 (.pointer (some ⟨kb, 0, none⟩)) rfl (fun w' hw' => by obtain ⟨q0, q1, q2, q3, q4, q5⟩ := hw'; go_simp) hS ?_
    refine tkH 4 (.pointer (some ⟨kb, 12, none⟩)) rfl (fun w' hw' => by obtain ⟨q0, q1, q2, q3, q4, q5⟩ := hw'; go_simp) hS ?_
    refine tkH 5 (.pointer (some ⟨kb, 12 + n * 32, none⟩)) rfl (fun w' hw' => by obtain ⟨q0, q1, q2, q3, q4, q5⟩ := hw'; go_simp) hS ?_
    refine tkH 6 (.pointer (some ⟨kb, 12 + n * 32 + e * 4, none⟩)) rfl (fun w' hw' => by obtain ⟨q0, q1, q2, q3, q4, q5⟩ := hw'; go_simp) hS ?_
    refine tkH 7 (sval U) rfl (fun w' hw' => by obtain ⟨q0, q1, q2, q3, q4, q5⟩ := hw'; go_simp) hS ?_
    refine tkH 8 (.agg #[.int .u64 0, .int .u64 0, .int .u64 0, .int .u64 0]) rfl (fun w' hw' => by obtain ⟨q0, q1, q2, q3, q4, q5⟩ := hw'; go_simp) hS ?_
    refine tkH 9 (.bool true) rfl (fun w' hw' => by obtain ⟨q0, q1, q2, q3, q4, q5⟩ := hw'; go_simp) hS ?_
    refine wpAnyH_done (by kernel_rfl) ?_ _
    exact ⟨by kernel_rfl, rfl⟩
   case aft =>
    refine regQ_imp ?_
    rintro a' X ⟨rfl, rfl⟩
    clear heq
    have HOd : Hid (SB W'.drew (w.heap.size + 1 + 1 + 1 + 1) O) := HO.out
    have HBD : Hid (Below W'.heap.size W' W'.drew) := (Below.refl _ _).drew
    revert HOd HBD
    generalize W'.drew = Y0
    intro HOd HBD
    obtain ⟨o0, o1, o2, o3⟩ := SB.cells HOd.out
    gi_wp2_with (refine ⟨trivial, ?_⟩; refine CallsIn.mono (CallsIn.inRound l' (callsIn_wide.2 (with_any O (n : Int) _ hOk.out hn0 (by omega)))) ?_; rintro e' w2 ⟨rfl, hb2⟩; have hO2 := HOd.out.below hb2 HOd.out.lt; obtain ⟨y0, y1, y2, y3⟩ := SB.cells hO2; have fO2 := hO2.frozen; rw [Int.toNat_natCast])
    have HB2 : Below W'.heap.size W' w2 := HBD.out.trans (hb2.mono HBD.out.size)
    have k1 : KeepsOthers W' w2 := ⟨HB2.size, fun k o hk _ => (HB2.block k (Array.getElem?_eq_some_iff.1 hk).1).trans hk⟩
    have k2 : Below (w.heap.size + 4) W' w2 := HB2.mono (Nat.le_of_lt HO.out.lt)
    have k3 := below_set4 k2 (b' := w.heap.size + 1 + 1 + 1 + 1) (Nat.le_refl _) (.int .u64 (withS O n 0)) (.int .u64 (withS O n 1)) (.int .u64 (withS O n 2)) (.int .u64 (withS O n 3))
    exact ⟨((((k1.trans (KeepsOthers.setCell _ _ _)).trans (KeepsOthers.setCell _ _ _)).trans (KeepsOthers.setCell _ _ _)).trans (KeepsOthers.setCell _ _ _)).from _, k3, by rw [HXX.out]; exact SB.set4 hO2 _, HB.out.trans k3⟩
 case done =>
  rintro D ys W' hD rfl ⟨hO, hB'⟩ hK
  have hBW : Below w.heap.size w W' := hB0.trans (hB'.mono (by omega))
  obtain ⟨o0, o1, o2, o3⟩ := hO.cells
  have HQ : Hid (ableF T e (nbNats ys) = ableF T e (allS S)) := by show _ = _; rw [← hxs]; rfl
  have hres := bR.below hB' (by omega)
  obtain ⟨r0, r1, r2, r3⟩ := SB.cells hres
  have rz := hres.frozen
  have k2 := Hid.of (SB.set4 hres (ableF T e (nbNats ys)))
  have k3 := Hid.of (below_set4 hBW (b' := w.heap.size + 1 + 1 + 1) (by omega) (.int .u64 (ableF T e (nbNats ys) 0)) (.int .u64 (ableF T e (nbNats ys) 1)) (.int .u64 (ableF T e (nbNats ys) 2)) (.int .u64 (ableF T e (nbNats ys) 3)))
  have hMk : Marks w.heap.size [D] W' := by
   refine ⟨fun D' hD' => ?_, by simp⟩
   have e : D' = D := by simpa using hD'
   rw [e]
   exact ⟨by omega, hK⟩
  have k4 := Hid.of (hMk.other4 hres (ableF T e (nbNats ys)))
  clear hMk
  clear hO hBW hB' hres hK
  generalize ableF T e (nbNats ys) = O at *
  gi_wp2
  refine leaves_marks (B := w.heap.size) (fun W => SB W (w.heap.size + 1 + 1 + 1) O ∧ Below w.heap.size w W) ?hJ ?hfin [D] _ k4.out ⟨k2.out, k3.out⟩
  case hJ =>
   rintro W D ⟨h1, h2⟩ hD hk
   refine ⟨(World.putObj_heap_other (fun e => ?_)).trans h1, h2.trans (belowK_b (w := w) (Nat.le_refl _) W D _ _ hD hk rfl rfl)⟩
   have h3 : W.heap[w.heap.size + 1 + 1 + 1]? = _ := h1
   rw [e, hk] at h3
   cases h3
  case hfin =>
   rintro W ⟨h1, h2⟩
   exact ⟨_, results_cell_row (g := w.heap.size + 1 + 1 + 1) (p := 6) rfl _ _ _ _ _ _ rfl h1 Tryd.underlying79 rfl (by kernel_rfl), by rw [← HQ.out], h2⟩
 case stop =>
  rintro D c pre W _ _ h _
  exact h.elim

theorem kable_any (S : Nat → Nat) (hS : okS S) (e : Nat) (he8 : e < 8) (p : Plant) (P : PTL) (fa : Option Addr) (fc : Nat) (free : List Int) (R : Nat → Nat) (T : Nat → Nat → Nat) (mb : Nat) (hTok : ∀ p, okS (T p)) (hall : ∀ k ∈ allS S, k < 6) (kb : Nat) (w : World) (hT : Tab w) (hK : KV w kb p P fa fc free R T mb) :
  Calls Tryd.prog 149 #[.pointer (some ⟨kb, 0, none⟩), sval S, .int .i64 e] w fun e' W' => e' = .returned (sval (ableF T e (allS S))) ∧ Below w.heap.size w W' :=
 callsIn_wide.1 (kable_in S hS e he8 p P fa fc free R T mb hTok hall kb w hT hK)

end Go.Proofs.YtkodmnooibpflaaDoor
