/-
  The closure that machine.leader answers: where the states of a set lead to, at an event.
-/
import Derived.Test.YtialjbdfkhfcoabDoorCLeadReads
namespace Go.Proofs.YtialjbdfkhfcoabDoor
open Go.RowKit Go.Shelf
set_option linter.unusedVariables false
attribute [local go_sem] Oper.semAt_some

theorem own_SB {β : Type} (B : Nat) (S : β → Nat → Nat) : Go.Own (fun (s : β) W => SB W B (S s)) := by
  intro s W W' row h hg hr
  obtain ⟨hlt, hk⟩ := Array.getElem?_eq_some_iff.1 h
  exact (grownBy_keeps_cells hg hr (k := B) h rfl).trans h

def nbNats {N : Nat} (pre : List (NB N)) : List Nat := pre.map fun x => x.1
theorem nbNats_snoc {N : Nat} (pre : List (NB N)) (x : NB N) : nbNats (pre ++ [x]) = nbNats pre ++ [x.1] := by simp [nbNats]

theorem lead1_ix {st ev x e : Nat} (hx : x < st) (he : e < ev) : x * ev + e < st * ev := by
  have : (x + 1) * ev ≤ st * ev := Nat.mul_le_mul_right _ hx
  rw [Nat.add_mul] at this
  omega

set_option maxRecDepth 100000 in
set_option maxHeartbeats 4000000 in
theorem lead1_in (m : Mach) (l : ML) (st ev e : Nat) (pt pg pm : Nat) (T : Nat → Nat → Nat) (hTok : ∀ p, okS (T p)) (S : Nat → Nat) (hS : okS S) (hall : ∀ k ∈ allS S, k < st) (he : e < ev) (hev : m.ev = (ev : Int)) (hev8 : ev ≤ 8) (hst : st ≤ 256)
    (w : World) (hT : Tab w) (hL : LD w pt pg pm m l (st * ev) T) :
    CallsIn Fence.wide 5 Tryd.prog 83 #[sval S, .int .i64 e, .pointer (some ⟨pt, 0, none⟩), .pointer (some ⟨pm, 0, none⟩)] w fun e' W' => e' = .returned (sval (leadF T ev e (allS S))) ∧ Below w.heap.size w W' := by
  obtain ⟨xs, hxs⟩ := nb_of (N := st) (allS S) hall
  have hlen : xs.length ≤ 256 := by have := allS_len S; rw [← hxs, List.length_map] at this; exact this
  refine callsIn_of_wp_marks Tryd.func83 rfl trivial ?_ rfl
  simp only [Tryd.ntmps83, List.size_toArray, List.length_cons, List.length_nil, Nat.reduceAdd, Nat.reduceSub, Array.replicate_succ, Array.replicate_zero, List.push_toArray, List.append_toArray, List.nil_append, List.cons_append]
  gi_wp2_with (refine ⟨trivial, ?_⟩; refine CallsIn.mono (callsIn_wide.2 (all_any S _)) ?_; rintro e' w1 ⟨rfl, rfl⟩)
  have bE : Boxed (((((w.alloc (.cells (scells S) 46)).alloc (.cells #[.int .i64 e] 3)).alloc (.cells #[.int .u64 0, .int .u64 0, .int .u64 0, .int .u64 0] 46)).alloc (.cells #[.int .u64 0, .int .u64 0, .int .u64 0, .int .u64 0] 46)).alloc (.cells (scells S) 46)) (w.heap.size + 1) 3 (.int .i64 e) := by
    have := (((Boxed.new (w.alloc (.cells (scells S) 46)) 3 (.int .i64 e)).alloc (.cells (scells zeroS) 46)).alloc (.cells (scells zeroS) 46)).alloc (.cells (scells S) 46)
    rwa [World.size_alloc] at this
  have bR : SB (((((w.alloc (.cells (scells S) 46)).alloc (.cells #[.int .i64 e] 3)).alloc (.cells #[.int .u64 0, .int .u64 0, .int .u64 0, .int .u64 0] 46)).alloc (.cells #[.int .u64 0, .int .u64 0, .int .u64 0, .int .u64 0] 46)).alloc (.cells (scells S) 46)) (w.heap.size + 2) zeroS := by
    have := ((Blk.new ((w.alloc (.cells (scells S) 46)).alloc (.cells #[.int .i64 e] 3)) 46 (scells zeroS)).alloc (.cells (scells zeroS) 46)).alloc (.cells (scells S) 46)
    rwa [World.size_alloc, World.size_alloc] at this
  have bO : SB (((((w.alloc (.cells (scells S) 46)).alloc (.cells #[.int .i64 e] 3)).alloc (.cells #[.int .u64 0, .int .u64 0, .int .u64 0, .int .u64 0] 46)).alloc (.cells #[.int .u64 0, .int .u64 0, .int .u64 0, .int .u64 0] 46)).alloc (.cells (scells S) 46)) (w.heap.size + 3) zeroS := by
    have := (Blk.new (((w.alloc (.cells (scells S) 46)).alloc (.cells #[.int .i64 e] 3)).alloc (.cells (scells zeroS) 46)) 46 (scells zeroS)).alloc (.cells (scells S) 46)
    rwa [World.size_alloc, World.size_alloc, World.size_alloc] at this
  have bN : SB (((((w.alloc (.cells (scells S) 46)).alloc (.cells #[.int .i64 e] 3)).alloc (.cells #[.int .u64 0, .int .u64 0, .int .u64 0, .int .u64 0] 46)).alloc (.cells #[.int .u64 0, .int .u64 0, .int .u64 0, .int .u64 0] 46)).alloc (.cells (scells S) 46)) (w.heap.size + 1 + 1 + 1 + 1) S := by
    have := Blk.new ((((w.alloc (.cells (scells S) 46)).alloc (.cells #[.int .i64 e] 3)).alloc (.cells (scells zeroS) 46)).alloc (.cells (scells zeroS) 46)) 46 (scells S)
    rwa [World.size_alloc, World.size_alloc, World.size_alloc, World.size_alloc] at this
  have hB0 : Below w.heap.size w (((((w.alloc (.cells (scells S) 46)).alloc (.cells #[.int .i64 e] 3)).alloc (.cells #[.int .u64 0, .int .u64 0, .int .u64 0, .int .u64 0] 46)).alloc (.cells #[.int .u64 0, .int .u64 0, .int .u64 0, .int .u64 0] 46)).alloc (.cells (scells S) 46)) := (((((Below.refl _ w).alloc (Nat.le_refl _) _).alloc (by simp) _).alloc (by simp; omega) _).alloc (by simp; omega) _).alloc (by simp; omega) _
  have hsz : (((((w.alloc (.cells (scells S) 46)).alloc (.cells #[.int .i64 e] 3)).alloc (.cells #[.int .u64 0, .int .u64 0, .int .u64 0, .int .u64 0] 46)).alloc (.cells #[.int .u64 0, .int .u64 0, .int .u64 0, .int .u64 0] 46)).alloc (.cells (scells S) 46)).heap.size = w.heap.size + 5 := by simp
  have hT0 := hT.below hB0 hT.lt
  have hL0 := hL.below hB0 hL.to.lt hL.tab.lt hL.m.lt
  revert bE bR bO bN hB0 hsz hT0 hL0
  generalize ((((w.alloc (.cells (scells S) 46)).alloc (.cells #[.int .i64 e] 3)).alloc (.cells #[.int .u64 0, .int .u64 0, .int .u64 0, .int .u64 0] 46)).alloc (.cells #[.int .u64 0, .int .u64 0, .int .u64 0, .int .u64 0] 46)).alloc (.cells (scells S) 46) = W0
  intro bE bR bO bN hB0 hsz hT0 hL0
  have l1 := hL.to.lt
  have l2 := hL.tab.lt
  have l3 := hL.m.lt
  refine wpIn_rangeFunc_ownG rfl (by omega) (gf := 75) (lb := #[.pointer (some ⟨w.heap.size + 1 + 1 + 1 + 1, 0, none⟩)]) rfl trivial (enters_of Tryd.func75 (by kernel_rfl) rfl)
    (all_stops 4 (by omega) (w.heap.size + 1 + 1 + 1 + 1) (w.heap.size + 3) S hS xs hxs (by omega) W0 (by omega) bN hT0) belowK_t (belowK_b (by omega)) (Below.refl _ _) (fun _ => rfl)
    (fun pre W => SB W (w.heap.size + 3) (leadF T ev e (nbNats pre)) ∧ Below (w.heap.size + 3) W0 W)
    (fun _ _ _ => False)
    (OwnFrom.and (Go.Own.from (own_SB (w.heap.size + 3) (fun pre : List (NB st) => leadF T ev e (nbNats pre))) _) (ownFrom_below (by omega) (by omega)))
    (fun _ _ _ _ _ hs _ _ => hs)
    ⟨bO, Below.refl _ _⟩
    (fun x => { tmps := #[sval S, .int .i64 e, .pointer (some ⟨pt, 0, none⟩), .pointer (some ⟨pm, 0, none⟩), .pointer (some ⟨w.heap.size, 0, none⟩), .pointer (some ⟨w.heap.size + 1, 0, none⟩), .pointer (some ⟨w.heap.size + 1 + 1, 0, none⟩), .pointer (some ⟨w.heap.size + 1 + 1 + 1, 0, none⟩), .int .i64 (x.1 : Int), sval S, .func (.func 75) #[] #[.pointer (some ⟨w.heap.size + 1 + 1 + 1 + 1, 0, none⟩)], .int .i64 (x.1 : Int), undef, undef, undef, undef, undef, undef, undef, undef, undef, undef, undef, undef], defers := [] }) ?assign ?body ?done ?stop
  case assign =>
    intro l x W K hK
    gi_wp2
    exact hK
  case body =>
    rintro l' pre x W ⟨hO, hB⟩ hlt
    have hLW := hL0.below hB (by omega) (by omega) (by omega)
    have hEW : Boxed W (w.heap.size + 1) 3 (.int .i64 e) := (hB.block _ (by omega)).trans bE
    obtain ⟨p, hp⟩ : ∃ p, p = x.1 * ev + e := ⟨_, rfl⟩
    have hpN : p < st * ev := by rw [hp]; exact lead1_ix x.2 he
    obtain ⟨q, hq⟩ : ∃ q, q = x.1 * ev := ⟨_, rfl⟩
    have hN2 : st * ev ≤ 2048 := Nat.mul_le_mul hst hev8
    have hw1 : IntKind.i64.wrap ((x.1 : Int) * (ev : Int)) = (q : Int) := by
      rw [IntKind.wrap_i64, ← Int.natCast_mul, ← hq]; omega
    have hw2 : IntKind.i64.wrap ((q : Int) + (e : Int)) = (p : Int) := by rw [IntKind.wrap_i64]; omega
    have HP := Hid.of hp
    have hp0 : (0 : Int) ≤ (p : Int) := by omega
    have hpI : (p : Int) < ((st * ev : Nat) : Int) := by omega
    clear hp hq
    obtain ⟨t0, t1, t2, t3⟩ := hLW.tab.cells hpN
    obtain ⟨o0, o1, o2, o3⟩ := hO.cells
    have c1 := hLW.to.cell
    have c2 := hEW.cell
    have c3 : W.cell? ⟨pm, 1, none⟩ = some (.int .i64 ev) := by rw [← hev]; exact hLW.m.cell 1 rfl
    have fO := hO.frozen
    have mx : Tryd.prog.follows .mixedOrders = true := by kernel_rfl
    have hOk : Hid (okS (leadF T ev e (nbNats pre))) := ok_leadF hTok _
    have hTp : Hid (okS (T p)) := hTok p
    have HX : Hid (leadF T ev e (nbNats (pre ++ [x])) = joinS (leadF T ev e (nbNats pre)) (T p)) := by show _ = _; rw [nbNats_snoc, leadF_snoc, HP.out]
    gi_wp2
    refine wpIn_region_any mx ?_
    refine lead_reads l' (5 - 1 - 1) _ (sval S) (.int .i64 e) (.pointer (some ⟨w.heap.size, 0, none⟩)) (.pointer (some ⟨w.heap.size + 1 + 1, 0, none⟩)) (sval S) (.func (.func 75) #[] #[.pointer (some ⟨w.heap.size + 1 + 1 + 1 + 1, 0, none⟩)]) (.int .i64 (x.1 : Int)) pt pm (w.heap.size + 1) (w.heap.size + 1 + 1 + 1) pg (st * ev) p x.1 ev q e (leadF T ev e (nbNats pre)) (T p) W.drew o0 o1 o2 o3 t0 t1 t2 t3 c1 c2 c3 hw1 hw2 hp0 hpI hpN ?_ 10 false false false false false false false false false false rfl rfl
    refine wpAnyIn_all (rs := [10]) (by kernel_rfl) (by simp) (fun i hi => ?_)
    obtain rfl : i = 10 := by simpa using hi
    refine wpOpIn_step rfl (fun K hK => ?_)
    clear o0 o1 o2 o3 t0 t1 t2 t3 c1 c2 c3
    have hOd : SB W.drew (w.heap.size + 3) (leadF T ev e (nbNats pre)) := hO
    go_simp
    refine ⟨trivial, ?_⟩
    refine CallsIn.mono (CallsIn.inRound l' (callsIn_wide.2 (join_any (leadF T ev e (nbNats pre)) (T p) _ hOk.out (hTok p)))) ?_
    rintro e' w1 ⟨rfl, hb1⟩
    refine hK _ _ ?_
    clear hK K
    have hO1 := hOd.below hb1 hO.lt
    obtain ⟨y0, y1, y2, y3⟩ := SB.cells hO1
    have fO1 := hO1.frozen
    refine wpAnyIn_all (rs := [11]) (by kernel_rfl) (by simp) (fun i hi => ?_)
    obtain rfl : i = 11 := by simpa using hi
    refine wpOpIn_step rfl (fun K hK => ?_)
    go_simp
    refine hK _ _ ?_
    refine ⟨by kernel_rfl, ?_⟩
    have k1 : KeepsOthers W w1 := ⟨hb1.size, fun k o hk _ => (hb1.block k (Array.getElem?_eq_some_iff.1 hk).1).trans hk⟩
    have k2 : Below (w.heap.size + 3) W w1 := ((Below.refl _ W).drew).trans (hb1.mono (by have := hO.lt; show _ ≤ W.heap.size; omega))
    have k3 := below_set4 k2 (b' := w.heap.size + 1 + 1 + 1) (by omega) (.int .u64 (joinS (leadF T ev e (nbNats pre)) (T p) 0)) (.int .u64 (joinS (leadF T ev e (nbNats pre)) (T p) 1)) (.int .u64 (joinS (leadF T ev e (nbNats pre)) (T p) 2)) (.int .u64 (joinS (leadF T ev e (nbNats pre)) (T p) 3))
    refine ⟨((((k1.trans (KeepsOthers.setCell _ _ _)).trans (KeepsOthers.setCell _ _ _)).trans (KeepsOthers.setCell _ _ _)).trans (KeepsOthers.setCell _ _ _)).from _, k3, ?_, hB.trans k3⟩
    rw [HX.out]
    exact SB.set4 hO1 _
  case done =>
    rintro D ys W hD rfl ⟨hO, hB⟩ hK
    have hR := bR.below hB (by omega)
    obtain ⟨o0, o1, o2, o3⟩ := hO.cells
    obtain ⟨r0, r1, r2, r3⟩ := SB.cells hR
    have fR := hR.frozen
    have k2 := Hid.of (SB.set4 hR (leadF T ev e (nbNats ys)))
    have k3 := Hid.of (below_set4 (hB0.trans (hB.mono (by omega))) (b' := w.heap.size + 1 + 1) (by omega) (.int .u64 (leadF T ev e (nbNats ys) 0)) (.int .u64 (leadF T ev e (nbNats ys) 1)) (.int .u64 (leadF T ev e (nbNats ys) 2)) (.int .u64 (leadF T ev e (nbNats ys) 3)))
    have hfin : Hid (nbNats ys = allS S) := hxs
    have hK4 : Hid (((((W.setCell ⟨w.heap.size + 1 + 1, 0, none⟩ (.int .u64 (leadF T ev e (nbNats ys) 0))).setCell ⟨w.heap.size + 1 + 1, 1, none⟩ (.int .u64 (leadF T ev e (nbNats ys) 1))).setCell ⟨w.heap.size + 1 + 1, 2, none⟩ (.int .u64 (leadF T ev e (nbNats ys) 2))).setCell ⟨w.heap.size + 1 + 1, 3, none⟩ (.int .u64 (leadF T ev e (nbNats ys) 3))).heap[D]? = some (.deferred (some []))) :=
      ((((KeepsOthers.setCell W ⟨w.heap.size + 1 + 1, 0, none⟩ (.int .u64 (leadF T ev e (nbNats ys) 0))).trans (KeepsOthers.setCell _ ⟨w.heap.size + 1 + 1, 1, none⟩ (.int .u64 (leadF T ev e (nbNats ys) 1)))).trans (KeepsOthers.setCell _ ⟨w.heap.size + 1 + 1, 2, none⟩ (.int .u64 (leadF T ev e (nbNats ys) 2)))).trans (KeepsOthers.setCell _ ⟨w.heap.size + 1 + 1, 3, none⟩ (.int .u64 (leadF T ev e (nbNats ys) 3)))).same D _ hK rfl
    gi_wp2
    refine ⟨by simp, .inl ⟨_, _, rfl, run_takeDeferred hK4.out, ?_⟩⟩
    refine ⟨_, results_cell_row (g := w.heap.size + 2) (p := 6) rfl _ _ _ _ _ _ rfl ((World.putObj_heap_other (by omega)).trans k2.out) Tryd.underlying46 rfl (by kernel_rfl), ?_, k3.out.trans (belowK_b (w := w) (Nat.le_refl _) _ D _ _ (by omega) hK4.out rfl rfl)⟩
    rw [← hfin.out]
  case stop =>
    rintro D c pre W _ _ h _
    exact h.elim

theorem lead1_any (m : Mach) (l : ML) (st ev e : Nat) (pt pg pm : Nat) (T : Nat → Nat → Nat) (hTok : ∀ p, okS (T p)) (S : Nat → Nat) (hS : okS S) (hall : ∀ k ∈ allS S, k < st) (he : e < ev) (hev : m.ev = (ev : Int)) (hev8 : ev ≤ 8) (hst : st ≤ 256)
    (w : World) (hT : Tab w) (hL : LD w pt pg pm m l (st * ev) T) :
    Calls Tryd.prog 83 #[sval S, .int .i64 e, .pointer (some ⟨pt, 0, none⟩), .pointer (some ⟨pm, 0, none⟩)] w fun e' W' => e' = .returned (sval (leadF T ev e (allS S))) ∧ Below w.heap.size w W' :=
  callsIn_wide.1 (lead1_in m l st ev e pt pg pm T hTok S hS hall he hev hev8 hst w hT hL)

end Go.Proofs.YtialjbdfkhfcoabDoor
