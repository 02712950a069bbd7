/-
  The walk of veil.parts: all parts of a set.
  The walk of keeper.isSafe.
  Plain: which sets can be kept, by a machine of sets; what stays; the veil. No program, no model.
-/
import Derived.Test.YtmlkpdeidpcidaaDoorJ37
import Derived.Test.YtmlkpdeidpcidaaDoorJ15
import Derived.Test.YtmlkpdeidpcidaaDoorJ06
import Derived.Test.YtmlkpdeidpcidaaDoorJ14
import Derived.Deep.RegionHeld3
import Derived.Test.YtmlkpdeidpcidaaDoorJ30
import Derived.Test.YtmlkpdeidpcidaaDoorJ36
namespace Go.Proofs.YtmlkpdeidpcidaaDoor
open Go.RowKit Go.Shelf
set_option linter.unusedVariables false
attribute [local go_sem] Oper.semAt_some

/-- Sets lie in a block, to be read. -/
def RdS (W : World) (g : Nat) (L : List (Nat → Nat)) : Prop := g < W.heap.size ∧ ∀ (k : Nat) (S : Nat → Nat), L[k]? = some S → W.cell? ⟨g, k * 4, none⟩ = some (.int .u64 (S 0)) ∧ W.cell? ⟨g, k * 4 + 1, none⟩ = some (.int .u64 (S 1)) ∧ W.cell? ⟨g, k * 4 + 2, none⟩ = some (.int .u64 (S 2)) ∧ W.cell? ⟨g, k * 4 + 3, none⟩ = some (.int .u64 (S 3))
theorem RdS.below {W W' : World} {g : Nat} {L : List (Nat → Nat)} (h : RdS W g L) (hb : Below W.heap.size W W') : RdS W' g L :=
  ⟨Nat.lt_of_lt_of_le h.1 hb.size, fun k S hk => by
    obtain ⟨c0, c1, c2, c3⟩ := h.2 k S hk
    exact ⟨(hb.cell (p := ⟨g, k * 4, none⟩) h.1).trans c0, (hb.cell (p := ⟨g, k * 4 + 1, none⟩) h.1).trans c1, (hb.cell (p := ⟨g, k * 4 + 2, none⟩) h.1).trans c2, (hb.cell (p := ⟨g, k * 4 + 3, none⟩) h.1).trans c3⟩⟩
theorem RdS.same {W W' : World} {g : Nat} {L : List (Nat → Nat)} (h : RdS W g L) (hs : W.heap.size ≤ W'.heap.size) (hg : W'.heap[g]? = W.heap[g]?) : RdS W' g L :=
  ⟨Nat.lt_of_lt_of_le h.1 hs, fun k S hk => by
    have := h.2 k S hk
    unfold World.cell? at this ⊢
    simp only [hg]; exact this⟩
theorem OwnS.rd {W : World} {B : Nat} {v : Value} {L : List (Nat → Nat)} (h : OwnS W B v L) (hL : 0 < L.length) : ∃ g cap, v = .slice (some ⟨g, 0, none⟩) L.length cap ∧ B ≤ g ∧ RdS W g L := by
  obtain ⟨g, cap, e1, e2, e3, -⟩ := h.cell (List.getElem?_eq_getElem hL)
  refine ⟨g, cap, e1, e2, e3, fun k S hk => ?_⟩
  obtain ⟨g', cap', e1', -, -, c⟩ := h.cell hk
  rw [e1] at e1'
  have : g = g' := by injection e1' with h1 h2 h3; injection h1 with h1; injection h1
  subst this
  exact c
/-- One set more behind a row: what is read of the first ones is read still. -/
theorem RdS.push {W W' : World} {g B : Nat} {L0 L : List (Nat → Nat)} {v : Value} (h : RdS W g L0) (hp : L0 <+: L) (ho : OwnS W B v L) (gr : W.grownBy W' v.ownBlock) (kk : ∀ g, v.ownBlock = some g → ∀ (j : Nat) (u : Value), (sflat L)[j]? = some u → W'.cell? ⟨g, j, none⟩ = some u) : RdS W' g L0 := by
  by_cases e : v.ownBlock = some g
  · refine ⟨Nat.lt_of_lt_of_le h.1 gr.size, fun k S hk => ?_⟩
    have hk2 : L[k]? = some S := by
      obtain ⟨t, rfl⟩ := hp
      rw [List.getElem?_append_left (List.getElem?_eq_some_iff.1 hk).1]; exact hk
    obtain ⟨f0, f1, f2, f3⟩ := sflat_at hk2
    exact ⟨kk g e _ _ f0, kk g e _ _ f1, kk g e _ _ f2, kk g e _ _ f3⟩
  · exact h.same gr.size (gr.block g h.1 (fun he => e he.symm))
theorem keeps_below {W W' : World} (h : Below W.heap.size W W') : KeepsOthers W W' := ⟨h.size, fun k o hk _ => (h.block k (Array.getElem?_eq_some_iff.1 hk).1).trans hk⟩
theorem Tryd.infoSetS : (Tryd.prog.info? 85).map (fun i => (i.zero, i.size, i.bytes)) = some (some (.agg #[.int .u64 0, .int .u64 0, .int .u64 0, .int .u64 0]), 4, 32) := by kernel_rfl

set_option maxRecDepth 100000 in
set_option maxHeartbeats 8000000 in
theorem prt_in (S : Nat → Nat) (hS : okS S) (hall : ∀ k ∈ allS S, k < 6) (w : World) (hT : Tab w) :
    CallsIn Fence.wide 5 Tryd.prog 184 #[sval S] w fun e W' => ∃ v, e = .returned v ∧ OwnS W' w.heap.size v (prtS (allS S)) ∧ Below w.heap.size w W' := by
  obtain ⟨i0, hi, hz0, hz1, hz2⟩ := info_parts Tryd.infoSetS
  obtain ⟨xs, hxs⟩ := nb_of (N := 6) (allS S) hall
  have hlen : xs.length ≤ 6 := by
    have := inc_len (allS S) 6 (inc_fromS S 4 0) hall
    rw [← hxs, List.length_map] at this; exact this
  clear hall
  refine callsIn_of_wp_marks Tryd.func184 rfl trivial ?_ rfl
  simp only [Tryd.ntmps184, List.size_toArray, List.length_cons, List.length_nil, Nat.reduceAdd, Nat.reduceSub, Array.replicate_succ, Array.replicate_zero, List.push_toArray, List.append_toArray, List.nil_append, List.cons_append]
  gi_wp2_with (refine ⟨trivial, ?_⟩; refine CallsIn.mono (callsIn_wide.2 (all_any S _)) ?_; rintro e1 w1 ⟨rfl, rfl⟩)
  have hB0 : Below w.heap.size w ((((w.alloc (.cells (scells S) 85)).alloc (.cells #[.int .u64 0, .int .u64 0, .int .u64 0, .int .u64 0] 85)).alloc (.cells #[.slice (some ⟨w.heap.size + 1, 0, none⟩) 1 1] 100)).alloc (.cells (scells S) 85)) := ((((Below.refl _ _).alloc (Nat.le_refl _) _).alloc (by simp) _).alloc (by simp; omega) _).alloc (by simp; omega) _
  have bO : Boxed ((((w.alloc (.cells (scells S) 85)).alloc (.cells #[.int .u64 0, .int .u64 0, .int .u64 0, .int .u64 0] 85)).alloc (.cells #[.slice (some ⟨w.heap.size + 1, 0, none⟩) 1 1] 100)).alloc (.cells (scells S) 85)) (w.heap.size + 1 + 1) 100 (.slice (some ⟨w.heap.size + 1, 0, none⟩) 1 1) := by
    have := (Boxed.new ((w.alloc (.cells (scells S) 85)).alloc (.cells #[.int .u64 0, .int .u64 0, .int .u64 0, .int .u64 0] 85)) 100 (.slice (some ⟨w.heap.size + 1, 0, none⟩) 1 1)).alloc (.cells (scells S) 85)
    rwa [World.size_alloc, World.size_alloc] at this
  have oO : OwnS ((((w.alloc (.cells (scells S) 85)).alloc (.cells #[.int .u64 0, .int .u64 0, .int .u64 0, .int .u64 0] 85)).alloc (.cells #[.slice (some ⟨w.heap.size + 1, 0, none⟩) 1 1] 100)).alloc (.cells (scells S) 85)) w.heap.size (.slice (some ⟨w.heap.size + 1, 0, none⟩) 1 1) [zeroS] := by
    have h1 := ownS_one (w.alloc (.cells (scells S) 85)) zeroS w.heap.size (by simp)
    rw [World.size_alloc] at h1
    exact own_same h1 (fun k hk => by
      have := (World.ownsRow.lt h1 k hk).2
      exact (((Below.refl _ ((w.alloc (.cells (scells S) 85)).alloc (.cells #[.int .u64 0, .int .u64 0, .int .u64 0, .int .u64 0] 85))).alloc (Nat.le_refl _) _).alloc (by simp) _).block k this)
  have bN : SB ((((w.alloc (.cells (scells S) 85)).alloc (.cells #[.int .u64 0, .int .u64 0, .int .u64 0, .int .u64 0] 85)).alloc (.cells #[.slice (some ⟨w.heap.size + 1, 0, none⟩) 1 1] 100)).alloc (.cells (scells S) 85)) (w.heap.size + 1 + 1 + 1) S := by
    have := Blk.new (((w.alloc (.cells (scells S) 85)).alloc (.cells #[.int .u64 0, .int .u64 0, .int .u64 0, .int .u64 0] 85)).alloc (.cells #[.slice (some ⟨w.heap.size + 1, 0, none⟩) 1 1] 100)) 85 (scells S)
    rwa [World.size_alloc, World.size_alloc, World.size_alloc] at this
  have hsz0 : ((((w.alloc (.cells (scells S) 85)).alloc (.cells #[.int .u64 0, .int .u64 0, .int .u64 0, .int .u64 0] 85)).alloc (.cells #[.slice (some ⟨w.heap.size + 1, 0, none⟩) 1 1] 100)).alloc (.cells (scells S) 85)).heap.size = w.heap.size + 4 := by simp
  revert hB0 bO oO bN hsz0
  generalize ((((w.alloc (.cells (scells S) 85)).alloc (.cells #[.int .u64 0, .int .u64 0, .int .u64 0, .int .u64 0] 85)).alloc (.cells #[.slice (some ⟨w.heap.size + 1, 0, none⟩) 1 1] 100)).alloc (.cells (scells S) 85)) = W0
  intro hB0 bO oO bN hsz0
  have hT0 := hT.below hB0 hT.lt
  have hw0 := hT.lt
  refine wpIn_rangeFunc_ownG rfl (by omega) (gf := 164) (lb := #[.pointer (some ⟨w.heap.size + 1 + 1 + 1, 0, none⟩)]) rfl trivial (enters_of Tryd.func164 (by kernel_rfl) rfl)
    (all_stops 4 (by omega) (w.heap.size + 1 + 1 + 1) w.heap.size S hS xs hxs hT.lt W0 (by omega) bN hT0) belowK_t (belowK_b (by omega)) (Below.refl _ _) (fun _ => rfl)
    (fun pre W => (∃ v, Boxed W (w.heap.size + 1 + 1) 100 v ∧ W.ownsRow w.heap.size 85 4 v (prtS (nbNats pre)).length (sflat (prtS (nbNats pre))) ∧ True) ∧ Below w.heap.size w W)
    (fun _ _ _ => False)
    (OwnFrom.and (Go.Own.from (holdsRow_own w.heap.size (w.heap.size + 1 + 1) 100 85 4 (fun pre : List (NB 6) => (prtS (nbNats pre)).length) (fun pre => sflat (prtS (nbNats pre))) (fun _ _ => True)) _) (ownFrom_below (Nat.le_refl _) (by omega)))
    (fun _ _ _ _ _ hs _ _ => hs)
    ⟨⟨_, bO, oO, trivial⟩, hB0⟩
    (fun x => { tmps := #[sval S, .pointer (some ⟨w.heap.size, 0, none⟩), .slice none 0 0, .pointer (some ⟨w.heap.size + 1 + 1, 0, none⟩), .int .i64 (x.1 : Int), undef, undef, .agg #[.int .u64 0, .int .u64 0, .int .u64 0, .int .u64 0], .slice (some ⟨w.heap.size + 1, 0, none⟩) 1 1, sval S, .func (.func 164) #[] #[.pointer (some ⟨w.heap.size + 1 + 1 + 1, 0, none⟩)], .int .i64 (x.1 : Int), undef, undef, undef, undef, undef, undef, undef, undef, undef, undef, undef, undef, undef, undef], defers := [] }) ?assign ?body ?done ?stop
  case assign =>
    intro l x W K hK
    gi_wp2
    exact hK
  case body =>
    rintro l' pre x W' ⟨⟨v0, hv, hrw, -⟩, hB'⟩ hlt
    have hx := x.2
    obtain ⟨n, hn⟩ : ∃ n, Hid (n = x.1) := ⟨_, rfl⟩
    have HX : Hid (prtS (nbNats (pre ++ [x])) = prtS (nbNats pre) ++ (prtS (nbNats pre)).map fun S => withS S n) := by show _ = _; rw [nbNats_snoc, prtS_snoc, hn.out]
    have hplen : (prtS (nbNats pre)).length ≤ 32 := by
      rw [prt_len]
      have h1 : (nbNats pre).length ≤ 5 := by have : (nbNats pre).length = pre.length := by simp [nbNats]
                                              omega
      calc 2 ^ (nbNats pre).length ≤ 2 ^ 5 := Nat.pow_le_pow_right (by omega) h1
        _ = 32 := rfl
    have hppos : 0 < (prtS (nbNats pre)).length := by rw [prt_len]; exact Nat.pow_pos (by omega)
    have HOKs : Hid (∀ S ∈ prtS (nbNats pre), okS S) := ok_prtS _
    rw [← hn.out] at hx ⊢
    generalize prtS (nbNats pre) = L0 at *
    obtain ⟨g0, cap0, rfl, hg0, hrd⟩ := OwnS.rd hrw hppos
    have HRD := Hid.of hrd
    have HV := Hid.of hv
    have HRW := Hid.of hrw
    have HBB := Hid.of hB'
    have hc := hv.cell
    clear hrd hv hrw hB'
    gi_wp2_with fail
    clear hc
    gi_loopw [14] (fun i wr => ∃ (k : Nat) (v : Value), i = .int .i64 k ∧ k ≤ L0.length ∧ Hid (Boxed wr (w.heap.size + 1 + 1) 100 v) ∧ Hid (OwnS wr w.heap.size v (L0 ++ (L0.take k).map fun S => withS S n)) ∧ Hid (RdS wr g0 L0) ∧ Hid (KeepsOthers W' wr) ∧ Hid (Below w.heap.size W' wr)) (fun i _ => L0.length - (intOf i).toNat)
    case atStart => exact ⟨0, _, rfl, Nat.zero_le _, HV, by simpa using HRW, HRD, KeepsOthers.refl _, Below.refl _ _⟩
    case round =>
      obtain ⟨k, v, rfl, hk, KB, KO, KR, KK, KL⟩ := hrel
      by_cases hlt2 : k < L0.length
      · have hget := List.getElem?_eq_getElem hlt2
        obtain ⟨Q, HQ⟩ : ∃ Q, Hid (L0[k]? = some Q) := ⟨_, hget⟩
        clear hget
        obtain ⟨c0, c1, c2, c3⟩ := KR.out.2 k Q HQ.out
        have hQ : Hid (okS Q) := HOKs.out Q (List.mem_of_getElem? HQ.out)
        gi_wp2_with fail
        clear c0 c1 c2 c3
        have bZ : Below wr.heap.size wr (wr.alloc (.cells (scells Q) 85)) := (Below.refl _ _).alloc (Nat.le_refl _) _
        have KP : Hid (SB (wr.alloc (.cells (scells Q) 85)) wr.heap.size Q) := Blk.new wr _ _
        obtain ⟨Lk, HLK⟩ : ∃ Lk, Hid (Lk = L0 ++ (L0.take k).map fun S => withS S n) := ⟨_, rfl⟩
        rw [← HLK.out] at KO
        have hLk : Lk.length ≤ 64 := by rw [HLK.out]; simp; omega
        have HPX : Hid (L0 <+: Lk) := by show _ <+: _; rw [HLK.out]; exact List.prefix_append _ _
        have HNX : Hid (L0 ++ (L0.take (k + 1)).map (fun S => withS S n) = Lk ++ [withS Q n]) := by show _ = _; rw [HLK.out, List.take_add_one, HQ.out]; simp
        obtain ⟨va, vc, hve, -, -, -⟩ := own_form2 KO.out
        subst hve
        have HNP : Hid (∀ j, (Value.slice va Lk.length vc).ownBlock = some j → j < wr.heap.size) := fun j hj => (World.ownsRow.lt KO.out j hj).2
        have HNB : Hid (∀ j, (Value.slice va Lk.length vc).ownBlock = some j → j ≠ w.heap.size + 1 + 1) := fun j hj e => by
          obtain ⟨cs, hc⟩ := own_type KO.out hj
          have h2 : wr.heap[w.heap.size + 1 + 1]? = _ := KB.out
          rw [e, h2] at hc; cases hc
        have HWZ : Hid (w.heap.size ≤ wr.heap.size) := (HBB.out.trans KL.out).size
        have KBZ := Hid.of (show Boxed _ _ _ _ from (bZ.block _ KB.out.lt).trans KB.out)
        have KOZ := Hid.of (show OwnS _ _ _ _ from own_same KO.out (fun j hj => bZ.block j (HNP.out j hj)))
        have KRZ := Hid.of (KR.out.below bZ)
        have KKZ := Hid.of (KK.out.trans (KeepsOthers.alloc wr (.cells (scells Q) 85)))
        have KLZ := Hid.of (KL.out.trans (bZ.mono HWZ.out))
        clear KB KO KR KK KL
        have HZS : Hid (wr.heap.size < (wr.alloc (.cells (scells Q) 85)).heap.size) := KP.out.lt
        revert KP KBZ KOZ KRZ KKZ KLZ HNP HWZ HZS bZ
        generalize wr.alloc (.cells (scells Q) 85) = Z
        generalize wr.heap.size = pb
        intro bZ KP HNP HWZ KBZ KOZ KRZ KKZ KLZ HZS
        clear bZ
        have SA : Hid (∀ X, SB X pb Q → X.cell? ⟨pb, 0, none⟩ = some (.int .u64 (Q 0)) ∧ X.cell? ⟨pb, 1, none⟩ = some (.int .u64 (Q 1)) ∧ X.cell? ⟨pb, 2, none⟩ = some (.int .u64 (Q 2)) ∧ X.cell? ⟨pb, 3, none⟩ = some (.int .u64 (Q 3))) := fun X h => SB.cells h
        refine Code.wpIn_mono (Q := regQ fun a' X => ∃ (va7 : Option Addr) (vc7 p22 : Nat), a' = { tmps := #[sval S, .pointer (some ⟨w.heap.size, 0, none⟩), .slice none 0 0, .pointer (some ⟨w.heap.size + 1 + 1, 0, none⟩), .int .i64 (n : Int), undef, .pointer (some ⟨pb, 0, none⟩), .agg #[.int .u64 0, .int .u64 0, .int .u64 0, .int .u64 0], .slice (some ⟨w.heap.size + 1, 0, none⟩) 1 1, sval S, .func (.func 164) #[] #[.pointer (some ⟨w.heap.size + 1 + 1 + 1, 0, none⟩)], .int .i64 (n : Int), .slice (some ⟨g0, 0, none⟩) L0.length cap0, .int .i64 (L0.length : Int), .int .i64 (k : Int), .bool true, .pointer (some ⟨g0, k * 4, none⟩), sval Q, .slice va Lk.length vc, sval Q, .int .i64 (n : Int), sval (withS Q n), .slice (some ⟨p22, 0, none⟩) 1 1, .slice va7 (Lk.length + 1) vc7, u24, undef], defers := [] } ∧ Boxed X (w.heap.size + 1 + 1) 100 (.slice va7 (Lk.length + 1) vc7) ∧ OwnS X w.heap.size (.slice va7 (Lk.length + 1) vc7) (Lk ++ [withS Q n]) ∧ RdS X g0 L0 ∧ KeepsOthers W' X ∧ Below w.heap.size W' X) ?aft ?reg
        case aft =>
          refine regQ_imp ?_
          rintro a' X ⟨va7, vc7, p22, rfl, z1, z2, z3, z4, z5⟩
          rw [← HNX.out] at z2
          have Z1 := Hid.of z1
          have Z2 := Hid.of z2
          have Z3 := Hid.of z3
          have Z4 := Hid.of z4
          have Z5 := Hid.of z5
          clear z1 z2 z3 z4 z5
          gi_wp2_with fail
          go_roundw
          case rel => exact ⟨k + 1, _, by go_num, by omega, Z1, Z2, Z3, Z4, Z5⟩
          case measure => simp [intOf]; omega
        case reg =>
          refine wpIn_region_round (S := fun w' => w'.cell? ⟨pb, 0, none⟩ = some (.int .u64 (Q 0)) ∧ w'.cell? ⟨pb, 1, none⟩ = some (.int .u64 (Q 1)) ∧ w'.cell? ⟨pb, 2, none⟩ = some (.int .u64 (Q 2)) ∧ w'.cell? ⟨pb, 3, none⟩ = some (.int .u64 (Q 3))) (by kernel_rfl) (noDefer_spec (by kernel_rfl)) regQ_inV (SA.out _ (Blk.drew KP.out)) (fun hS => ?_)
          have BF : Hid (Below Z.heap.size Z Z.drew) := (Below.refl _ _).drew
          replace KP : Hid (SB Z.drew pb Q) := Blk.drew KP.out
          revert hS BF KP
          generalize Z.drew = Y0
          intro hS BF KP
          refine wpAnyH_take (i := 1) (v := sval Q) rfl (by kernel_rfl) (by kernel_rfl) (by kernel_rfl) (fun _ _ _ h => h) (Or.inl ⟨by kernel_rfl, fun w' hw' => by obtain ⟨q0, q1, q2, q3⟩ := hw'; go_simp⟩) hS ?_
          refine wpAnyH_take (i := 2) (v := .int .i64 (n : Int)) rfl (by kernel_rfl) (by kernel_rfl) (by kernel_rfl) (fun _ _ _ h => h) (Or.inl ⟨by kernel_rfl, fun w' hw' => by obtain ⟨q0, q1, q2, q3⟩ := hw'; go_simp⟩) hS ?_
          simp only [Act.put, List.setIfInBounds_toArray]
          refine wpAnyH_ready (rs := [0, 3]) (by kernel_rfl) (by simp) ?_
          refine AllReadyH.cons rfl (fun K' hK' => ?_) (AllReadyH.cons rfl (fun K' hK' => ?_) AllReadyH.nil)
          · clear hS
            have cb := Boxed.cell ((BF.out.block _ KBZ.out.lt).trans KBZ.out)
            go_simp
            refine hK'.out _ _ (SA.out _ KP.out) (fun hS => ?_)
            clear hK' K' cb
            refine wpAnyH_ready (rs := [3]) (by kernel_rfl) (by simp) ?_
            refine AllReadyH.cons rfl (fun K' hK' => ?_) AllReadyH.nil
            clear hS
            go_simp
            refine (with_any Q (n : Int) Y0 hQ.out (by omega) (by omega)).mono ?_
            rintro e Y2 ⟨rfl, hb⟩
            rw [Int.toNat_natCast]
            replace BF := Hid.of (BF.out.trans (hb.mono BF.out.size))
            replace KP := Hid.of (KP.out.below hb KP.out.lt)
            refine hK'.out _ _ (SA.out _ KP.out) (fun hS => ?_)
            clear hK' K' hb
            refine wpAnyH_ready (rs := [4]) (by kernel_rfl) (by simp) ?_
            refine AllReadyH.cons rfl (fun K' hK' => ?_) AllReadyH.nil
            clear hS
            go_simp
            have hb : Below Y2.heap.size Y2 (Y2.alloc (.cells (scells (withS Q n)) 85)) := (Below.refl _ _).alloc (Nat.le_refl _) _
            replace BF := Hid.of (BF.out.trans (hb.mono BF.out.size))
            replace KP := Hid.of (KP.out.below hb KP.out.lt)
            have K22 := Hid.of (Blk.new Y2 85 (scells (withS Q n)))
            refine hK'.out _ _ (SA.out _ KP.out) (fun hS => ?_)
            clear hK' K' hb
            revert BF KP K22 hS
            generalize Y2.alloc (.cells (scells (withS Q n)) 85) = Y3
            generalize Y2.heap.size = p22
            intro BF KP K22 hS
            refine wpAnyH_ready (rs := [5]) (by kernel_rfl) (by simp) ?_
            refine AllReadyH.cons rfl (fun K' hK' => ?_) AllReadyH.nil
            clear hS
            have ho : OwnS Y3 w.heap.size (.slice va Lk.length vc) Lk := own_same KOZ.out (fun j hj => BF.out.block j (World.ownsRow.lt KOZ.out j hj).2)
            have hcf : ∀ j u, ([.int .u64 (withS Q n 0), .int .u64 (withS Q n 1), .int .u64 (withS Q n 2), .int .u64 (withS Q n 3)] : List Value)[j]? = some u → Y3.cell? ((⟨p22, 0, none⟩ : Addr).add j) = some u := fun j u hu => by
              rw [addr0_add, Nat.zero_add]
              exact K22.out.cell j (by rw [← Array.getElem?_toList]; exact hu)
            refine step_append_keep rfl (.tmp 18) (.tmp 22) 100 rfl w.heap.size 85 i0 _ 4 32 Tryd.underlying100 hi hz0 hz1 hz2 rfl (by decide) _ _ _ rfl ho ⟨p22, 0, none⟩ 1 1 [.int .u64 (withS Q n 0), .int .u64 (withS Q n 1), .int .u64 (withS Q n 2), .int .u64 (withS Q n 3)] rfl rfl hcf (by intro u hu; simp at hu; rcases hu with rfl | rfl | rfl | rfl <;> rfl) (by decide) (by unfold maxLen; omega) (by omega) (Nat.le_trans HWZ.out (Nat.le_trans (Nat.le_of_lt HZS.out) BF.out.size)) ?_
            intro v7 Y4 o7 g7 nn7 kk7
            obtain ⟨va7, vc7, e7, -, -, -⟩ := own_form2 o7
            subst e7
            have O7 := Hid.of (own_set o7)
            have KP7 : Hid (SB Y4 pb Q) := (g7.block pb KP.out.lt (fun e => by have := HNP.out pb e.symm; omega)).trans KP.out
            have RD7 := Hid.of ((KRZ.out.below BF.out).push HPX.out ho g7 kk7)
            have hbx : Boxed Y3 (w.heap.size + 1 + 1) 100 (.slice va Lk.length vc) := (BF.out.block _ KBZ.out.lt).trans KBZ.out
            have BX7 : Hid (Boxed Y4 (w.heap.size + 1 + 1) 100 (.slice va Lk.length vc)) := (g7.block _ hbx.lt (fun e => HNB.out _ e.symm rfl)).trans hbx
            have KK7 := Hid.of ((KKZ.out.trans (keeps_below BF.out)).trans (KeepsOthers.of_grownBy g7 (fun j o hj ho2 => by obtain ⟨cs, hc⟩ := own_type ho hj; rw [hc] at ho2; cases ho2; rfl)))
            have KL7 := Hid.of ((KLZ.out.trans (BF.out.mono (Nat.le_trans HWZ.out (Nat.le_of_lt HZS.out)))).grown g7 (Nat.le_trans HWZ.out (Nat.le_trans (Nat.le_of_lt HZS.out) BF.out.size)) (fun j hj => (World.ownsRow.lt ho j hj).1))
            refine hK'.out _ _ (SA.out _ KP7.out) (fun hS => ?_)
            clear hK' K' o7 g7 nn7 kk7 ho hcf hbx
            refine wpAnyH_ready (rs := [6]) (by kernel_rfl) (by simp) ?_
            refine AllReadyH.cons rfl (fun K' hK' => ?_) AllReadyH.nil
            clear hS
            have cb := BX7.out.cell
            have fb := BX7.out.frozen
            have HPB : pb ≠ w.heap.size + 1 + 1 := fun e => by
              have h1 : Y4.heap[pb]? = _ := KP7.out
              have h2 : Y4.heap[w.heap.size + 1 + 1]? = _ := BX7.out
              rw [e, h2] at h1; cases h1
            go_simp
            refine hK'.out _ _ (SA.out _ (Blk.other KP7.out HPB _)) (fun hS => ?_)
            clear hK' K'
            refine wpAnyH_done (by kernel_rfl) ?_ _
            have HPG : g0 ≠ w.heap.size + 1 + 1 := fun e => by
              have h1 := hg0
              obtain ⟨cs, hc⟩ := own_type HRW.out (show (Value.slice (some ⟨g0, 0, none⟩) L0.length cap0).ownBlock = some g0 from rfl)
              have h2 : W'.heap[w.heap.size + 1 + 1]? = _ := HV.out
              rw [e, h2] at hc; cases hc
            exact ⟨va7, vc7, p22, by kernel_rfl, Blk.set BX7.out 0 _, own_same O7.out (fun j hj => Below.heap_setCell _ ⟨w.heap.size + 1 + 1, 0, none⟩ _ j (fun e => by
              have e : j = w.heap.size + 1 + 1 := e
              obtain ⟨cs, hc⟩ := own_type O7.out hj
              have h2 : _ = _ := BX7.out
              rw [e, h2] at hc; cases hc)), RD7.out.same (by simp [World.setCell]) (Below.heap_setCell _ ⟨w.heap.size + 1 + 1, 0, none⟩ _ g0 HPG), KK7.out.trans (KeepsOthers.setCell _ _ _), KL7.out.setCell (p := ⟨w.heap.size + 1 + 1, 0, none⟩) (show w.heap.size ≤ w.heap.size + 1 + 1 by omega) _⟩
          · clear hS
            go_simp
            refine (with_any Q (n : Int) Y0 hQ.out (by omega) (by omega)).mono ?_
            rintro e Y6 ⟨rfl, hb⟩
            rw [Int.toNat_natCast]
            replace BF := Hid.of (BF.out.trans (hb.mono BF.out.size))
            replace KP := Hid.of (KP.out.below hb KP.out.lt)
            refine hK'.out _ _ (SA.out _ KP.out) (fun hS => ?_)
            clear hK' K' hb
            refine wpAnyH_ready (rs := [0, 4]) (by kernel_rfl) (by simp) ?_
            refine AllReadyH.cons rfl (fun K' hK' => ?_) (AllReadyH.cons rfl (fun K' hK' => ?_) AllReadyH.nil)
            · clear hS
              have cb := Boxed.cell ((BF.out.block _ KBZ.out.lt).trans KBZ.out)
              go_simp
              refine hK'.out _ _ (SA.out _ KP.out) (fun hS => ?_)
              clear hK' K' cb
              refine wpAnyH_ready (rs := [4]) (by kernel_rfl) (by simp) ?_
              refine AllReadyH.cons rfl (fun K' hK' => ?_) AllReadyH.nil
              clear hS
              go_simp
              have hb : Below Y6.heap.size Y6 (Y6.alloc (.cells (scells (withS Q n)) 85)) := (Below.refl _ _).alloc (Nat.le_refl _) _
              replace BF := Hid.of (BF.out.trans (hb.mono BF.out.size))
              replace KP := Hid.of (KP.out.below hb KP.out.lt)
              have K22 := Hid.of (Blk.new Y6 85 (scells (withS Q n)))
              refine hK'.out _ _ (SA.out _ KP.out) (fun hS => ?_)
              clear hK' K' hb
              revert BF KP K22 hS
              generalize Y6.alloc (.cells (scells (withS Q n)) 85) = Y8
              generalize Y6.heap.size = p22
              intro BF KP K22 hS
              refine wpAnyH_ready (rs := [5]) (by kernel_rfl) (by simp) ?_
              refine AllReadyH.cons rfl (fun K' hK' => ?_) AllReadyH.nil
              clear hS
              have ho : OwnS Y8 w.heap.size (.slice va Lk.length vc) Lk := own_same KOZ.out (fun j hj => BF.out.block j (World.ownsRow.lt KOZ.out j hj).2)
              have hcf : ∀ j u, ([.int .u64 (withS Q n 0), .int .u64 (withS Q n 1), .int .u64 (withS Q n 2), .int .u64 (withS Q n 3)] : List Value)[j]? = some u → Y8.cell? ((⟨p22, 0, none⟩ : Addr).add j) = some u := fun j u hu => by
                rw [addr0_add, Nat.zero_add]
                exact K22.out.cell j (by rw [← Array.getElem?_toList]; exact hu)
              refine step_append_keep rfl (.tmp 18) (.tmp 22) 100 rfl w.heap.size 85 i0 _ 4 32 Tryd.underlying100 hi hz0 hz1 hz2 rfl (by decide) _ _ _ rfl ho ⟨p22, 0, none⟩ 1 1 [.int .u64 (withS Q n 0), .int .u64 (withS Q n 1), .int .u64 (withS Q n 2), .int .u64 (withS Q n 3)] rfl rfl hcf (by intro u hu; simp at hu; rcases hu with rfl | rfl | rfl | rfl <;> rfl) (by decide) (by unfold maxLen; omega) (by omega) (Nat.le_trans HWZ.out (Nat.le_trans (Nat.le_of_lt HZS.out) BF.out.size)) ?_
              intro v7 Y9 o7 g7 nn7 kk7
              obtain ⟨va7, vc7, e7, -, -, -⟩ := own_form2 o7
              subst e7
              have O7 := Hid.of (own_set o7)
              have KP7 : Hid (SB Y9 pb Q) := (g7.block pb KP.out.lt (fun e => by have := HNP.out pb e.symm; omega)).trans KP.out
              have RD7 := Hid.of ((KRZ.out.below BF.out).push HPX.out ho g7 kk7)
              have hbx : Boxed Y8 (w.heap.size + 1 + 1) 100 (.slice va Lk.length vc) := (BF.out.block _ KBZ.out.lt).trans KBZ.out
              have BX7 : Hid (Boxed Y9 (w.heap.size + 1 + 1) 100 (.slice va Lk.length vc)) := (g7.block _ hbx.lt (fun e => HNB.out _ e.symm rfl)).trans hbx
              have KK7 := Hid.of ((KKZ.out.trans (keeps_below BF.out)).trans (KeepsOthers.of_grownBy g7 (fun j o hj ho2 => by obtain ⟨cs, hc⟩ := own_type ho hj; rw [hc] at ho2; cases ho2; rfl)))
              have KL7 := Hid.of ((KLZ.out.trans (BF.out.mono (Nat.le_trans HWZ.out (Nat.le_of_lt HZS.out)))).grown g7 (Nat.le_trans HWZ.out (Nat.le_trans (Nat.le_of_lt HZS.out) BF.out.size)) (fun j hj => (World.ownsRow.lt ho j hj).1))
              refine hK'.out _ _ (SA.out _ KP7.out) (fun hS => ?_)
              clear hK' K' o7 g7 nn7 kk7 ho hcf hbx
              refine wpAnyH_ready (rs := [6]) (by kernel_rfl) (by simp) ?_
              refine AllReadyH.cons rfl (fun K' hK' => ?_) AllReadyH.nil
              clear hS
              have cb := BX7.out.cell
              have fb := BX7.out.frozen
              have HPB : pb ≠ w.heap.size + 1 + 1 := fun e => by
                have h1 : Y9.heap[pb]? = _ := KP7.out
                have h2 : Y9.heap[w.heap.size + 1 + 1]? = _ := BX7.out
                rw [e, h2] at h1; cases h1
              go_simp
              refine hK'.out _ _ (SA.out _ (Blk.other KP7.out HPB _)) (fun hS => ?_)
              clear hK' K'
              refine wpAnyH_done (by kernel_rfl) ?_ _
              have HPG : g0 ≠ w.heap.size + 1 + 1 := fun e => by
                have h1 := hg0
                obtain ⟨cs, hc⟩ := own_type HRW.out (show (Value.slice (some ⟨g0, 0, none⟩) L0.length cap0).ownBlock = some g0 from rfl)
                have h2 : W'.heap[w.heap.size + 1 + 1]? = _ := HV.out
                rw [e, h2] at hc; cases hc
              exact ⟨va7, vc7, p22, by kernel_rfl, Blk.set BX7.out 0 _, own_same O7.out (fun j hj => Below.heap_setCell _ ⟨w.heap.size + 1 + 1, 0, none⟩ _ j (fun e => by
                have e : j = w.heap.size + 1 + 1 := e
                obtain ⟨cs, hc⟩ := own_type O7.out hj
                have h2 : _ = _ := BX7.out
                rw [e, h2] at hc; cases hc)), RD7.out.same (by simp [World.setCell]) (Below.heap_setCell _ ⟨w.heap.size + 1 + 1, 0, none⟩ _ g0 HPG), KK7.out.trans (KeepsOthers.setCell _ _ _), KL7.out.setCell (p := ⟨w.heap.size + 1 + 1, 0, none⟩) (show w.heap.size ≤ w.heap.size + 1 + 1 by omega) _⟩
            · clear hS
              go_simp
              have hb : Below Y6.heap.size Y6 (Y6.alloc (.cells (scells (withS Q n)) 85)) := (Below.refl _ _).alloc (Nat.le_refl _) _
              replace BF := Hid.of (BF.out.trans (hb.mono BF.out.size))
              replace KP := Hid.of (KP.out.below hb KP.out.lt)
              have K22 := Hid.of (Blk.new Y6 85 (scells (withS Q n)))
              refine hK'.out _ _ (SA.out _ KP.out) (fun hS => ?_)
              clear hK' K' hb
              revert BF KP K22 hS
              generalize Y6.alloc (.cells (scells (withS Q n)) 85) = Y11
              generalize Y6.heap.size = p22
              intro BF KP K22 hS
              refine wpAnyH_ready (rs := [0]) (by kernel_rfl) (by simp) ?_
              refine AllReadyH.cons rfl (fun K' hK' => ?_) AllReadyH.nil
              clear hS
              have cb := Boxed.cell ((BF.out.block _ KBZ.out.lt).trans KBZ.out)
              go_simp
              refine hK'.out _ _ (SA.out _ KP.out) (fun hS => ?_)
              clear hK' K' cb
              refine wpAnyH_ready (rs := [5]) (by kernel_rfl) (by simp) ?_
              refine AllReadyH.cons rfl (fun K' hK' => ?_) AllReadyH.nil
              clear hS
              have ho : OwnS Y11 w.heap.size (.slice va Lk.length vc) Lk := own_same KOZ.out (fun j hj => BF.out.block j (World.ownsRow.lt KOZ.out j hj).2)
              have hcf : ∀ j u, ([.int .u64 (withS Q n 0), .int .u64 (withS Q n 1), .int .u64 (withS Q n 2), .int .u64 (withS Q n 3)] : List Value)[j]? = some u → Y11.cell? ((⟨p22, 0, none⟩ : Addr).add j) = some u := fun j u hu => by
                rw [addr0_add, Nat.zero_add]
                exact K22.out.cell j (by rw [← Array.getElem?_toList]; exact hu)
              refine step_append_keep rfl (.tmp 18) (.tmp 22) 100 rfl w.heap.size 85 i0 _ 4 32 Tryd.underlying100 hi hz0 hz1 hz2 rfl (by decide) _ _ _ rfl ho ⟨p22, 0, none⟩ 1 1 [.int .u64 (withS Q n 0), .int .u64 (withS Q n 1), .int .u64 (withS Q n 2), .int .u64 (withS Q n 3)] rfl rfl hcf (by intro u hu; simp at hu; rcases hu with rfl | rfl | rfl | rfl <;> rfl) (by decide) (by unfold maxLen; omega) (by omega) (Nat.le_trans HWZ.out (Nat.le_trans (Nat.le_of_lt HZS.out) BF.out.size)) ?_
              intro v7 Y13 o7 g7 nn7 kk7
              obtain ⟨va7, vc7, e7, -, -, -⟩ := own_form2 o7
              subst e7
              have O7 := Hid.of (own_set o7)
              have KP7 : Hid (SB Y13 pb Q) := (g7.block pb KP.out.lt (fun e => by have := HNP.out pb e.symm; omega)).trans KP.out
              have RD7 := Hid.of ((KRZ.out.below BF.out).push HPX.out ho g7 kk7)
              have hbx : Boxed Y11 (w.heap.size + 1 + 1) 100 (.slice va Lk.length vc) := (BF.out.block _ KBZ.out.lt).trans KBZ.out
              have BX7 : Hid (Boxed Y13 (w.heap.size + 1 + 1) 100 (.slice va Lk.length vc)) := (g7.block _ hbx.lt (fun e => HNB.out _ e.symm rfl)).trans hbx
              have KK7 := Hid.of ((KKZ.out.trans (keeps_below BF.out)).trans (KeepsOthers.of_grownBy g7 (fun j o hj ho2 => by obtain ⟨cs, hc⟩ := own_type ho hj; rw [hc] at ho2; cases ho2; rfl)))
              have KL7 := Hid.of ((KLZ.out.trans (BF.out.mono (Nat.le_trans HWZ.out (Nat.le_of_lt HZS.out)))).grown g7 (Nat.le_trans HWZ.out (Nat.le_trans (Nat.le_of_lt HZS.out) BF.out.size)) (fun j hj => (World.ownsRow.lt ho j hj).1))
              refine hK'.out _ _ (SA.out _ KP7.out) (fun hS => ?_)
              clear hK' K' o7 g7 nn7 kk7 ho hcf hbx
              refine wpAnyH_ready (rs := [6]) (by kernel_rfl) (by simp) ?_
              refine AllReadyH.cons rfl (fun K' hK' => ?_) AllReadyH.nil
              clear hS
              have cb := BX7.out.cell
              have fb := BX7.out.frozen
              have HPB : pb ≠ w.heap.size + 1 + 1 := fun e => by
                have h1 : Y13.heap[pb]? = _ := KP7.out
                have h2 : Y13.heap[w.heap.size + 1 + 1]? = _ := BX7.out
                rw [e, h2] at h1; cases h1
              go_simp
              refine hK'.out _ _ (SA.out _ (Blk.other KP7.out HPB _)) (fun hS => ?_)
              clear hK' K'
              refine wpAnyH_done (by kernel_rfl) ?_ _
              have HPG : g0 ≠ w.heap.size + 1 + 1 := fun e => by
                have h1 := hg0
                obtain ⟨cs, hc⟩ := own_type HRW.out (show (Value.slice (some ⟨g0, 0, none⟩) L0.length cap0).ownBlock = some g0 from rfl)
                have h2 : W'.heap[w.heap.size + 1 + 1]? = _ := HV.out
                rw [e, h2] at hc; cases hc
              exact ⟨va7, vc7, p22, by kernel_rfl, Blk.set BX7.out 0 _, own_same O7.out (fun j hj => Below.heap_setCell _ ⟨w.heap.size + 1 + 1, 0, none⟩ _ j (fun e => by
                have e : j = w.heap.size + 1 + 1 := e
                obtain ⟨cs, hc⟩ := own_type O7.out hj
                have h2 : _ = _ := BX7.out
                rw [e, h2] at hc; cases hc)), RD7.out.same (by simp [World.setCell]) (Below.heap_setCell _ ⟨w.heap.size + 1 + 1, 0, none⟩ _ g0 HPG), KK7.out.trans (KeepsOthers.setCell _ _ _), KL7.out.setCell (p := ⟨w.heap.size + 1 + 1, 0, none⟩) (show w.heap.size ≤ w.heap.size + 1 + 1 by omega) _⟩
      · have hk2 : L0.length ≤ k := by omega
        have HKE : Hid (k = L0.length) := by show _ = _; omega
        have HFIN : Hid (OwnS wr w.heap.size v (prtS (nbNats (pre ++ [x])))) := by
          have := KO.out
          rw [HKE.out, List.take_of_length_le (Nat.le_refl _)] at this
          rw [HX.out]; exact this
        clear hlt2
        gi_wp2_with fail
        exact ⟨KK.out.from _, KL.out, ⟨_, KB.out, HFIN.out, trivial⟩, HBB.out.trans KL.out⟩
  case done =>
    rintro D ys W hD rfl ⟨⟨v, hv, hrw, -⟩, hB⟩ hK
    have hc := hv.cell
    have hrow : prtS (nbNats ys) = prtS (allS S) := by rw [← hxs]; rfl
    rw [hrow] at hrw
    gi_wp2
    refine ⟨by simp, .inl ⟨_, _, rfl, run_takeDeferred hK, ?_⟩⟩
    refine ⟨_, results_tmp rfl _ _ _, ?_⟩
    exact ⟨v, rfl, ownsRow_putObj hrw _ hK rfl, hB.trans (belowK_b (w := w) (Nat.le_refl _) W D _ _ (by omega) hK rfl rfl)⟩
  case stop =>
    rintro D c pre W _ _ h _
    exact h.elim

theorem prt_any (S : Nat → Nat) (hS : okS S) (hall : ∀ k ∈ allS S, k < 6) (w : World) (hT : Tab w) :
    Calls Tryd.prog 184 #[sval S] w fun e W' => ∃ v, e = .returned v ∧ OwnS W' w.heap.size v (prtS (allS S)) ∧ Below w.heap.size w W' :=
  callsIn_wide.1 (prt_in S hS hall w hT)

end Go.Proofs.YtmlkpdeidpcidaaDoor
namespace Go.Proofs.YtmlkpdeidpcidaaDoor
open Go.RowKit
set_option linter.unusedVariables false

set_option maxRecDepth 100000 in
set_option maxHeartbeats 4000000 in
theorem ksafe_one (b : Bool) (S : Nat → Nat) (s : List Int) (hr : Hid (RepI S s)) (L : List PlC) (l : List (List Int × List Int)) (hR : Hid (RepCL L l)) (p : Plant) (P : PTL) (fa : Option Addr) (fc : Nat) (free : List Int) (R : Nat → Nat) (T : Nat → Nat → Nat) (mb c kb : Nat) (w : World) (hK : Hid (KV w kb p P fa fc free R T mb)) (hm : Hid (w.heap[mb]? = some (.map (entsC L) c))) (hk : Hid (knownB l s = b)) :
    Calls Tryd.prog 107 #[.pointer (some ⟨kb, 0, none⟩), sval S] w fun e w' => e = .returned (.bool b) ∧ Below w.heap.size w w' := by
  have LK : Hid (∀ X : World, X.heap[mb]? = some (.map (entsC L) c) → (Instr.lookup 165 (.map (some mb)) (.agg #[.int .u64 (S 0), .int .u64 (S 1), .int .u64 (S 2), .int .u64 (S 3)]) true).run Tryd.prog X = .ok (.tuple #[.agg #[], .bool b]) X) := fun X hX => by
    cases b with
    | true => exact lookC_known hR.out hr.out hX hk.out
    | false => exact lookC_new hR.out hr.out hX hk.out
  have B : Hid (Below w.heap.size w (w.alloc (.cells (scells S) 85))) := (Below.refl _ _).alloc (Nat.le_refl _) _
  have KX : Hid (SB (w.alloc (.cells (scells S) 85)) w.heap.size S) := Blk.new w _ _
  go_enter Tryd.func107, Tryd.ntmps107
  go_wp2_with fail
  have KK := Hid.of (hK.out.below B.out hK.out.lt)
  have KM := Hid.of ((B.out.block mb (Array.getElem?_eq_some_iff.1 hm.out).1).trans hm.out)
  revert B KX KK KM
  generalize w.alloc (.cells (scells S) 85) = V
  intro B KX KK KM
  have SA : Hid (∀ X, Below V.heap.size V X → X.cell? ⟨kb, 204, none⟩ = some (.map (some mb)) ∧ X.cell? ⟨w.heap.size, 0, none⟩ = some (.int .u64 (S 0)) ∧ X.cell? ⟨w.heap.size, 1, none⟩ = some (.int .u64 (S 1)) ∧ X.cell? ⟨w.heap.size, 2, none⟩ = some (.int .u64 (S 2)) ∧ X.cell? ⟨w.heap.size, 3, none⟩ = some (.int .u64 (S 3)) ∧ X.heap[mb]? = some (.map (entsC L) c)) := fun X hb => by
    obtain ⟨y0, y1, y2, y3⟩ := SB.cells (KX.out.below hb KX.out.lt)
    exact ⟨(KK.out.below hb KK.out.lt).mp, y0, y1, y2, y3, (hb.block mb (Array.getElem?_eq_some_iff.1 KM.out).1).trans KM.out⟩
  refine wp_region_held_drew (S := fun w' => w'.cell? ⟨kb, 204, none⟩ = some (.map (some mb)) ∧ w'.cell? ⟨w.heap.size, 0, none⟩ = some (.int .u64 (S 0)) ∧ w'.cell? ⟨w.heap.size, 1, none⟩ = some (.int .u64 (S 1)) ∧ w'.cell? ⟨w.heap.size, 2, none⟩ = some (.int .u64 (S 2)) ∧ w'.cell? ⟨w.heap.size, 3, none⟩ = some (.int .u64 (S 3)) ∧ w'.heap[mb]? = some (.map (entsC L) c)) (by kernel_rfl) (SA.out _ (Below.refl _ _).drew) (fun hS => ?_)
  have BF : Hid (Below V.heap.size V V.drew) := (Below.refl _ _).drew
  revert hS BF
  generalize V.drew = Y0
  intro hS BF
  refine wpAnyH_take (i := 0) (v := .pointer (some ⟨kb, 0, none⟩)) rfl (by kernel_rfl) (by kernel_rfl) (by kernel_rfl) (fun _ _ _ h => h) (Or.inl ⟨by kernel_rfl, fun w' hw' => by obtain ⟨q0, q1, q2, q3, q4, q5⟩ := hw'; go_simp⟩) hS ?_
  refine wpAnyH_take (i := 1) (v := .pointer (some ⟨kb, 0, none⟩)) rfl (by kernel_rfl) (by kernel_rfl) (by kernel_rfl) (fun _ _ _ h => h) (Or.inl ⟨by kernel_rfl, fun w' hw' => by obtain ⟨q0, q1, q2, q3, q4, q5⟩ := hw'; go_simp⟩) hS ?_
  refine wpAnyH_take (i := 2) (v := .pointer (some ⟨kb, 204, none⟩)) rfl (by kernel_rfl) (by kernel_rfl) (by kernel_rfl) (fun _ _ _ h => h) (Or.inl ⟨by kernel_rfl, fun w' hw' => by obtain ⟨q0, q1, q2, q3, q4, q5⟩ := hw'; go_simp⟩) hS ?_
  refine wpAnyH_take (i := 3) (v := .map (some mb)) rfl (by kernel_rfl) (by kernel_rfl) (by kernel_rfl) (fun _ _ _ h => h) (Or.inl ⟨by kernel_rfl, fun w' hw' => by obtain ⟨q0, q1, q2, q3, q4, q5⟩ := hw'; go_simp⟩) hS ?_
  refine wpAnyH_take (i := 4) (v := sval S) rfl (by kernel_rfl) (by kernel_rfl) (by kernel_rfl) (fun _ _ _ h => h) (Or.inl ⟨by kernel_rfl, fun w' hw' => by obtain ⟨q0, q1, q2, q3, q4, q5⟩ := hw'; go_simp⟩) hS ?_
  refine wpAnyH_take (i := 5) (v := .tuple #[.agg #[], .bool b]) rfl (by kernel_rfl) (by kernel_rfl) (by kernel_rfl) (fun _ _ _ h => h) (Or.inl ⟨by kernel_rfl, fun w' hw' => by obtain ⟨q0, q1, q2, q3, q4, q5⟩ := hw'; have lk := LK.out w' q5; go_simp⟩) hS ?_
  refine wpAnyH_take (i := 6) (v := .tuple #[.agg #[], .bool b]) rfl (by kernel_rfl) (by kernel_rfl) (by kernel_rfl) (fun _ _ _ h => h) (Or.inl ⟨by kernel_rfl, fun w' hw' => by obtain ⟨q0, q1, q2, q3, q4, q5⟩ := hw'; go_simp⟩) hS ?_
  refine wpAnyH_take (i := 7) (v := .agg #[]) rfl (by kernel_rfl) (by kernel_rfl) (by kernel_rfl) (fun _ _ _ h => h) (Or.inl ⟨by kernel_rfl, fun w' hw' => by obtain ⟨q0, q1, q2, q3, q4, q5⟩ := hw'; go_simp⟩) hS ?_
  refine wpAnyH_take (i := 8) (v := .bool b) rfl (by kernel_rfl) (by kernel_rfl) (by kernel_rfl) (fun _ _ _ h => h) (Or.inl ⟨by kernel_rfl, fun w' hw' => by obtain ⟨q0, q1, q2, q3, q4, q5⟩ := hw'; go_simp⟩) hS ?_
  refine wpAnyH_ready (rs := [9]) (by kernel_rfl) (by simp) ?_
  refine AllReadyH.cons rfl (fun K' hK' => ?_) AllReadyH.nil
  clear hS
  go_simp
  have hb : Below Y0.heap.size Y0 (Y0.alloc (.cells #[] 191)) := (Below.refl _ _).alloc (Nat.le_refl _) _
  replace BF := Hid.of (BF.out.trans (hb.mono BF.out.size))
  have KE := Hid.of (Blk.new Y0 191 #[])
  refine hK'.out _ _ (SA.out _ BF.out) (fun hS => ?_)
  clear hK' K' hb
  refine wpAnyH_ready (rs := [10]) (by kernel_rfl) (by simp) ?_
  refine AllReadyH.cons rfl (fun K' hK' => ?_) AllReadyH.nil
  clear hS
  have ke : (Y0.alloc (.cells #[] 191)).heap[Y0.heap.size]? = some (.cells #[] 191 (0, 0)) := KE.out
  go_simp
  refine hK'.out _ _ (SA.out _ BF.out) (fun hS => ?_)
  clear hK' K'
  refine wpAnyH_take (i := 11) (v := .bool b) rfl (by kernel_rfl) (by kernel_rfl) (by kernel_rfl) (fun _ _ _ h => h) (Or.inl ⟨by kernel_rfl, fun w' hw' => by obtain ⟨q0, q1, q2, q3, q4, q5⟩ := hw'; go_simp⟩) hS ?_
  refine wpAnyH_done (by kernel_rfl) ?_ _
  go_wp2_with fail
  go_ret
  exact ⟨rfl, B.out.trans (BF.out.mono B.out.size)⟩

end Go.Proofs.YtmlkpdeidpcidaaDoor
namespace Go.Proofs.YtmlkpdeidpcidaaDoor
open Go.RowKit
set_option linter.unusedVariables false

/-! The machine of what is known. -/
/-- All rows of states. -/
structure KL (p : Plant) (L : List (List Int)) : Prop where
  nd : L.Nodup
  all : ∀ l, Inc l → (∀ x ∈ l, 0 ≤ x ∧ x < p.m.st) → l ∈ L
  row : ∀ l ∈ L, Inc l ∧ ∀ x ∈ l, 0 ≤ x ∧ x < p.m.st
  len : L.length ≤ 64
  pos : 0 < L.length
theorem kl_prt {p : Plant} (hp : mayP p = true) {N : Nat} (hN : p.m.st = (N : Int)) : KL p (prtL (List.range N)) := by
  have h6 := states_bd hp
  have hr := prt_rep (List.range N) List.pairwise_lt_range (fun n hn => by have := List.mem_range.1 hn; omega)
  have hl : (prtL (List.range N)).length = 2 ^ N := by rw [← hr.len, prt_len, List.length_range]
  refine ⟨prtL_nodup _ List.nodup_range, fun l hi hb => (mem_prtL _ _).2 (natL_sub l N hi (fun x hx => by have := hb x hx; omega)), fun l hl => ?_, ?_, ?_⟩
  · obtain ⟨k, hk⟩ := List.mem_iff_getElem?.1 hl
    obtain ⟨S, -, h2, h3⟩ := hr.at hk
    refine ⟨h3, fun x hx => ?_⟩
    have := ((mem_prtL _ _).1 hl).subset hx
    obtain ⟨n, hn, rfl⟩ := List.mem_map.1 this
    have := List.mem_range.1 hn
    omega
  · rw [hl]
    have : N ≤ 6 := by omega
    calc 2 ^ N ≤ 2 ^ 6 := Nat.pow_le_pow_right (by omega) this
      _ = 64 := rfl
  · rw [hl]; exact Nat.pow_pos (by omega)
/-- The number of the row that a row leads to. -/
def nxN (p : Plant) (L : List (List Int)) (n : Nat) (e : Int) : Nat := findL L (seeL p (L[n]?.getD []) e)
def kRow (p : Plant) (L : List (List Int)) (n k : Nat) : List Arr := (p.seen.take k).map fun e => ⟨(n : Int), e, (nxN p L n e : Int)⟩
def knA (p : Plant) (L : List (List Int)) (n k : Nat) : List Arr := ((List.range n).flatMap fun i => kRow p L i p.seen.length) ++ kRow p L n k
theorem knA_event {p : Plant} {L : List (List Int)} {n k : Nat} {e : Int} (h : p.seen[k]? = some e) : knA p L n (k + 1) = knA p L n k ++ [⟨(n : Int), e, (nxN p L n e : Int)⟩] := by
  unfold knA kRow
  rw [List.take_add_one, h, Option.toList_some, List.map_append, ← List.append_assoc]; rfl
theorem knA_next (p : Plant) (L : List (List Int)) (n : Nat) : knA p L (n + 1) 0 = knA p L n p.seen.length := by
  unfold knA
  rw [List.range_succ, List.flatMap_append]
  simp [kRow]
theorem mem_knA {p : Plant} {L : List (List Int)} {n : Nat} (a : Arr) : a ∈ knA p L n 0 ↔ ∃ i, i < n ∧ ∃ e ∈ p.seen, a = ⟨(i : Int), e, (nxN p L i e : Int)⟩ := by
  unfold knA kRow
  simp only [List.take_zero, List.map_nil, List.append_nil, List.mem_flatMap, List.mem_range, List.mem_map, List.take_length]
  constructor
  · rintro ⟨i, hi, e, he, rfl⟩; exact ⟨i, hi, e, he, rfl⟩
  · rintro ⟨i, hi, e, he, rfl⟩; exact ⟨i, hi, e, he, rfl⟩
theorem knA_len (p : Plant) (L : List (List Int)) (h8 : p.seen.length ≤ 8) : ∀ n k, k ≤ p.seen.length → (knA p L n k).length ≤ n * 8 + k := by
  intro n
  induction n with
  | zero => intro k hk; simp [knA, kRow]; omega
  | succ n ih =>
    intro k hk
    have h1 := ih p.seen.length (Nat.le_refl _)
    have h2 : (knA p L (n + 1) k).length = (knA p L (n + 1) 0).length + (kRow p L (n + 1) k).length := by simp [knA, kRow]
    rw [h2, knA_next]
    have : (kRow p L (n + 1) k).length ≤ k := by simp [kRow]; omega
    omega
theorem seen_len {p : Plant} (hp : mayP p = true) : p.seen.length ≤ 8 := by
  obtain ⟨h1, h2⟩ := seen_bd hp
  exact nodup_len 8 _ (inc_nodup h1) (fun x hx => by have := h2 x hx; omega)
theorem nx_at {p : Plant} (hp : mayP p = true) {L : List (List Int)} (h : KL p L) {n : Nat} {l : List Int} (hn : L[n]? = some l) (e : Int) : L[nxN p L n e]? = some (seeL p l e) ∧ nxN p L n e < L.length := by
  have hm := ((mayP_iff p).1 hp).1
  have hi := see_in hm l e
  have hmem := h.all _ hi.1 hi.2
  have hlt : nxN p L n e < L.length := by
    unfold nxN
    rw [hn, Option.getD_some]
    have h1 := findL_le L (seeL p l e)
    have h2 : findL L (seeL p l e) ≠ L.length := fun hh => findL_new.1 hh hmem
    omega
  refine ⟨?_, hlt⟩
  unfold nxN at hlt ⊢
  rw [hn, Option.getD_some] at hlt ⊢
  exact findL_get hlt
def knM (p : Plant) (L : List (List Int)) : Mach := ⟨(L.length : Int), p.m.ev, [], knA p L L.length 0, []⟩
theorem row_nil (n : Int) (h : n ≤ 2147483648) : rowB n [] = true := (rowB_iff _ h _).2 ⟨by simp [Inc], by simp⟩
theorem may_kn {p : Plant} (hp : mayP p = true) {L : List (List Int)} (h : KL p L) : mayB (knM p L) = true := by
  obtain ⟨hm, -, -, -⟩ := (mayP_iff p).1 hp
  have hz := mayB_size hm
  unfold sizeOk at hz
  have hsl := seen_len hp
  have hs := seen_bd hp
  have hL := h.len
  have hpos := h.pos
  have hal := knA_len p L hsl L.length 0 (Nat.zero_le _)
  rw [mayB_go (m := knM p L) ⟨by show (1 : Int) ≤ L.length; omega, by show (L.length : Int) ≤ 256; omega, hz.2.2.1, hz.2.2.2.1, by show (knA p L L.length 0).length ≤ 4096; omega⟩ (row_nil _ (by show (L.length : Int) ≤ _; omega)) (row_nil _ (by show (L.length : Int) ≤ _; omega))]
  rw [arrsFrom_iff]
  refine ⟨fun a ha => ?_, ?_, fun _ _ => rfl⟩
  · obtain ⟨i, hi, e, he, rfl⟩ := (mem_knA _).1 ha
    have h1 := (nx_at hp h (List.getElem?_eq_getElem hi) e).2
    have h2 := hs.2 e he
    exact ⟨by dsimp only; omega, by show (i : Int) < L.length; omega, by dsimp only; omega, by show (nxN p L i e : Int) < L.length; omega, by dsimp only; omega, by show e < p.m.ev; omega⟩
  · show IncA (knA p L L.length 0)
    unfold knA
    simp only [kRow, List.take_zero, List.map_nil, List.append_nil, List.take_length]
    unfold IncA
    rw [List.pairwise_flatMap]
    refine ⟨fun i _ => ?_, List.pairwise_lt_range.imp fun {i j} hij a ha b hb => ?_⟩
    · rw [List.pairwise_map]
      refine hs.1.imp fun {a b} hab => (aheadB_iff _ _).2 ?_
      dsimp only; omega
    · obtain ⟨e, -, rfl⟩ := List.mem_map.1 ha
      obtain ⟨e', -, rfl⟩ := List.mem_map.1 hb
      refine (aheadB_iff _ _).2 ?_
      dsimp only; omega
/-- The numbers of the rows that tell. -/
def badN (p : Plant) (L : List (List Int)) (n : Nat) : List Int := ((List.range n).filter fun i => leakB p.secret (L[i]?.getD [])).map fun i : Nat => (i : Int)
theorem badN_yes {p : Plant} {L : List (List Int)} {n : Nat} {l : List Int} (hn : L[n]? = some l) (h : leakB p.secret l = true) : badN p L (n + 1) = badN p L n ++ [(n : Int)] := by
  unfold badN
  rw [List.range_succ, List.filter_append, List.map_append]
  simp [hn, h]
theorem badN_no {p : Plant} {L : List (List Int)} {n : Nat} {l : List Int} (hn : L[n]? = some l) (h : leakB p.secret l = false) : badN p L (n + 1) = badN p L n := by
  unfold badN
  rw [List.range_succ, List.filter_append, List.map_append]
  simp [hn, h]
theorem mem_badN {p : Plant} {L : List (List Int)} {n : Nat} (x : Int) : x ∈ badN p L n ↔ ∃ i : Nat, x = (i : Int) ∧ i < n ∧ leakB p.secret (L[i]?.getD []) = true := by
  unfold badN
  simp only [List.mem_map, List.mem_filter, List.mem_range]
  constructor
  · rintro ⟨i, ⟨h1, h2⟩, rfl⟩; exact ⟨i, rfl, h1, h2⟩
  · rintro ⟨i, rfl, h1, h2⟩; exact ⟨i, ⟨h1, h2⟩, rfl⟩
theorem badN_len (p : Plant) (L : List (List Int)) (n : Nat) : (badN p L n).length ≤ n := by
  unfold badN
  rw [List.length_map]
  have := List.length_filter_le (fun i => leakB p.secret (L[i]?.getD [])) (List.range n)
  rwa [List.length_range] at this
theorem badN_row {p : Plant} {L : List (List Int)} (hL : L.length ≤ 64) : rowB (L.length : Int) (badN p L L.length) = true := by
  refine (rowB_iff _ (by omega) _).2 ⟨?_, fun x hx => ?_⟩
  · unfold badN Inc
    rw [List.pairwise_map]
    exact (List.Pairwise.filter _ List.pairwise_lt_range).imp (fun h => by omega)
  · obtain ⟨i, rfl, h1, -⟩ := (mem_badN x).1 hx
    omega
/-- What is to be kept to are the rows that can be kept. -/
theorem good_kn {p : Plant} (hp : mayP p = true) {L : List (List Int)} (h : KL p L) (free : List Int) {n : Nat} {l : List Int} (hn : L[n]? = some l) : (n : Int) ∈ keepL (knM p L) free (badN p L L.length) ↔ GoodP p free l := by
  have hmk := may_kn hp h
  constructor
  · intro hk
    obtain ⟨s1, s2⟩ := (safeB_iff _ _ _ _).1 (keep_safe hmk free (badN p L L.length))
    refine good_of (fun r => ∃ k : Nat, L[k]? = some r ∧ (k : Int) ∈ keepL (knM p L) free (badN p L L.length)) ?_ ?_ ⟨n, hn, hk⟩
    · rintro r ⟨k, h1, h2⟩
      cases hl : leakB p.secret r with
      | false => rfl
      | true => exact absurd ((mem_badN _).2 ⟨k, rfl, (List.getElem?_eq_some_iff.1 h1).1, by rw [h1]; exact hl⟩) (s1 _ h2)
    · rintro r e ⟨k, h1, h2⟩ he hf
      have h3 := nx_at hp h h1 e
      exact ⟨nxN p L k e, h3.1, s2 ⟨(k : Int), e, (nxN p L k e : Int)⟩ ((mem_knA _).2 ⟨k, (List.getElem?_eq_some_iff.1 h1).1, e, he, rfl⟩) h2 hf⟩
  · intro hg
    let G : List Int := ((List.range L.length).filter fun i => @decide (GoodP p free (L[i]?.getD [])) (Classical.propDecidable _)).map fun i : Nat => (i : Int)
    have memG : ∀ x, x ∈ G ↔ ∃ i : Nat, x = (i : Int) ∧ i < L.length ∧ GoodP p free (L[i]?.getD []) := fun x => by
      show x ∈ List.map _ _ ↔ _
      rw [List.mem_map]
      constructor
      · rintro ⟨i, hi, rfl⟩
        rw [List.mem_filter, List.mem_range] at hi
        exact ⟨i, rfl, hi.1, @of_decide_eq_true _ (Classical.propDecidable _) hi.2⟩
      · rintro ⟨i, rfl, h1, h2⟩
        exact ⟨i, List.mem_filter.2 ⟨List.mem_range.2 h1, @decide_eq_true _ (Classical.propDecidable _) h2⟩, rfl⟩
    refine keep_most hmk (l := G) (fun x hx => ?_) ?_ _ ((memG _).2 ⟨n, rfl, (List.getElem?_eq_some_iff.1 hn).1, by rw [hn]; exact hg⟩)
    · obtain ⟨i, rfl, h1, -⟩ := (memG x).1 hx
      show (0 : Int) ≤ i ∧ (i : Int) < (L.length : Int)
      omega
    · refine (safeB_iff _ _ _ _).2 ⟨fun x hx hb => ?_, fun a ha hf he => ?_⟩
      · obtain ⟨i, rfl, h1, h2⟩ := (memG x).1 hx
        obtain ⟨j, hj, -, h4⟩ := (mem_badN _).1 hb
        have : j = i := by omega
        subst this
        rw [good_now h2] at h4; cases h4
      · obtain ⟨i, hi, e, hes, rfl⟩ := (mem_knA a).1 ha
        obtain ⟨j, hj, h1, h2⟩ := (memG _).1 hf
        have hj : (i : Int) = (j : Int) := hj
        have : j = i := by omega
        subst this
        have hx := List.getElem?_eq_getElem hi
        rw [hx, Option.getD_some] at h2
        have h3 := nx_at hp h hx e
        exact (memG _).2 ⟨nxN p L j e, rfl, h3.2, by rw [h3.1]; exact good_see h2 hes he⟩
/-- A way to tell is there. -/
theorem tells_there (p : Plant) (free : List Int) : ∃ g, TellsG p free g := ⟨fun r => @decide (GoodP p free r) (Classical.propDecidable _), fun r _ _ => ⟨fun h => @of_decide_eq_true _ (Classical.propDecidable _) h, fun h => @decide_eq_true _ (Classical.propDecidable _) h⟩⟩
/-- The rows that can be kept, as the program's map has them. -/
def sfL (L : List (List Int)) (ks : List Int) : List (List Int × List Int) := ks.map fun n => (L[n.toNat]?.getD [], [])
theorem safe_known {p : Plant} (hp : mayP p = true) {L : List (List Int)} (h : KL p L) {free : List Int} {g : List Int → Bool} (hg : TellsG p free g) {l : List Int} (hi : Inc l) (hb : ∀ x ∈ l, 0 ≤ x ∧ x < p.m.st) : knownB (sfL L (keepL (knM p L) free (badN p L L.length))) l = g l := by
  obtain ⟨n, hn⟩ := List.mem_iff_getElem?.1 (h.all l hi hb)
  rw [Bool.eq_iff_iff, knownB_iff, hg l hi hb, ← good_kn hp h free hn]
  unfold sfL
  constructor
  · rintro ⟨x, hx, rfl⟩
    obtain ⟨k, hk, rfl⟩ := List.mem_map.1 hx
    have hkb := keep_bd (may_kn hp h) free _ k hk
    have hkb2 : 0 ≤ k ∧ k < (L.length : Int) := hkb
    have hx2 := List.getElem?_eq_getElem (show k.toNat < L.length by omega)
    dsimp only at hn
    rw [hx2, Option.getD_some] at hn
    have e1 := findL_at h.nd hn
    have e2 := findL_at h.nd hx2
    have : k = (n : Int) := by omega
    rw [← this]; exact hk
  · intro hk
    exact ⟨(l, []), List.mem_map.2 ⟨(n : Int), hk, by rw [Int.toNat_natCast, hn]; rfl⟩, rfl⟩
theorem sf_new {L : List (List Int)} (hL : L.Nodup) {ks : List Int} (hi : Inc ks) (hb : ∀ x ∈ ks, 0 ≤ x ∧ x < (L.length : Int)) {k : Nat} {n : Int} (hk : ks[k]? = some n) : knownB (sfL L (ks.take k)) (L[n.toNat]?.getD []) = false := by
  cases hx : knownB (sfL L (ks.take k)) (L[n.toNat]?.getD []) with
  | false => rfl
  | true =>
    obtain ⟨x, h1, h2⟩ := (knownB_iff _ _).1 hx
    obtain ⟨m, hm, rfl⟩ := List.mem_map.1 h1
    have hnb := hb n (List.mem_of_getElem? hk)
    have hmb := hb m (List.mem_of_mem_take hm)
    have a1 := List.getElem?_eq_getElem (show n.toNat < L.length by omega)
    have a2 := List.getElem?_eq_getElem (show m.toNat < L.length by omega)
    dsimp only at h2
    rw [a1, a2, Option.getD_some, Option.getD_some] at h2
    have e1 := findL_at hL a1
    have e2 := findL_at hL a2
    rw [h2, e1] at e2
    have hmn : m < n := by
      obtain ⟨j, hj⟩ := List.mem_iff_getElem?.1 hm
      have hjk : j < k := by have := (List.getElem?_eq_some_iff.1 hj).1; simp at this; omega
      rw [List.getElem?_take_of_lt hjk] at hj
      obtain ⟨j1, j2⟩ := List.getElem?_eq_some_iff.1 hj
      obtain ⟨k1, k2⟩ := List.getElem?_eq_some_iff.1 hk
      have := List.pairwise_iff_getElem.1 hi j k j1 k1 hjk
      rw [j2, k2] at this; exact this
    omega

/-! What stays. -/
def StO (p : Plant) (g : List Int → Bool) (e : Int) (L : List (List Int)) (O : Nat → Nat) : Prop := okS O ∧ ∀ n, n < 256 → (hasS O n = true ↔ ∃ l ∈ L, g (seeL p l e) = true ∧ (n : Int) ∈ l)
theorem StO.start (p : Plant) (g : List Int → Bool) (e : Int) : StO p g e [] zeroS := ⟨okS_zero, fun n _ => by simp [hasS_zero]⟩
theorem StO.yes {p : Plant} {g : List Int → Bool} {e : Int} {L : List (List Int)} {O S : Nat → Nat} {l : List Int} (h : StO p g e L O) (hr : Rep S l) (hg : g (seeL p l e) = true) : StO p g e (L ++ [l]) (joinS O S) := by
  refine ⟨okS_join h.1 hr.ok, fun n hn => ?_⟩
  rw [hasS_join, Bool.or_eq_true, h.2 n hn, hr.mem n hn]
  constructor
  · rintro (⟨q, h1, h2⟩ | h1)
    · exact ⟨q, List.mem_append_left _ h1, h2⟩
    · exact ⟨l, List.mem_append_right _ (by simp), hg, h1⟩
  · rintro ⟨q, h1, h2, h3⟩
    rcases List.mem_append.1 h1 with h1 | h1
    · exact .inl ⟨q, h1, h2, h3⟩
    · have : q = l := by simpa using h1
      subst this; exact .inr h3
theorem StO.no {p : Plant} {g : List Int → Bool} {e : Int} {L : List (List Int)} {O : Nat → Nat} {l : List Int} (h : StO p g e L O) (hg : g (seeL p l e) = false) : StO p g e (L ++ [l]) O := by
  refine ⟨h.1, fun n hn => ?_⟩
  rw [h.2 n hn]
  constructor
  · rintro ⟨q, h1, h2⟩; exact ⟨q, List.mem_append_left _ h1, h2⟩
  · rintro ⟨q, h1, h2, h3⟩
    rcases List.mem_append.1 h1 with h1 | h1
    · exact ⟨q, h1, h2, h3⟩
    · have : q = l := by simpa using h1
      subst this; rw [hg] at h2; cases h2
theorem wide_ext {p : Plant} (hm : mayB p.m = true) {a b : List Int} (h : ∀ x, x ∈ a ↔ x ∈ b) : wideL p.m.arrows p.seen a = wideL p.m.arrows p.seen b := by
  refine inc_ext (inc_wide _ _ _) (inc_wide _ _ _) fun x => ?_
  rw [vWide_one hm a, vWide_one hm b]
  exact exists_congr fun t => and_congr_left fun _ => h t
theorem StO.fin {p : Plant} (hp : mayP p = true) (hpl : PlnV p) {free : List Int} {g : List Int → Bool} (hg : TellsG p free g) {e : Int} (he : e ∈ p.seen) (hf : hasB free e = true) {node : List Int} (hb : ∀ x ∈ node, 0 ≤ x ∧ x < p.m.st) {Sa O : Nat → Nat} (hr : Rep Sa (ableL p node e)) (h : StO p g e (prtL (allS Sa)) O) (hin : Inc node) : Rep O (stayV p g free node e) := by
  have hm := ((mayP_iff p).1 hp).1
  have h6 := states_bd hp
  have hse := (seen_bd hp).2 e he
  have hia : Inc (ableL p node e) := List.Pairwise.filter _ hin
  have hall : (allS Sa).map (fun n : Nat => (n : Int)) = ableL p node e := rep_row hr hia
  refine ⟨h.1, fun x hx => by have := hb x ((mem_stay _ _ _ _ _ _).1 hx).1; omega, fun n hn => ?_⟩
  rw [h.2 n hn, mem_stay]
  have htv : toV p g free node e = mostL p g (stepL p.m.arrows node e) := by unfold toV; rw [if_pos hf]
  rw [htv]
  constructor
  · rintro ⟨l, h1, h2, h3⟩
    have hsub := (mem_prtL _ _).1 h1
    rw [hall] at hsub
    obtain ⟨n1, t, ht⟩ := (mem_ableL node e _).1 (hsub.subset h3)
    refine ⟨n1, t, ht, ?_⟩
    have hst : ∀ x ∈ stepL p.m.arrows l e, x ∈ stepL p.m.arrows node e := fun x hx => by
      obtain ⟨a, b1, b2, b3, b4⟩ := (mem_stepL _ _ _ _).1 hx
      exact (mem_stepL _ _ _ _).2 ⟨a, b1, b2, ((mem_ableL node e _).1 (hsub.subset b3)).1, b4⟩
    have hgo : GoodP p free (wideL p.m.arrows p.seen (stepL p.m.arrows l e)) := (hg _ (see_in hm l e).1 (see_in hm l e).2).1 h2
    refine most_has hm hg (step_bd hm) hst hgo t ?_
    have : t ∈ stepL p.m.arrows [(n : Int)] e := by rw [ht]; simp
    obtain ⟨a, b1, b2, b3, b4⟩ := (mem_stepL _ _ _ _).1 this
    have b3 : a.f = (n : Int) := by simpa using b3
    exact (mem_stepL _ _ _ _).2 ⟨a, b1, b2, by rw [b3]; exact h3, b4⟩
  · rintro ⟨n1, t, ht, hmo⟩
    obtain ⟨l', c1, c2, c3⟩ := (mem_most _ _ _ _).1 hmo
    let X : List Int := (ableL p node e).filter fun s => hasB l' ((stepL p.m.arrows [s] e)[0]?.getD 0)
    have hXs : X.Sublist (ableL p node e) := List.filter_sublist
    have memX : ∀ s, s ∈ X ↔ s ∈ node ∧ ∃ y, stepL p.m.arrows [s] e = [y] ∧ y ∈ l' := fun s => by
      show s ∈ List.filter _ _ ↔ _
      rw [List.mem_filter, mem_ableL, hasB_iff]
      constructor
      · rintro ⟨⟨d1, y, d2⟩, d3⟩
        rw [d2] at d3
        exact ⟨d1, y, d2, by simpa using d3⟩
      · rintro ⟨d1, y, d2, d3⟩
        exact ⟨⟨d1, y, d2⟩, by rw [d2]; simpa using d3⟩
    refine ⟨X, (mem_prtL _ _).2 (by rw [hall]; exact hXs), ?_, (memX _).2 ⟨n1, t, ht, c2⟩⟩
    have : seeL p X e = wideL p.m.arrows p.seen l' := by
      unfold seeL
      refine wide_ext hm fun x => ?_
      constructor
      · intro hx
        obtain ⟨a, b1, b2, b3, b4⟩ := (mem_stepL _ _ _ _).1 hx
        obtain ⟨-, y, d2, d3⟩ := (memX _).1 b3
        have : x ∈ stepL p.m.arrows [a.f] e := (mem_stepL _ _ _ _).2 ⟨a, b1, b2, by simp, b4⟩
        rw [d2] at this
        have : x = y := by simpa using this
        rw [this]; exact d3
      · intro hx
        obtain ⟨a, b1, b2, b3, b4⟩ := (mem_stepL _ _ _ _).1 (c1.subset hx)
        have hst : stepL p.m.arrows [a.f] e = [x] := by rw [← b2, ← b4]; exact pln_arr hm hpl b1
        exact (mem_stepL _ _ _ _).2 ⟨a, b1, b2, (memX _).2 ⟨b3, x, hst, hx⟩, b4⟩
    rw [this]; exact c3
theorem stay_able {p : Plant} (g : List Int → Bool) {free node : List Int} {e : Int} (hf : hasB free e = false) : stayV p g free node e = ableL p node e := by
  unfold stayV ableL
  refine List.filter_congr fun s hs => ?_
  cases hd : decide ((stepL p.m.arrows [s] e).length = 1) with
  | false => rfl
  | true =>
    obtain ⟨t, ht⟩ := List.length_eq_one_iff.1 (of_decide_eq_true hd)
    rw [Bool.true_and, hasB_iff]
    unfold toV
    rw [if_neg (by rw [hf]; simp), ht]
    have : t ∈ stepL p.m.arrows [s] e := by rw [ht]; simp
    obtain ⟨a, b1, b2, b3, b4⟩ := (mem_stepL _ _ _ _).1 this
    have b3 : a.f = s := by simpa using b3
    exact (mem_stepL _ _ _ _).2 ⟨a, b1, b2, by rw [b3]; exact hs, b4⟩
/-- Where what stays leads to. -/
theorem stay_see {p : Plant} (hm : mayB p.m = true) (hpl : PlnV p) (g : List Int → Bool) (free node : List Int) (e : Int) : seeL p (stayV p g free node e) e = wideL p.m.arrows p.seen (toV p g free node e) := by
  unfold seeL
  refine wide_ext hm fun x => ?_
  constructor
  · intro hx
    obtain ⟨a, b1, b2, b3, b4⟩ := (mem_stepL _ _ _ _).1 hx
    obtain ⟨-, t, d2, d3⟩ := (mem_stay _ _ _ _ _ _).1 b3
    have : x ∈ stepL p.m.arrows [a.f] e := (mem_stepL _ _ _ _).2 ⟨a, b1, b2, by simp, b4⟩
    rw [d2] at this
    have : x = t := by simpa using this
    rw [this]; exact d3
  · intro hx
    obtain ⟨a, b1, b2, b3, b4⟩ := (mem_stepL _ _ _ _).1 (toV_sub _ _ _ _ _ _ hx)
    have hst : stepL p.m.arrows [a.f] e = [x] := by rw [← b2, ← b4]; exact pln_arr hm hpl b1
    exact (mem_stepL _ _ _ _).2 ⟨a, b1, b2, (mem_stay _ _ _ _ _ _).2 ⟨b3, x, hst, hx⟩, b4⟩
theorem posN_findL : ∀ (l : List (List Int)) (s : List Int), posN l s = findL l s
  | [], s => rfl
  | q :: r, s => by unfold posN findL; rw [posN_findL r s]

end Go.Proofs.YtmlkpdeidpcidaaDoor
