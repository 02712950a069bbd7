/-
  The keeper of package veil in memory.
  The walks of keeper.all and keeper.unseen.
  The walks of keeper.next and keeper.able.
  The walk of keeper.able.
-/
import Derived.Test.YtmlkpdeidpcidaaDoorJ36
import Derived.Test.YtmlkpdeidpcidaaDoorJ30
import Derived.Test.YtmlkpdeidpcidaaDoorJ10
import Derived.Test.YtmlkpdeidpcidaaDoorJ21
import Derived.Test.YtmlkpdeidpcidaaDoorJ31
import Derived.Test.YtmlkpdeidpcidaaDoorFSpread
import Derived.Test.YtmlkpdeidpcidaaDoorJ18
namespace Go.Proofs.YtmlkpdeidpcidaaDoor
open Go.RowKit
set_option linter.unusedVariables false

/-- The keeper lies in block kb: the plant, what is free, the set of what is secret, the table, the map. -/
def KV (W : World) (kb : Nat) (p : Plant) (P : PTL) (fa : Option Addr) (fc : Nat) (free : List Int) (R : Nat → Nat) (T : Nat → Nat → Nat) (mb : Nat) : Prop := ∃ cs, Blk W kb 167 cs ∧ cs.size = 205 ∧
  (∀ (j : Nat) (v : Value), (ptcells p P)[j]? = some v → cs[j]? = some v) ∧ cs[7]? = some (.slice fa free.length fc) ∧ (∀ j, j < 4 → cs[8 + j]? = some (.int .u64 (R j))) ∧
  (∀ n e j, n < 6 → e < 8 → j < 4 → cs[12 + n * 32 + e * 4 + j]? = some (.int .u64 (T (n * 8 + e) j))) ∧ cs[204]? = some (.map (some mb))
section
variable {W W' : World} {kb mb B : Nat} {p : Plant} {P : PTL} {fa : Option Addr} {fc : Nat} {free : List Int} {R : Nat → Nat} {T : Nat → Nat → Nat}
theorem KV.lt (h : KV W kb p P fa fc free R T mb) : kb < W.heap.size := by obtain ⟨cs, h1, -⟩ := h; exact h1.lt
theorem KV.frozen (h : KV W kb p P fa fc free R T mb) (j : Nat) : W.frozen? ⟨kb, j, none⟩ = false := by obtain ⟨cs, h1, -⟩ := h; exact h1.frozen j
theorem KV.below (h : KV W kb p P fa fc free R T mb) (hb : Below B W W') (hB : kb < B) : KV W' kb p P fa fc free R T mb := by
  obtain ⟨cs, h1, h2⟩ := h; exact ⟨cs, h1.below hb hB, h2⟩
theorem KV.same (h : KV W kb p P fa fc free R T mb) (hs : W'.heap[kb]? = W.heap[kb]?) : KV W' kb p P fa fc free R T mb := by
  obtain ⟨cs, h1, h2⟩ := h; exact ⟨cs, hs.trans h1, h2⟩
theorem KV.plant (h : KV W kb p P fa fc free R T mb) : W.cell? ⟨kb, 0, none⟩ = some (.int .i64 p.m.st) ∧ W.cell? ⟨kb, 1, none⟩ = some (.int .i64 p.m.ev) ∧ W.cell? ⟨kb, 2, none⟩ = some (.slice P.l.a1 p.m.starts.length P.l.c1) ∧ W.cell? ⟨kb, 3, none⟩ = some (.slice P.l.a2 p.m.arrows.length P.l.c2) ∧ W.cell? ⟨kb, 4, none⟩ = some (.slice P.l.a3 p.m.ends.length P.l.c3) ∧ W.cell? ⟨kb, 5, none⟩ = some (.slice P.sa p.seen.length P.sc) ∧ W.cell? ⟨kb, 6, none⟩ = some (.slice P.ta p.secret.length P.tc) := by
  obtain ⟨cs, h1, -, h2, -⟩ := h
  exact ⟨h1.cell 0 (h2 0 _ rfl), h1.cell 1 (h2 1 _ rfl), h1.cell 2 (h2 2 _ rfl), h1.cell 3 (h2 3 _ rfl), h1.cell 4 (h2 4 _ rfl), h1.cell 5 (h2 5 _ rfl), h1.cell 6 (h2 6 _ rfl)⟩
theorem KV.fr (h : KV W kb p P fa fc free R T mb) : W.cell? ⟨kb, 7, none⟩ = some (.slice fa free.length fc) := by
  obtain ⟨cs, h1, -, -, h2, -⟩ := h; exact h1.cell 7 h2
theorem KV.sec (h : KV W kb p P fa fc free R T mb) : W.cell? ⟨kb, 8, none⟩ = some (.int .u64 (R 0)) ∧ W.cell? ⟨kb, 9, none⟩ = some (.int .u64 (R 1)) ∧ W.cell? ⟨kb, 10, none⟩ = some (.int .u64 (R 2)) ∧ W.cell? ⟨kb, 11, none⟩ = some (.int .u64 (R 3)) := by
  obtain ⟨cs, h1, -, -, -, h2, -⟩ := h
  exact ⟨h1.cell 8 (h2 0 (by omega)), h1.cell 9 (h2 1 (by omega)), h1.cell 10 (h2 2 (by omega)), h1.cell 11 (h2 3 (by omega))⟩
theorem KV.mp (h : KV W kb p P fa fc free R T mb) : W.cell? ⟨kb, 204, none⟩ = some (.map (some mb)) := by
  obtain ⟨cs, h1, -, -, -, -, -, h2⟩ := h; exact h1.cell 204 h2
theorem KV.lead (h : KV W kb p P fa fc free R T mb) {n e : Nat} (hn : n < 6) (he : e < 8) : W.cell? ⟨kb, 12 + n * 32 + e * 4, none⟩ = some (.int .u64 (T (n * 8 + e) 0)) ∧ W.cell? ⟨kb, 12 + n * 32 + e * 4 + 1, none⟩ = some (.int .u64 (T (n * 8 + e) 1)) ∧ W.cell? ⟨kb, 12 + n * 32 + e * 4 + 2, none⟩ = some (.int .u64 (T (n * 8 + e) 2)) ∧ W.cell? ⟨kb, 12 + n * 32 + e * 4 + 3, none⟩ = some (.int .u64 (T (n * 8 + e) 3)) := by
  obtain ⟨cs, h1, -, -, -, -, h2, -⟩ := h
  exact ⟨h1.cell _ (h2 n e 0 hn he (by omega)), h1.cell _ (h2 n e 1 hn he (by omega)), h1.cell _ (h2 n e 2 hn he (by omega)), h1.cell _ (h2 n e 3 hn he (by omega))⟩
/-- One set of the table stored anew. -/
theorem KV.store (h : KV W kb p P fa fc free R T mb) {n e : Nat} (hn : n < 6) (he : e < 8) (U : Nat → Nat) :
    KV ((((W.setCell ⟨kb, 12 + n * 32 + e * 4, none⟩ (.int .u64 (U 0))).setCell ⟨kb, 12 + n * 32 + e * 4 + 1, none⟩ (.int .u64 (U 1))).setCell ⟨kb, 12 + n * 32 + e * 4 + 2, none⟩ (.int .u64 (U 2))).setCell ⟨kb, 12 + n * 32 + e * 4 + 3, none⟩ (.int .u64 (U 3))) kb p P fa fc free R (fun q => if q = n * 8 + e then U else T q) mb := by
  obtain ⟨cs, h1, h2, h3, h4, h5, h6, h7⟩ := h
  have key : ∀ q, (q < 12 ∨ 204 ≤ q) → ((((cs.setIfInBounds (12 + n * 32 + e * 4) (.int .u64 (U 0))).setIfInBounds (12 + n * 32 + e * 4 + 1) (.int .u64 (U 1))).setIfInBounds (12 + n * 32 + e * 4 + 2) (.int .u64 (U 2))).setIfInBounds (12 + n * 32 + e * 4 + 3) (.int .u64 (U 3)))[q]? = cs[q]? := fun q hq => by
    simp only [Array.getElem?_setIfInBounds]
    rw [if_neg (by omega), if_neg (by omega), if_neg (by omega), if_neg (by omega)]
  refine ⟨_, (((h1.set (12 + n * 32 + e * 4) _).set (12 + n * 32 + e * 4 + 1) _).set (12 + n * 32 + e * 4 + 2) _).set (12 + n * 32 + e * 4 + 3) _, by simp [h2], fun j v hj => ?_, ?_, fun j hj => ?_, fun n' e' j hn' he' hj => ?_, ?_⟩
  · rw [key j (.inl (by have := (Array.getElem?_eq_some_iff.1 hj).1; have h7 : (ptcells p P).size = 7 := rfl; omega))]; exact h3 j v hj
  · rw [key 7 (.inl (by omega))]; exact h4
  · rw [key (8 + j) (.inl (by omega))]; exact h5 j hj
  · simp only [Array.getElem?_setIfInBounds, Array.size_setIfInBounds]
    by_cases q : n' * 8 + e' = n * 8 + e
    · have q1 : n' = n := by omega
      have q2 : e' = e := by omega
      subst q1; subst q2
      have hj' : j = 0 ∨ j = 1 ∨ j = 2 ∨ j = 3 := by omega
      rcases hj' with rfl | rfl | rfl | rfl
      · simp [show 12 + n' * 32 + e' * 4 < cs.size by omega]
      · simp [show 12 + n' * 32 + e' * 4 + 1 < cs.size by omega]
      · simp [show 12 + n' * 32 + e' * 4 + 2 < cs.size by omega]
      · simp [show 12 + n' * 32 + e' * 4 + 3 < cs.size by omega]
    · have a0 : ¬ 12 + n * 32 + e * 4 = 12 + n' * 32 + e' * 4 + j := by omega
      have a1 : ¬ 12 + n * 32 + e * 4 + 1 = 12 + n' * 32 + e' * 4 + j := by omega
      have a2 : ¬ 12 + n * 32 + e * 4 + 2 = 12 + n' * 32 + e' * 4 + j := by omega
      have a3 : ¬ 12 + n * 32 + e * 4 + 3 = 12 + n' * 32 + e' * 4 + j := by omega
      rw [if_neg a3, if_neg a2, if_neg a1, if_neg a0, h6 n' e' j hn' he' hj, if_neg q]
  · rw [key 204 (.inr (by omega))]; exact h7
end

end Go.Proofs.YtmlkpdeidpcidaaDoor
namespace Go.Proofs.YtmlkpdeidpcidaaDoor
open Go.RowKit
set_option linter.unusedVariables false

set_option maxRecDepth 100000 in
set_option maxHeartbeats 4000000 in
theorem kall_any (p : Plant) (P : PTL) (fa : Option Addr) (fc : Nat) (free : List Int) (R : Nat → Nat) (T : Nat → Nat → Nat) (mb kb : Nat) (N : Nat) (hN : Hid (p.m.st = (N : Int))) (h256 : N ≤ 256) (w : World) (hK : Hid (KV w kb p P fa fc free R T mb)) :
    Calls Tryd.prog 185 #[.pointer (some ⟨kb, 0, none⟩)] w fun e w' => e = .returned (sval (firF N)) ∧ Below w.heap.size w w' := by
  have B : Hid (Below w.heap.size w ((w.alloc (.cells zs4c 85)).alloc (.cells zs4c 85))) := ((Below.refl _ _).alloc (Nat.le_refl _) _).alloc (by simp) _
  have KR : Hid (SB ((w.alloc (.cells zs4c 85)).alloc (.cells zs4c 85)) w.heap.size zeroS) := (Blk.new w 85 zs4c).alloc _
  have KS : Hid (SB ((w.alloc (.cells zs4c 85)).alloc (.cells zs4c 85)) (w.heap.size + 1) (firF 0)) := by
    have := Blk.new (w.alloc (.cells zs4c 85)) 85 zs4c
    rwa [World.size_alloc] at this
  go_enter Tryd.func185, Tryd.ntmps185
  have x0 : ((w.alloc (.cells zs4c 85)).alloc (.cells zs4c 85)).cell? ⟨kb, 0, none⟩ = some (.int .i64 (N : Int)) := by rw [← hN.out]; exact (hK.out.below B.out hK.out.lt).plant.1
  go_wp2_with fail
  clear x0
  revert B KR KS
  generalize ((w.alloc (.cells zs4c 85)).alloc (.cells zs4c 85)) = V0
  intro B KR KS
  go_loopw [11] (fun i wr => ∃ k : Nat, k ≤ N ∧ i = .int .i64 k ∧ Hid (SB wr (w.heap.size + 1) (firF k)) ∧ Hid (Below (w.heap.size + 1) V0 wr)) (fun i _ => N - (intOf i).toNat)
  case atStart => exact ⟨0, Nat.zero_le _, rfl, KS, Below.refl _ _⟩
  case round =>
    clear KS
    obtain ⟨k, hk, rfl, LS, LB⟩ := hrel
    obtain ⟨Q, HQ⟩ : ∃ Q, Hid (Q = firF k) := ⟨_, rfl⟩
    have hok : Hid (okS Q) := by show okS Q; rw [HQ.out]; exact ok_firF k
    rw [← HQ.out] at LS
    by_cases hlt : k < N
    · obtain ⟨s0, s1, s2, s3⟩ := SB.cells LS.out
      go_wp2_with fail
      refine (with_any Q (k : Int) _ hok.out (by omega) (by omega)).mono ?_
      rintro e w1 ⟨rfl, hb⟩
      rw [Int.toNat_natCast]
      have L1 := Hid.of (LS.out.below hb LS.out.lt)
      have B1 := Hid.of (LB.out.trans (hb.mono (Nat.le_trans (Nat.le_of_lt LS.out.lt) (Nat.le_refl _))))
      clear s0 s1 s2 s3 hb
      have fz := L1.out.frozen
      obtain ⟨s0, s1, s2, s3⟩ := SB.cells L1.out
      have L2 := Hid.of (SB.set4 L1.out (withS Q k))
      have B2 := Hid.of (below_set4 B1.out (b' := w.heap.size + 1) (Nat.le_refl _) (.int .u64 (withS Q k 0)) (.int .u64 (withS Q k 1)) (.int .u64 (withS Q k 2)) (.int .u64 (withS Q k 3)))
      go_wp2_with fail
      go_roundw
      case rel => exact ⟨k + 1, by omega, by go_num, by rw [firF, ← HQ.out]; exact L2, B2⟩
      case measure => simp [intOf]; omega
    · have hk2 : N ≤ k := by omega
      have HK : Hid (k = N) := by show k = N; omega
      clear hlt
      have BW := Hid.of (B.out.trans (LB.out.mono (by omega)))
      have RW := Hid.of (KR.out.below LB.out (by omega))
      obtain ⟨s0, s1, s2, s3⟩ := SB.cells LS.out
      obtain ⟨r0, r1, r2, r3⟩ := SB.cells RW.out
      have rz := RW.out.frozen
      have RR := Hid.of (SB.set4 RW.out Q)
      have BB := Hid.of (below_set4 BW.out (b' := w.heap.size) (by omega) (.int .u64 (Q 0)) (.int .u64 (Q 1)) (.int .u64 (Q 2)) (.int .u64 (Q 3)))
      go_wp2_with fail
      clear r0 r1 r2 r3 s0 s1 s2 s3
      obtain ⟨r0, r1, r2, r3⟩ := SB.cells RR.out
      refine bodyPost_ret (v := sval Q) ?_ rfl ⟨by rw [HQ.out, HK.out], BB.out⟩
      simp [results, go_sem, r0, r1, r2, r3]

/-- The plant, begun elsewhere. -/
def fromP (p : Plant) (ss : List Int) : Plant := { p with m := { p.m with starts := ss } }
theorem may_fromP {p : Plant} (hp : mayP p = true) {ss : List Int} (hi : Inc ss) (hb : ∀ x ∈ ss, 0 ≤ x ∧ x < p.m.st) : mayP (fromP p ss) = true := by
  obtain ⟨h1, h2, h3, h4⟩ := (mayP_iff p).1 hp
  have hz := mayB_size h1
  refine (mayP_iff _).2 ⟨?_, h2, h3, h4⟩
  rw [mayB_go (m := (fromP p ss).m) hz ((rowB_iff _ (by unfold sizeOk at hz; show p.m.st ≤ _; omega) _).2 ⟨hi, hb⟩) (show rowB p.m.st p.m.ends = true from mayB_ends h1)]
  exact mayB_arrs (m := p.m) h1
theorem est_fromP {p : Plant} (hp : mayP p = true) {ss : List Int} (hi : Inc ss) (hb : ∀ x ∈ ss, 0 ≤ x ∧ x < p.m.st) : estOut (fromP p ss) [] = (wideL p.m.arrows p.seen ss, 0) := by
  unfold estOut
  rw [if_pos (may_fromP hp hi hb), if_pos (by rfl)]
  rfl

set_option maxRecDepth 100000 in
set_option maxHeartbeats 4000000 in
theorem kuns_any (st ev : Int) (starts : List Int) (ars : List Arr) (ends seen secret : List Int) (a1 : Option Addr) (c1 : Nat) (a2 : Option Addr) (c2 : Nat) (a3 : Option Addr) (c3 : Nat) (a4 : Option Addr) (c4 : Nat) (a5 : Option Addr) (c5 : Nat) (fa : Option Addr) (fc : Nat) (free : List Int) (R : Nat → Nat) (T : Nat → Nat → Nat) (mb kb : Nat) (ss : List Int) (sa : Option Addr) (sc : Nat) (w : World) (hK : Hid (KV w kb ⟨⟨st, ev, starts, ars, ends⟩, seen, secret⟩ ⟨⟨a1, c1, a2, c2, a3, c3⟩, a4, c4, a5, c5⟩ fa fc free R T mb)) (hp : Hid (mayP ⟨⟨st, ev, starts, ars, ends⟩, seen, secret⟩ = true)) (hP : Hid (PAt w ⟨⟨st, ev, starts, ars, ends⟩, seen, secret⟩ ⟨⟨a1, c1, a2, c2, a3, c3⟩, a4, c4, a5, c5⟩)) (hs : Hid (Sl w sa sc ss)) (hi : Hid (Inc ss)) (hb : Hid (∀ x ∈ ss, 0 ≤ x ∧ x < st)) (hT : Hid (Tab w)) :
    Calls Tryd.prog 106 #[.pointer (some ⟨kb, 0, none⟩), .slice sa ss.length sc] w fun e w' => e = .returned (sval (wideS ⟨⟨st, ev, starts, ars, ends⟩, seen, secret⟩ ss)) ∧ Below w.heap.size w w' := by
  have B : Hid (Below w.heap.size w ((w.alloc (.cells zs4c 85)).alloc (.cells (ptcells ⟨⟨st, ev, ss, ars, ends⟩, seen, secret⟩ ⟨⟨sa, sc, a2, c2, a3, c3⟩, a4, c4, a5, c5⟩) 44))) := ((Below.refl _ _).alloc (Nat.le_refl _) _).alloc (by simp) _
  have KR : Hid (SB ((w.alloc (.cells zs4c 85)).alloc (.cells (ptcells ⟨⟨st, ev, ss, ars, ends⟩, seen, secret⟩ ⟨⟨sa, sc, a2, c2, a3, c3⟩, a4, c4, a5, c5⟩) 44)) w.heap.size zeroS) := (Blk.new w 85 zs4c).alloc _
  have HE : Hid (estOut ⟨⟨st, ev, ss, ars, ends⟩, seen, secret⟩ [] = (wideL ars seen ss, 0)) := est_fromP hp.out hi.out hb.out
  have PT : Hid (PAt ((w.alloc (.cells zs4c 85)).alloc (.cells (ptcells ⟨⟨st, ev, ss, ars, ends⟩, seen, secret⟩ ⟨⟨sa, sc, a2, c2, a3, c3⟩, a4, c4, a5, c5⟩) 44)) ⟨⟨st, ev, ss, ars, ends⟩, seen, secret⟩ ⟨⟨sa, sc, a2, c2, a3, c3⟩, a4, c4, a5, c5⟩) := by
    have h1 := hP.out.below B.out (Nat.le_refl _)
    have h2 := hs.out.below B.out (Nat.le_refl _)
    exact ⟨{ h1.m with s := h2.at_, s1 := h2.le, s2 := h2.max, s3 := h2.nil }, h1.s, h1.t⟩
  go_enter Tryd.func106, Tryd.ntmps106
  obtain ⟨x0, x1, x2, x3, x4, x5, x6⟩ := (hK.out.below ((Below.refl _ w).alloc (Nat.le_refl _) (.cells zs4c 85)) hK.out.lt).plant
  go_wp2_with fail
  clear x0 x1 x2 x3 x4 x5 x6
  have HW : Hid (∀ x ∈ wideL ars seen ss, 0 ≤ x ∧ x < 256) := fun x hx => by
    have h1 := (wide_in (p := ⟨⟨st, ev, starts, ars, ends⟩, seen, secret⟩) ((mayP_iff _).1 hp.out).1 hb.out).2 x hx
    have h2 : st ≤ 6 := (states_bd hp.out).2
    have h3 : x < st := h1.2
    exact ⟨h1.1, by omega⟩
  revert B KR PT
  generalize (w.alloc (.cells zs4c 85)).alloc (.cells (ptcells ⟨⟨st, ev, ss, ars, ends⟩, seen, secret⟩ ⟨⟨sa, sc, a2, c2, a3, c3⟩, a4, c4, a5, c5⟩) 44) = V0
  intro B KR PT
  refine (pEst_any ⟨⟨st, ev, ss, ars, ends⟩, seen, secret⟩ ⟨⟨sa, sc, a2, c2, a3, c3⟩, a4, c4, a5, c5⟩ none 0 [] V0 PT.out (.inl rfl) (by simp [maxLen]) (hT.out.below B.out hT.out.lt)).mono ?_
  rw [HE.out]
  rintro e V1 ⟨va, vc, rfl, hv, hvl, hb1⟩
  have HV := Hid.of hv
  have HVL := Hid.of hvl
  replace B := Hid.of (B.out.trans (hb1.mono B.out.size))
  replace KR := Hid.of (KR.out.below hb1 KR.out.lt)
  clear hb1 hv hvl PT HE
  obtain ⟨L, HL⟩ : ∃ L, Hid (L = wideL ars seen ss) := ⟨_, rfl⟩
  have HQ : Hid (wideS ⟨⟨st, ev, starts, ars, ends⟩, seen, secret⟩ ss = ofS L) := by show _ = _; rw [HL.out]; rfl
  rw [← HL.out] at HV HVL HW ⊢
  go_wp2_with fail
  refine (of_any va vc L V1 HV.out HVL.out HW.out).mono ?_
  rintro e V2 ⟨rfl, hb2⟩
  replace B := Hid.of (B.out.trans (hb2.mono B.out.size))
  replace KR := Hid.of (KR.out.below hb2 KR.out.lt)
  clear hb2
  obtain ⟨Q, HQQ⟩ : ∃ Q, Hid (Q = ofS L) := ⟨_, rfl⟩
  rw [← HQQ.out] at HQ ⊢
  obtain ⟨r0, r1, r2, r3⟩ := SB.cells KR.out
  have rz := KR.out.frozen
  have RR := Hid.of (SB.set4 KR.out Q)
  have BB := Hid.of (below_set4 B.out (b' := w.heap.size) (Nat.le_refl _) (.int .u64 (Q 0)) (.int .u64 (Q 1)) (.int .u64 (Q 2)) (.int .u64 (Q 3)))
  go_wp2_with fail
  clear r0 r1 r2 r3
  obtain ⟨r0, r1, r2, r3⟩ := SB.cells RR.out
  refine bodyPost_ret (v := sval Q) ?_ rfl ⟨by rw [HQ.out], BB.out⟩
  simp [results, go_sem, r0, r1, r2, r3]

end Go.Proofs.YtmlkpdeidpcidaaDoor
namespace Go.Proofs.YtmlkpdeidpcidaaDoor
open Go.RowKit Go.Shelf
set_option linter.unusedVariables false
attribute [local go_sem] Oper.semAt_some

theorem regQ_inV {φ : Act → World → Prop} : ¬ LetsOut (regQ φ) := fun ⟨_, _, h⟩ => h
theorem cell_set4V {Y : World} {b c j : Nat} (h : b ≠ c) (v0 v1 v2 v3 : Value) : ((((Y.setCell ⟨c, 0, none⟩ v0).setCell ⟨c, 1, none⟩ v1).setCell ⟨c, 2, none⟩ v2).setCell ⟨c, 3, none⟩ v3).cell? ⟨b, j, none⟩ = Y.cell? ⟨b, j, none⟩ := by
  unfold World.cell?
  rw [Below.heap_setCell _ _ _ _ (show b ≠ c from h), Below.heap_setCell _ _ _ _ (show b ≠ c from h), Below.heap_setCell _ _ _ _ (show b ≠ c from h), Below.heap_setCell _ _ _ _ (show b ≠ c from h)]

set_option maxRecDepth 100000 in
set_option maxHeartbeats 8000000 in
theorem knext_in (S : Nat → Nat) (hS : okS S) (e : Nat) (he8 : e < 8) (p : Plant) (P : PTL) (fa : Option Addr) (fc : Nat) (free : List Int) (R : Nat → Nat) (T : Nat → Nat → Nat) (mb : Nat) (hTok : Hid (∀ p, okS (T p))) (hall : ∀ k ∈ allS S, k < 6) (kb : Nat) (w : World) (hT : Tab w) (hK : KV w kb p P fa fc free R T mb) :
    CallsIn Fence.wide 5 Tryd.prog 155 #[.pointer (some ⟨kb, 0, none⟩), sval S, .int .i64 e] w fun e' W' => e' = .returned (sval (toF (fun n => T (n * 8 + e)) (allS S))) ∧ Below w.heap.size w W' := by
  obtain ⟨xs, hxs⟩ := nb_of (N := 6) (allS S) hall
  clear hall
  refine callsIn_of_wp_marks Tryd.func155 rfl trivial ?_ rfl
  simp only [Tryd.ntmps155, List.size_toArray, List.length_cons, List.length_nil, Nat.reduceAdd, Nat.reduceSub, Array.replicate_succ, Array.replicate_zero, List.push_toArray, List.append_toArray, List.nil_append, List.cons_append]
  gi_wp2_with (refine ⟨trivial, ?_⟩; refine CallsIn.mono (callsIn_wide.2 (all_any S _)) ?_; rintro e1 w1 ⟨rfl, rfl⟩)
  have hB0 : Below w.heap.size w ((((((w.alloc (.cells #[.pointer (some ⟨kb, 0, none⟩)] 161)).alloc (.cells (scells S) 85)).alloc (.cells #[.int .i64 e] 3)).alloc (.cells #[.int .u64 0, .int .u64 0, .int .u64 0, .int .u64 0] 85)).alloc (.cells #[.int .u64 0, .int .u64 0, .int .u64 0, .int .u64 0] 85)).alloc (.cells (scells S) 85)) := (((((((Below.refl _ _).alloc (Nat.le_refl _) _).alloc (by simp) _).alloc (by simp; omega) _).alloc (by simp; omega) _).alloc (by simp; omega) _).alloc (by simp; omega) _)
  have bK : Boxed ((((((w.alloc (.cells #[.pointer (some ⟨kb, 0, none⟩)] 161)).alloc (.cells (scells S) 85)).alloc (.cells #[.int .i64 e] 3)).alloc (.cells #[.int .u64 0, .int .u64 0, .int .u64 0, .int .u64 0] 85)).alloc (.cells #[.int .u64 0, .int .u64 0, .int .u64 0, .int .u64 0] 85)).alloc (.cells (scells S) 85)) w.heap.size 161 (.pointer (some ⟨kb, 0, none⟩)) := ((((((Boxed.new w 161 (.pointer (some ⟨kb, 0, none⟩))).alloc (.cells (scells S) 85)).alloc (.cells #[.int .i64 e] 3)).alloc (.cells #[.int .u64 0, .int .u64 0, .int .u64 0, .int .u64 0] 85)).alloc (.cells #[.int .u64 0, .int .u64 0, .int .u64 0, .int .u64 0] 85)).alloc (.cells (scells S) 85))
  have bX : Boxed ((((((w.alloc (.cells #[.pointer (some ⟨kb, 0, none⟩)] 161)).alloc (.cells (scells S) 85)).alloc (.cells #[.int .i64 e] 3)).alloc (.cells #[.int .u64 0, .int .u64 0, .int .u64 0, .int .u64 0] 85)).alloc (.cells #[.int .u64 0, .int .u64 0, .int .u64 0, .int .u64 0] 85)).alloc (.cells (scells S) 85)) (w.heap.size + 1 + 1) 3 (.int .i64 e) := by
    have := ((((Boxed.new ((w.alloc (.cells #[.pointer (some ⟨kb, 0, none⟩)] 161)).alloc (.cells (scells S) 85)) 3 (.int .i64 e)).alloc (.cells #[.int .u64 0, .int .u64 0, .int .u64 0, .int .u64 0] 85)).alloc (.cells #[.int .u64 0, .int .u64 0, .int .u64 0, .int .u64 0] 85)).alloc (.cells (scells S) 85))
    rwa [World.size_alloc, World.size_alloc] at this
  have bR : SB ((((((w.alloc (.cells #[.pointer (some ⟨kb, 0, none⟩)] 161)).alloc (.cells (scells S) 85)).alloc (.cells #[.int .i64 e] 3)).alloc (.cells #[.int .u64 0, .int .u64 0, .int .u64 0, .int .u64 0] 85)).alloc (.cells #[.int .u64 0, .int .u64 0, .int .u64 0, .int .u64 0] 85)).alloc (.cells (scells S) 85)) (w.heap.size + 1 + 1 + 1) zeroS := by
    have := (((Blk.new (((w.alloc (.cells #[.pointer (some ⟨kb, 0, none⟩)] 161)).alloc (.cells (scells S) 85)).alloc (.cells #[.int .i64 e] 3)) 85 #[.int .u64 0, .int .u64 0, .int .u64 0, .int .u64 0]).alloc (.cells #[.int .u64 0, .int .u64 0, .int .u64 0, .int .u64 0] 85)).alloc (.cells (scells S) 85))
    rwa [World.size_alloc, World.size_alloc, World.size_alloc] at this
  have bO : SB ((((((w.alloc (.cells #[.pointer (some ⟨kb, 0, none⟩)] 161)).alloc (.cells (scells S) 85)).alloc (.cells #[.int .i64 e] 3)).alloc (.cells #[.int .u64 0, .int .u64 0, .int .u64 0, .int .u64 0] 85)).alloc (.cells #[.int .u64 0, .int .u64 0, .int .u64 0, .int .u64 0] 85)).alloc (.cells (scells S) 85)) (w.heap.size + 1 + 1 + 1 + 1) zeroS := by
    have := ((Blk.new ((((w.alloc (.cells #[.pointer (some ⟨kb, 0, none⟩)] 161)).alloc (.cells (scells S) 85)).alloc (.cells #[.int .i64 e] 3)).alloc (.cells #[.int .u64 0, .int .u64 0, .int .u64 0, .int .u64 0] 85)) 85 #[.int .u64 0, .int .u64 0, .int .u64 0, .int .u64 0]).alloc (.cells (scells S) 85))
    rwa [World.size_alloc, World.size_alloc, World.size_alloc, World.size_alloc] at this
  have bN : SB ((((((w.alloc (.cells #[.pointer (some ⟨kb, 0, none⟩)] 161)).alloc (.cells (scells S) 85)).alloc (.cells #[.int .i64 e] 3)).alloc (.cells #[.int .u64 0, .int .u64 0, .int .u64 0, .int .u64 0] 85)).alloc (.cells #[.int .u64 0, .int .u64 0, .int .u64 0, .int .u64 0] 85)).alloc (.cells (scells S) 85)) (w.heap.size + 1 + 1 + 1 + 1 + 1) S := by
    have := (Blk.new (((((w.alloc (.cells #[.pointer (some ⟨kb, 0, none⟩)] 161)).alloc (.cells (scells S) 85)).alloc (.cells #[.int .i64 e] 3)).alloc (.cells #[.int .u64 0, .int .u64 0, .int .u64 0, .int .u64 0] 85)).alloc (.cells #[.int .u64 0, .int .u64 0, .int .u64 0, .int .u64 0] 85)) 85 (scells S))
    rwa [World.size_alloc, World.size_alloc, World.size_alloc, World.size_alloc, World.size_alloc] at this
  have hsz0 : ((((((w.alloc (.cells #[.pointer (some ⟨kb, 0, none⟩)] 161)).alloc (.cells (scells S) 85)).alloc (.cells #[.int .i64 e] 3)).alloc (.cells #[.int .u64 0, .int .u64 0, .int .u64 0, .int .u64 0] 85)).alloc (.cells #[.int .u64 0, .int .u64 0, .int .u64 0, .int .u64 0] 85)).alloc (.cells (scells S) 85)).heap.size = w.heap.size + 6 := by simp
  revert hB0 bK bX bR bO bN hsz0
  generalize ((((((w.alloc (.cells #[.pointer (some ⟨kb, 0, none⟩)] 161)).alloc (.cells (scells S) 85)).alloc (.cells #[.int .i64 e] 3)).alloc (.cells #[.int .u64 0, .int .u64 0, .int .u64 0, .int .u64 0] 85)).alloc (.cells #[.int .u64 0, .int .u64 0, .int .u64 0, .int .u64 0] 85)).alloc (.cells (scells S) 85)) = W0
  intro hB0 bK bX bR bO bN hsz0
  have hT0 := hT.below hB0 hT.lt
  have hw0 := hT.lt
  refine wpIn_rangeFunc_ownG rfl (by omega) (gf := 164) (lb := #[.pointer (some ⟨w.heap.size + 1 + 1 + 1 + 1 + 1, 0, none⟩)]) rfl trivial (enters_of Tryd.func164 (by kernel_rfl) rfl)
    (all_stops 4 (by omega) (w.heap.size + 1 + 1 + 1 + 1 + 1) (w.heap.size + 4) S hS xs hxs (by omega) W0 (by omega) bN hT0) belowK_t (belowK_b (by omega)) (Below.refl _ _) (fun _ => rfl)
    (fun pre W' => SB W' (w.heap.size + 1 + 1 + 1 + 1) (toF (fun n => T (n * 8 + e)) (nbNats pre)) ∧ Below (w.heap.size + 4) W0 W')
    (fun _ _ _ => False)
    (OwnFrom.and (Go.Own.from (own_SB (w.heap.size + 1 + 1 + 1 + 1) (fun pre : List (NB 6) => toF (fun n => T (n * 8 + e)) (nbNats pre))) _) (ownFrom_below (by omega) (by omega)))
    (fun _ _ _ _ _ hs _ _ => hs)
    ⟨bO, Below.refl _ _⟩
    (fun x => { tmps := #[.pointer (some ⟨kb, 0, none⟩), sval S, .int .i64 e, .pointer (some ⟨w.heap.size, 0, none⟩), .pointer (some ⟨w.heap.size + 1, 0, none⟩), .pointer (some ⟨w.heap.size + 1 + 1, 0, none⟩), .pointer (some ⟨w.heap.size + 1 + 1 + 1, 0, none⟩), .pointer (some ⟨w.heap.size + 1 + 1 + 1 + 1, 0, none⟩), .int .i64 (x.1 : Int), sval S, .func (.func 164) #[] #[.pointer (some ⟨w.heap.size + 1 + 1 + 1 + 1 + 1, 0, none⟩)], .int .i64 (x.1 : Int), undef, undef, undef, undef, undef, undef, undef, undef, undef, undef, undef], defers := [] }) ?assign ?body ?done ?stop
  case assign =>
    intro l x W K hK
    gi_wp2
    exact hK
  case body =>
    rintro l' pre x W' ⟨hO, hB'⟩ hlt
    have hBW : Below w.heap.size w W' := hB0.trans (hB'.mono (by omega))
    have hKW := hK.below hBW hK.lt
    have c0 : W'.cell? ⟨w.heap.size, 0, none⟩ = some (.pointer (some ⟨kb, 0, none⟩)) := Boxed.cell ((hB'.block _ (by omega)).trans bK)
    have c1 : W'.cell? ⟨w.heap.size + 1 + 1, 0, none⟩ = some (.int .i64 e) := Boxed.cell ((hB'.block _ (by omega)).trans bX)
    have hx := x.2
    obtain ⟨n, hn⟩ : ∃ n, Hid (n = x.1) := ⟨_, rfl⟩
    rw [← hn.out] at hx ⊢
    obtain ⟨t0, t1, t2, t3⟩ := hKW.lead hx he8
    obtain ⟨o0, o1, o2, o3⟩ := hO.cells
    have fO := hO.frozen
    have mx : Tryd.prog.follows .mixedOrders = true := by kernel_rfl
    have hn0 : (0 : Int) ≤ (n : Int) := by omega
    have hnI : (n : Int) < 6 := by omega
    have he0 : (0 : Int) ≤ (e : Int) := by omega
    have heI : (e : Int) < 8 := by omega
    have hTp : Hid (okS (T (n * 8 + e))) := hTok.out _
    have hOd : Hid (SB W'.drew (w.heap.size + 1 + 1 + 1 + 1) (toF (fun n => T (n * 8 + e)) (nbNats pre))) := hO
    have HB := Hid.of hB'
    have HO := Hid.of hO
    have hOk : Hid (okS (toF (fun n => T (n * 8 + e)) (nbNats pre))) := ok_toF (fun _ => hTok.out _) _
    have HX : Hid (toF (fun n => T (n * 8 + e)) (nbNats (pre ++ [x])) = joinS (toF (fun n => T (n * 8 + e)) (nbNats pre)) (T (n * 8 + e))) := by show _ = _; rw [nbNats_snoc, toF_snoc, hn.out]
    obtain ⟨U, HU⟩ : ∃ U, Hid (U = T (n * 8 + e)) := ⟨_, rfl⟩
    rw [← HU.out] at hTp HX
    have SA : Hid (∀ X, Below W'.heap.size W' X → X.cell? ⟨w.heap.size, 0, none⟩ = some (.pointer (some ⟨kb, 0, none⟩)) ∧ X.cell? ⟨w.heap.size + 1 + 1, 0, none⟩ = some (.int .i64 e) ∧ X.cell? ⟨kb, 12 + n * 32 + e * 4, none⟩ = some (.int .u64 (U 0)) ∧ X.cell? ⟨kb, 12 + n * 32 + e * 4 + 1, none⟩ = some (.int .u64 (U 1)) ∧ X.cell? ⟨kb, 12 + n * 32 + e * 4 + 2, none⟩ = some (.int .u64 (U 2)) ∧ X.cell? ⟨kb, 12 + n * 32 + e * 4 + 3, none⟩ = some (.int .u64 (U 3))) := fun X hb => by
      obtain ⟨z0, z1, z2, z3⟩ := (hKW.below hb hKW.lt).lead hx he8
      rw [← HU.out] at z0 z1 z2 z3
      exact ⟨(hb.cell (p := ⟨w.heap.size, 0, none⟩) (show w.heap.size < _ by have := HO.out.lt; omega)).trans c0, (hb.cell (p := ⟨w.heap.size + 1 + 1, 0, none⟩) (show w.heap.size + 1 + 1 < _ by have := HO.out.lt; omega)).trans c1, z0, z1, z2, z3⟩
    have HKW := Hid.of hKW
    have HC0 := Hid.of c0
    have HC1 := Hid.of c1
    have hkl : Hid (kb < w.heap.size) := hK.lt
    clear hKW hBW hB' hO c0 c1 t0 t1 t2 t3 o0 o1 o2 o3 fO mx hOd
    generalize toF (fun n => T (n * 8 + e)) (nbNats pre) = O at *
    gi_wp2_with fail
    refine Code.wpIn_mono (Q := regQ fun a' X => ∃ w2, Below W'.heap.size W' w2 ∧ X = ((((w2.setCell ⟨w.heap.size + 1 + 1 + 1 + 1, 0, none⟩ (.int .u64 (joinS O U 0))).setCell ⟨w.heap.size + 1 + 1 + 1 + 1, 1, none⟩ (.int .u64 (joinS O U 1))).setCell ⟨w.heap.size + 1 + 1 + 1 + 1, 2, none⟩ (.int .u64 (joinS O U 2))).setCell ⟨w.heap.size + 1 + 1 + 1 + 1, 3, none⟩ (.int .u64 (joinS O U 3)))) ?aft ?reg
    case reg =>
      refine wpIn_region_round (S := fun w' => w'.cell? ⟨w.heap.size, 0, none⟩ = some (.pointer (some ⟨kb, 0, none⟩)) ∧ w'.cell? ⟨w.heap.size + 1 + 1, 0, none⟩ = some (.int .i64 e) ∧ w'.cell? ⟨kb, 12 + n * 32 + e * 4, none⟩ = some (.int .u64 (U 0)) ∧ w'.cell? ⟨kb, 12 + n * 32 + e * 4 + 1, none⟩ = some (.int .u64 (U 1)) ∧ w'.cell? ⟨kb, 12 + n * 32 + e * 4 + 2, none⟩ = some (.int .u64 (U 2)) ∧ w'.cell? ⟨kb, 12 + n * 32 + e * 4 + 3, none⟩ = some (.int .u64 (U 3))) (by kernel_rfl) (noDefer_spec (by kernel_rfl)) regQ_inV (SA.out _ (Below.refl _ _).drew) (fun hS => ?_)
      have BF : Hid (Below W'.heap.size W' W'.drew) := (Below.refl _ _).drew
      revert hS BF
      generalize W'.drew = Y0
      intro hS BF
      refine wpAnyH_take (i := 1) (v := .pointer (some ⟨kb, 0, none⟩)) rfl (by kernel_rfl) (by kernel_rfl) (by kernel_rfl) (fun _ _ _ h => h) (Or.inl ⟨by kernel_rfl, fun w' hw' => by obtain ⟨q0, q1, q2, q3, q4, q5⟩ := hw'; go_simp⟩) hS ?_
      refine wpAnyH_take (i := 2) (v := .int .i64 (n : Int)) rfl (by kernel_rfl) (by kernel_rfl) (by kernel_rfl) (fun _ _ _ h => h) (Or.inl ⟨by kernel_rfl, fun w' hw' => by obtain ⟨q0, q1, q2, q3, q4, q5⟩ := hw'; go_simp⟩) hS ?_
      refine wpAnyH_take (i := 3) (v := .int .i64 (e : Int)) rfl (by kernel_rfl) (by kernel_rfl) (by kernel_rfl) (fun _ _ _ h => h) (Or.inl ⟨by kernel_rfl, fun w' hw' => by obtain ⟨q0, q1, q2, q3, q4, q5⟩ := hw'; go_simp⟩) hS ?_
      refine wpAnyH_take (i := 4) (v := .pointer (some ⟨kb, 0, none⟩)) rfl (by kernel_rfl) (by kernel_rfl) (by kernel_rfl) (fun _ _ _ h => h) (Or.inl ⟨by kernel_rfl, fun w' hw' => by obtain ⟨q0, q1, q2, q3, q4, q5⟩ := hw'; go_simp⟩) hS ?_
      refine wpAnyH_take (i := 5) (v := .pointer (some ⟨kb, 12, none⟩)) rfl (by kernel_rfl) (by kernel_rfl) (by kernel_rfl) (fun _ _ _ h => h) (Or.inl ⟨by kernel_rfl, fun w' hw' => by obtain ⟨q0, q1, q2, q3, q4, q5⟩ := hw'; go_simp⟩) hS ?_
      refine wpAnyH_take (i := 6) (v := .pointer (some ⟨kb, 12 + n * 32, none⟩)) rfl (by kernel_rfl) (by kernel_rfl) (by kernel_rfl) (fun _ _ _ h => h) (Or.inl ⟨by kernel_rfl, fun w' hw' => by obtain ⟨q0, q1, q2, q3, q4, q5⟩ := hw'; go_simp⟩) hS ?_
      refine wpAnyH_take (i := 7) (v := .pointer (some ⟨kb, 12 + n * 32 + e * 4, none⟩)) rfl (by kernel_rfl) (by kernel_rfl) (by kernel_rfl) (fun _ _ _ h => h) (Or.inl ⟨by kernel_rfl, fun w' hw' => by obtain ⟨q0, q1, q2, q3, q4, q5⟩ := hw'; go_simp⟩) hS ?_
      refine wpAnyH_take (i := 8) (v := sval U) rfl (by kernel_rfl) (by kernel_rfl) (by kernel_rfl) (fun _ _ _ h => h) (Or.inl ⟨by kernel_rfl, fun w' hw' => by obtain ⟨q0, q1, q2, q3, q4, q5⟩ := hw'; go_simp⟩) hS ?_
      simp only [Act.put, List.setIfInBounds_toArray]
      refine wpAnyH_ready (rs := [0]) (by kernel_rfl) (by simp) ?_
      refine AllReadyH.cons rfl (fun K' hK' => ?_) AllReadyH.nil
      clear hS
      have u := SB.cells (HO.out.below BF.out HO.out.lt)
      have o0 := u.1
      have o1 := u.2.1
      have o2 := u.2.2.1
      have o3 := u.2.2.2
      clear u
      go_simp
      refine hK'.out _ _ (SA.out _ BF.out) (fun hS => ?_)
      clear hK' K' o0 o1 o2 o3
      refine wpAnyH_ready (rs := [9]) (by kernel_rfl) (by simp) ?_
      refine AllReadyH.cons rfl (fun K' hK' => ?_) AllReadyH.nil
      clear hS
      go_simp
      refine (join_any O U Y0 hOk.out hTp.out).mono ?_
      rintro e Y5 ⟨rfl, hb⟩
      replace BF := Hid.of (BF.out.trans (hb.mono BF.out.size))
      refine hK'.out _ _ (SA.out _ BF.out) (fun hS => ?_)
      clear hK' K' hb
      refine wpAnyH_ready (rs := [10]) (by kernel_rfl) (by simp) ?_
      refine AllReadyH.cons rfl (fun K' hK' => ?_) AllReadyH.nil
      clear hS
      have KO := HO.out.below BF.out HO.out.lt
      have fO := KO.frozen
      have u := SB.cells KO
      have o0 := u.1
      have o1 := u.2.1
      have o2 := u.2.2.1
      have o3 := u.2.2.2
      clear u
      go_simp
      have hs := SA.out _ BF.out
      have z0 := hs.1
      have z1 := hs.2.1
      have z2 := hs.2.2.1
      have z3 := hs.2.2.2.1
      have z4 := hs.2.2.2.2.1
      have z5 := hs.2.2.2.2.2
      have hkb := hkl.out
      have NE : ∀ (b j : Nat), b ≠ w.heap.size + 1 + 1 + 1 + 1 → ((((Y5.setCell ⟨w.heap.size + 1 + 1 + 1 + 1, 0, none⟩ (.int .u64 (joinS O U 0))).setCell ⟨w.heap.size + 1 + 1 + 1 + 1, 1, none⟩ (.int .u64 (joinS O U 1))).setCell ⟨w.heap.size + 1 + 1 + 1 + 1, 2, none⟩ (.int .u64 (joinS O U 2))).setCell ⟨w.heap.size + 1 + 1 + 1 + 1, 3, none⟩ (.int .u64 (joinS O U 3))).cell? ⟨b, j, none⟩ = Y5.cell? ⟨b, j, none⟩ := fun b j hne => cell_set4V hne (.int .u64 (joinS O U 0)) (.int .u64 (joinS O U 1)) (.int .u64 (joinS O U 2)) (.int .u64 (joinS O U 3))
      refine hK'.out _ _ ⟨(NE _ _ (by omega)).trans z0, (NE _ _ (by omega)).trans z1, (NE _ _ (by omega)).trans z2, (NE _ _ (by omega)).trans z3, (NE _ _ (by omega)).trans z4, (NE _ _ (by omega)).trans z5⟩ (fun hS => ?_)
      clear hK' K'
      refine wpAnyH_done (by kernel_rfl) ?_ _
      exact ⟨Y5, BF.out, rfl⟩
    case aft =>
      refine regQ_imp ?_
      rintro a' X ⟨w2, HB2, rfl⟩
      have hO2 := HO.out.below HB2 HO.out.lt
      have k1 : KeepsOthers W' w2 := ⟨HB2.size, fun k o hk _ => (HB2.block k (Array.getElem?_eq_some_iff.1 hk).1).trans hk⟩
      have k2 : Below (w.heap.size + 4) W' w2 := HB2.mono (Nat.le_of_lt HO.out.lt)
      have k3 := below_set4 k2 (b' := w.heap.size + 1 + 1 + 1 + 1) (Nat.le_refl _) (.int .u64 (joinS O U 0)) (.int .u64 (joinS O U 1)) (.int .u64 (joinS O U 2)) (.int .u64 (joinS O U 3))
      gi_wp2_with fail
      exact ⟨((((k1.trans (KeepsOthers.setCell _ _ _)).trans (KeepsOthers.setCell _ _ _)).trans (KeepsOthers.setCell _ _ _)).trans (KeepsOthers.setCell _ _ _)).from _, k3, by rw [HX.out]; exact SB.set4 hO2 _, HB.out.trans k3⟩
  case done =>
    rintro D ys W' hD rfl ⟨hO, hB'⟩ hK
    have hBW : Below w.heap.size w W' := hB0.trans (hB'.mono (by omega))
    obtain ⟨o0, o1, o2, o3⟩ := hO.cells
    have HQ : Hid (toF (fun n => T (n * 8 + e)) (nbNats ys) = toF (fun n => T (n * 8 + e)) (allS S)) := by show _ = _; rw [← hxs]; rfl
    have hres := bR.below hB' (by omega)
    obtain ⟨r0, r1, r2, r3⟩ := SB.cells hres
    have rz := hres.frozen
    have k2 := Hid.of (SB.set4 hres (toF (fun n => T (n * 8 + e)) (nbNats ys)))
    have k3 := Hid.of (below_set4 hBW (b' := w.heap.size + 1 + 1 + 1) (by omega) (.int .u64 (toF (fun n => T (n * 8 + e)) (nbNats ys) 0)) (.int .u64 (toF (fun n => T (n * 8 + e)) (nbNats ys) 1)) (.int .u64 (toF (fun n => T (n * 8 + e)) (nbNats ys) 2)) (.int .u64 (toF (fun n => T (n * 8 + e)) (nbNats ys) 3)))
    have hMk : Marks w.heap.size [D] W' := by
      refine ⟨fun D' hD' => ?_, by simp⟩
      have e : D' = D := by simpa using hD'
      rw [e]
      exact ⟨by omega, hK⟩
    have k4 := Hid.of (hMk.other4 hres (toF (fun n => T (n * 8 + e)) (nbNats ys)))
    clear hMk
    clear hO hBW hB' hres hK
    generalize toF (fun n => T (n * 8 + e)) (nbNats ys) = O at *
    gi_wp2
    refine leaves_marks (B := w.heap.size) (fun W => SB W (w.heap.size + 1 + 1 + 1) O ∧ Below w.heap.size w W) ?hJ ?hfin [D] _ k4.out ⟨k2.out, k3.out⟩
    case hJ =>
      rintro W D ⟨h1, h2⟩ hD hk
      refine ⟨(World.putObj_heap_other (fun e => ?_)).trans h1, h2.trans (belowK_b (w := w) (Nat.le_refl _) W D _ _ hD hk rfl rfl)⟩
      have h3 : W.heap[w.heap.size + 1 + 1 + 1]? = _ := h1
      rw [e, hk] at h3
      cases h3
    case hfin =>
      rintro W ⟨h1, h2⟩
      exact ⟨_, results_cell_row (g := w.heap.size + 1 + 1 + 1) (p := 6) rfl _ _ _ _ _ _ rfl h1 Tryd.underlying85 rfl (by kernel_rfl), by rw [← HQ.out], h2⟩
  case stop =>
    rintro D c pre W _ _ h _
    exact h.elim

theorem knext_any (S : Nat → Nat) (hS : okS S) (e : Nat) (he8 : e < 8) (p : Plant) (P : PTL) (fa : Option Addr) (fc : Nat) (free : List Int) (R : Nat → Nat) (T : Nat → Nat → Nat) (mb : Nat) (hTok : ∀ p, okS (T p)) (hall : ∀ k ∈ allS S, k < 6) (kb : Nat) (w : World) (hT : Tab w) (hK : KV w kb p P fa fc free R T mb) :
    Calls Tryd.prog 155 #[.pointer (some ⟨kb, 0, none⟩), sval S, .int .i64 e] w fun e' W' => e' = .returned (sval (toF (fun n => T (n * 8 + e)) (allS S))) ∧ Below w.heap.size w W' :=
  callsIn_wide.1 (knext_in S hS e he8 p P fa fc free R T mb hTok hall kb w hT hK)

end Go.Proofs.YtmlkpdeidpcidaaDoor
namespace Go.Proofs.YtmlkpdeidpcidaaDoor
open Go.RowKit Go.Shelf
set_option linter.unusedVariables false
attribute [local go_sem] Oper.semAt_some

set_option maxRecDepth 100000 in
set_option maxHeartbeats 8000000 in
theorem kable_in (S : Nat → Nat) (hS : okS S) (e : Nat) (he8 : e < 8) (p : Plant) (P : PTL) (fa : Option Addr) (fc : Nat) (free : List Int) (R : Nat → Nat) (T : Nat → Nat → Nat) (mb : Nat) (hTok : Hid (∀ p, okS (T p))) (hall : ∀ k ∈ allS S, k < 6) (kb : Nat) (w : World) (hT : Tab w) (hK : KV w kb p P fa fc free R T mb) :
    CallsIn Fence.wide 5 Tryd.prog 187 #[.pointer (some ⟨kb, 0, none⟩), sval S, .int .i64 e] w fun e' W' => e' = .returned (sval (ableF T e (allS S))) ∧ Below w.heap.size w W' := by
  obtain ⟨xs, hxs⟩ := nb_of (N := 6) (allS S) hall
  clear hall
  refine callsIn_of_wp_marks Tryd.func187 rfl trivial ?_ rfl
  simp only [Tryd.ntmps187, List.size_toArray, List.length_cons, List.length_nil, Nat.reduceAdd, Nat.reduceSub, Array.replicate_succ, Array.replicate_zero, List.push_toArray, List.append_toArray, List.nil_append, List.cons_append]
  gi_wp2_with (refine ⟨trivial, ?_⟩; refine CallsIn.mono (callsIn_wide.2 (all_any S _)) ?_; rintro e1 w1 ⟨rfl, rfl⟩)
  have hB0 : Below w.heap.size w ((((((w.alloc (.cells #[.pointer (some ⟨kb, 0, none⟩)] 161)).alloc (.cells (scells S) 85)).alloc (.cells #[.int .i64 e] 3)).alloc (.cells #[.int .u64 0, .int .u64 0, .int .u64 0, .int .u64 0] 85)).alloc (.cells #[.int .u64 0, .int .u64 0, .int .u64 0, .int .u64 0] 85)).alloc (.cells (scells S) 85)) := (((((((Below.refl _ _).alloc (Nat.le_refl _) _).alloc (by simp) _).alloc (by simp; omega) _).alloc (by simp; omega) _).alloc (by simp; omega) _).alloc (by simp; omega) _)
  have bK : Boxed ((((((w.alloc (.cells #[.pointer (some ⟨kb, 0, none⟩)] 161)).alloc (.cells (scells S) 85)).alloc (.cells #[.int .i64 e] 3)).alloc (.cells #[.int .u64 0, .int .u64 0, .int .u64 0, .int .u64 0] 85)).alloc (.cells #[.int .u64 0, .int .u64 0, .int .u64 0, .int .u64 0] 85)).alloc (.cells (scells S) 85)) w.heap.size 161 (.pointer (some ⟨kb, 0, none⟩)) := ((((((Boxed.new w 161 (.pointer (some ⟨kb, 0, none⟩))).alloc (.cells (scells S) 85)).alloc (.cells #[.int .i64 e] 3)).alloc (.cells #[.int .u64 0, .int .u64 0, .int .u64 0, .int .u64 0] 85)).alloc (.cells #[.int .u64 0, .int .u64 0, .int .u64 0, .int .u64 0] 85)).alloc (.cells (scells S) 85))
  have bX : Boxed ((((((w.alloc (.cells #[.pointer (some ⟨kb, 0, none⟩)] 161)).alloc (.cells (scells S) 85)).alloc (.cells #[.int .i64 e] 3)).alloc (.cells #[.int .u64 0, .int .u64 0, .int .u64 0, .int .u64 0] 85)).alloc (.cells #[.int .u64 0, .int .u64 0, .int .u64 0, .int .u64 0] 85)).alloc (.cells (scells S) 85)) (w.heap.size + 1 + 1) 3 (.int .i64 e) := by
    have := ((((Boxed.new ((w.alloc (.cells #[.pointer (some ⟨kb, 0, none⟩)] 161)).alloc (.cells (scells S) 85)) 3 (.int .i64 e)).alloc (.cells #[.int .u64 0, .int .u64 0, .int .u64 0, .int .u64 0] 85)).alloc (.cells #[.int .u64 0, .int .u64 0, .int .u64 0, .int .u64 0] 85)).alloc (.cells (scells S) 85))
    rwa [World.size_alloc, World.size_alloc] at this
  have bR : SB ((((((w.alloc (.cells #[.pointer (some ⟨kb, 0, none⟩)] 161)).alloc (.cells (scells S) 85)).alloc (.cells #[.int .i64 e] 3)).alloc (.cells #[.int .u64 0, .int .u64 0, .int .u64 0, .int .u64 0] 85)).alloc (.cells #[.int .u64 0, .int .u64 0, .int .u64 0, .int .u64 0] 85)).alloc (.cells (scells S) 85)) (w.heap.size + 1 + 1 + 1) zeroS := by
    have := (((Blk.new (((w.alloc (.cells #[.pointer (some ⟨kb, 0, none⟩)] 161)).alloc (.cells (scells S) 85)).alloc (.cells #[.int .i64 e] 3)) 85 #[.int .u64 0, .int .u64 0, .int .u64 0, .int .u64 0]).alloc (.cells #[.int .u64 0, .int .u64 0, .int .u64 0, .int .u64 0] 85)).alloc (.cells (scells S) 85))
    rwa [World.size_alloc, World.size_alloc, World.size_alloc] at this
  have bO : SB ((((((w.alloc (.cells #[.pointer (some ⟨kb, 0, none⟩)] 161)).alloc (.cells (scells S) 85)).alloc (.cells #[.int .i64 e] 3)).alloc (.cells #[.int .u64 0, .int .u64 0, .int .u64 0, .int .u64 0] 85)).alloc (.cells #[.int .u64 0, .int .u64 0, .int .u64 0, .int .u64 0] 85)).alloc (.cells (scells S) 85)) (w.heap.size + 1 + 1 + 1 + 1) zeroS := by
    have := ((Blk.new ((((w.alloc (.cells #[.pointer (some ⟨kb, 0, none⟩)] 161)).alloc (.cells (scells S) 85)).alloc (.cells #[.int .i64 e] 3)).alloc (.cells #[.int .u64 0, .int .u64 0, .int .u64 0, .int .u64 0] 85)) 85 #[.int .u64 0, .int .u64 0, .int .u64 0, .int .u64 0]).alloc (.cells (scells S) 85))
    rwa [World.size_alloc, World.size_alloc, World.size_alloc, World.size_alloc] at this
  have bN : SB ((((((w.alloc (.cells #[.pointer (some ⟨kb, 0, none⟩)] 161)).alloc (.cells (scells S) 85)).alloc (.cells #[.int .i64 e] 3)).alloc (.cells #[.int .u64 0, .int .u64 0, .int .u64 0, .int .u64 0] 85)).alloc (.cells #[.int .u64 0, .int .u64 0, .int .u64 0, .int .u64 0] 85)).alloc (.cells (scells S) 85)) (w.heap.size + 1 + 1 + 1 + 1 + 1) S := by
    have := (Blk.new (((((w.alloc (.cells #[.pointer (some ⟨kb, 0, none⟩)] 161)).alloc (.cells (scells S) 85)).alloc (.cells #[.int .i64 e] 3)).alloc (.cells #[.int .u64 0, .int .u64 0, .int .u64 0, .int .u64 0] 85)).alloc (.cells #[.int .u64 0, .int .u64 0, .int .u64 0, .int .u64 0] 85)) 85 (scells S))
    rwa [World.size_alloc, World.size_alloc, World.size_alloc, World.size_alloc, World.size_alloc] at this
  have hsz0 : ((((((w.alloc (.cells #[.pointer (some ⟨kb, 0, none⟩)] 161)).alloc (.cells (scells S) 85)).alloc (.cells #[.int .i64 e] 3)).alloc (.cells #[.int .u64 0, .int .u64 0, .int .u64 0, .int .u64 0] 85)).alloc (.cells #[.int .u64 0, .int .u64 0, .int .u64 0, .int .u64 0] 85)).alloc (.cells (scells S) 85)).heap.size = w.heap.size + 6 := by simp
  revert hB0 bK bX bR bO bN hsz0
  generalize ((((((w.alloc (.cells #[.pointer (some ⟨kb, 0, none⟩)] 161)).alloc (.cells (scells S) 85)).alloc (.cells #[.int .i64 e] 3)).alloc (.cells #[.int .u64 0, .int .u64 0, .int .u64 0, .int .u64 0] 85)).alloc (.cells #[.int .u64 0, .int .u64 0, .int .u64 0, .int .u64 0] 85)).alloc (.cells (scells S) 85)) = W0
  intro hB0 bK bX bR bO bN hsz0
  have hT0 := hT.below hB0 hT.lt
  have hw0 := hT.lt
  refine wpIn_rangeFunc_ownG rfl (by omega) (gf := 164) (lb := #[.pointer (some ⟨w.heap.size + 1 + 1 + 1 + 1 + 1, 0, none⟩)]) rfl trivial (enters_of Tryd.func164 (by kernel_rfl) rfl)
    (all_stops 4 (by omega) (w.heap.size + 1 + 1 + 1 + 1 + 1) (w.heap.size + 4) S hS xs hxs (by omega) W0 (by omega) bN hT0) belowK_t (belowK_b (by omega)) (Below.refl _ _) (fun _ => rfl)
    (fun pre W' => SB W' (w.heap.size + 1 + 1 + 1 + 1) (ableF T e (nbNats pre)) ∧ Below (w.heap.size + 4) W0 W')
    (fun _ _ _ => False)
    (OwnFrom.and (Go.Own.from (own_SB (w.heap.size + 1 + 1 + 1 + 1) (fun pre : List (NB 6) => ableF T e (nbNats pre))) _) (ownFrom_below (by omega) (by omega)))
    (fun _ _ _ _ _ hs _ _ => hs)
    ⟨bO, Below.refl _ _⟩
    (fun x => { tmps := #[.pointer (some ⟨kb, 0, none⟩), sval S, .int .i64 e, .pointer (some ⟨w.heap.size, 0, none⟩), .pointer (some ⟨w.heap.size + 1, 0, none⟩), .pointer (some ⟨w.heap.size + 1 + 1, 0, none⟩), .pointer (some ⟨w.heap.size + 1 + 1 + 1, 0, none⟩), .pointer (some ⟨w.heap.size + 1 + 1 + 1 + 1, 0, none⟩), .int .i64 (x.1 : Int), sval S, .func (.func 164) #[] #[.pointer (some ⟨w.heap.size + 1 + 1 + 1 + 1 + 1, 0, none⟩)], .int .i64 (x.1 : Int), undef, undef, undef, undef, undef, undef, undef, undef, undef, undef, undef, undef, undef, undef], defers := [] }) ?assign ?body ?done ?stop
  case assign =>
    intro l x W K hK
    gi_wp2
    exact hK
  case body =>
    rintro l' pre x W' ⟨hO, hB'⟩ hlt
    have hBW : Below w.heap.size w W' := hB0.trans (hB'.mono (by omega))
    have hKW := hK.below hBW hK.lt
    have c0 : W'.cell? ⟨w.heap.size, 0, none⟩ = some (.pointer (some ⟨kb, 0, none⟩)) := Boxed.cell ((hB'.block _ (by omega)).trans bK)
    have c1 : W'.cell? ⟨w.heap.size + 1 + 1, 0, none⟩ = some (.int .i64 e) := Boxed.cell ((hB'.block _ (by omega)).trans bX)
    have hx := x.2
    obtain ⟨n, hn⟩ : ∃ n, Hid (n = x.1) := ⟨_, rfl⟩
    rw [← hn.out] at hx ⊢
    obtain ⟨t0, t1, t2, t3⟩ := hKW.lead hx he8
    obtain ⟨o0, o1, o2, o3⟩ := hO.cells
    have fO := hO.frozen
    have mx : Tryd.prog.follows .mixedOrders = true := by kernel_rfl
    have hn0 : (0 : Int) ≤ (n : Int) := by omega
    have hnI : (n : Int) < 6 := by omega
    have he0 : (0 : Int) ≤ (e : Int) := by omega
    have heI : (e : Int) < 8 := by omega
    have hTp : Hid (okS (T (n * 8 + e))) := hTok.out _
    have hOd : Hid (SB W'.drew (w.heap.size + 1 + 1 + 1 + 1) (ableF T e (nbNats pre))) := hO
    have HB := Hid.of hB'
    have HO := Hid.of hO
    have hOk : Hid (okS (ableF T e (nbNats pre))) := ok_ableF T _ _
    have HX : Hid (ableF T e (nbNats (pre ++ [x])) = if emptyB (T (n * 8 + e)) = true then ableF T e (nbNats pre) else withS (ableF T e (nbNats pre)) n) := by show _ = _; rw [nbNats_snoc, ableF_snoc, hn.out]
    obtain ⟨U, HU⟩ : ∃ U, Hid (U = T (n * 8 + e)) := ⟨_, rfl⟩
    rw [← HU.out] at hTp HX
    have SA : Hid (∀ X, Below W'.heap.size W' X → X.cell? ⟨w.heap.size, 0, none⟩ = some (.pointer (some ⟨kb, 0, none⟩)) ∧ X.cell? ⟨w.heap.size + 1 + 1, 0, none⟩ = some (.int .i64 e) ∧ X.cell? ⟨kb, 12 + n * 32 + e * 4, none⟩ = some (.int .u64 (U 0)) ∧ X.cell? ⟨kb, 12 + n * 32 + e * 4 + 1, none⟩ = some (.int .u64 (U 1)) ∧ X.cell? ⟨kb, 12 + n * 32 + e * 4 + 2, none⟩ = some (.int .u64 (U 2)) ∧ X.cell? ⟨kb, 12 + n * 32 + e * 4 + 3, none⟩ = some (.int .u64 (U 3))) := fun X hb => by
      obtain ⟨z0, z1, z2, z3⟩ := (hKW.below hb hKW.lt).lead hx he8
      rw [← HU.out] at z0 z1 z2 z3
      exact ⟨(hb.cell (p := ⟨w.heap.size, 0, none⟩) (show w.heap.size < _ by have := HO.out.lt; omega)).trans c0, (hb.cell (p := ⟨w.heap.size + 1 + 1, 0, none⟩) (show w.heap.size + 1 + 1 < _ by have := HO.out.lt; omega)).trans c1, z0, z1, z2, z3⟩
    have HKW := Hid.of hKW
    have HC0 := Hid.of c0
    have HC1 := Hid.of c1
    have hkl : Hid (kb < w.heap.size) := hK.lt
    clear hKW hBW hB' hO c0 c1 t0 t1 t2 t3 o0 o1 o2 o3 fO mx hOd
    generalize ableF T e (nbNats pre) = O at *
    have hgd := run_guard_set
    gi_wp2_with fail
    cases hE : emptyB U with
    | true =>
      have heq : ∀ V, (Op.equalIn 10000 85 (.agg #[.int .u64 (U 0), .int .u64 (U 1), .int .u64 (U 2), .int .u64 (U 3)]) (.agg #[.int .u64 0, .int .u64 0, .int .u64 0, .int .u64 0])).run Tryd.prog V = .ok true V := fun V => by rw [← hE]; exact run_equalIn_set U V
      have HXX : Hid (ableF T e (nbNats (pre ++ [x])) = O) := HX.out.trans (by rw [hE]; rfl)
      clear hE
      refine Code.wpIn_mono (Q := regQ fun a' X => a' = { tmps := #[.pointer (some ⟨kb, 0, none⟩), sval S, .int .i64 e, .pointer (some ⟨w.heap.size, 0, none⟩), .pointer (some ⟨w.heap.size + 1, 0, none⟩), .pointer (some ⟨w.heap.size + 1 + 1, 0, none⟩), .pointer (some ⟨w.heap.size + 1 + 1 + 1, 0, none⟩), .pointer (some ⟨w.heap.size + 1 + 1 + 1 + 1, 0, none⟩), .int .i64 (n : Int), sval S, .func (.func 164) #[] #[.pointer (some ⟨w.heap.size + 1 + 1 + 1 + 1 + 1, 0, none⟩)], .int .i64 (n : Int), .pointer (some ⟨kb, 0, none⟩), .int .i64 (n : Int), .int .i64 (e : Int), .pointer (some ⟨kb, 0, none⟩), .pointer (some ⟨kb, 12, none⟩), .pointer (some ⟨kb, 12 + n * 32, none⟩), .pointer (some ⟨kb, 12 + n * 32 + e * 4, none⟩), sval U, .agg #[.int .u64 0, .int .u64 0, .int .u64 0, .int .u64 0], .bool false, undef, undef, undef, undef], defers := [] } ∧ X = W'.drew) ?aft ?reg
      case reg =>
        refine wpIn_region_round (S := fun w' => w'.cell? ⟨w.heap.size, 0, none⟩ = some (.pointer (some ⟨kb, 0, none⟩)) ∧ w'.cell? ⟨w.heap.size + 1 + 1, 0, none⟩ = some (.int .i64 e) ∧ w'.cell? ⟨kb, 12 + n * 32 + e * 4, none⟩ = some (.int .u64 (U 0)) ∧ w'.cell? ⟨kb, 12 + n * 32 + e * 4 + 1, none⟩ = some (.int .u64 (U 1)) ∧ w'.cell? ⟨kb, 12 + n * 32 + e * 4 + 2, none⟩ = some (.int .u64 (U 2)) ∧ w'.cell? ⟨kb, 12 + n * 32 + e * 4 + 3, none⟩ = some (.int .u64 (U 3))) (by kernel_rfl) (noDefer_spec (by kernel_rfl)) regQ_inV (SA.out _ (Below.refl _ _).drew) (fun hS => ?_)
        obtain ⟨Y0, HYE⟩ : ∃ Y0, Hid (Y0 = W'.drew) := ⟨_, rfl⟩
        rw [← HYE.out] at hS ⊢
        refine wpAnyH_take (i := 0) (v := .pointer (some ⟨kb, 0, none⟩)) rfl (by kernel_rfl) (by kernel_rfl) (by kernel_rfl) (fun _ _ _ h => h) (Or.inl ⟨by kernel_rfl, fun w' hw' => by obtain ⟨q0, q1, q2, q3, q4, q5⟩ := hw'; go_simp⟩) hS ?_
        refine wpAnyH_take (i := 1) (v := .int .i64 (n : Int)) rfl (by kernel_rfl) (by kernel_rfl) (by kernel_rfl) (fun _ _ _ h => h) (Or.inl ⟨by kernel_rfl, fun w' hw' => by obtain ⟨q0, q1, q2, q3, q4, q5⟩ := hw'; go_simp⟩) hS ?_
        refine wpAnyH_take (i := 2) (v := .int .i64 (e : Int)) rfl (by kernel_rfl) (by kernel_rfl) (by kernel_rfl) (fun _ _ _ h => h) (Or.inl ⟨by kernel_rfl, fun w' hw' => by obtain ⟨q0, q1, q2, q3, q4, q5⟩ := hw'; go_simp⟩) hS ?_
        refine wpAnyH_take (i := 3) (v := .pointer (some ⟨kb, 0, none⟩)) rfl (by kernel_rfl) (by kernel_rfl) (by kernel_rfl) (fun _ _ _ h => h) (Or.inl ⟨by kernel_rfl, fun w' hw' => by obtain ⟨q0, q1, q2, q3, q4, q5⟩ := hw'; go_simp⟩) hS ?_
        refine wpAnyH_take (i := 4) (v := .pointer (some ⟨kb, 12, none⟩)) rfl (by kernel_rfl) (by kernel_rfl) (by kernel_rfl) (fun _ _ _ h => h) (Or.inl ⟨by kernel_rfl, fun w' hw' => by obtain ⟨q0, q1, q2, q3, q4, q5⟩ := hw'; go_simp⟩) hS ?_
        refine wpAnyH_take (i := 5) (v := .pointer (some ⟨kb, 12 + n * 32, none⟩)) rfl (by kernel_rfl) (by kernel_rfl) (by kernel_rfl) (fun _ _ _ h => h) (Or.inl ⟨by kernel_rfl, fun w' hw' => by obtain ⟨q0, q1, q2, q3, q4, q5⟩ := hw'; go_simp⟩) hS ?_
        refine wpAnyH_take (i := 6) (v := .pointer (some ⟨kb, 12 + n * 32 + e * 4, none⟩)) rfl (by kernel_rfl) (by kernel_rfl) (by kernel_rfl) (fun _ _ _ h => h) (Or.inl ⟨by kernel_rfl, fun w' hw' => by obtain ⟨q0, q1, q2, q3, q4, q5⟩ := hw'; go_simp⟩) hS ?_
        refine wpAnyH_take (i := 7) (v := sval U) rfl (by kernel_rfl) (by kernel_rfl) (by kernel_rfl) (fun _ _ _ h => h) (Or.inl ⟨by kernel_rfl, fun w' hw' => by obtain ⟨q0, q1, q2, q3, q4, q5⟩ := hw'; go_simp⟩) hS ?_
        refine wpAnyH_take (i := 8) (v := .agg #[.int .u64 0, .int .u64 0, .int .u64 0, .int .u64 0]) rfl (by kernel_rfl) (by kernel_rfl) (by kernel_rfl) (fun _ _ _ h => h) (Or.inl ⟨by kernel_rfl, fun w' hw' => by obtain ⟨q0, q1, q2, q3, q4, q5⟩ := hw'; go_simp⟩) hS ?_
        refine wpAnyH_take (i := 9) (v := .bool false) rfl (by kernel_rfl) (by kernel_rfl) (by kernel_rfl) (fun _ _ _ h => h) (Or.inl ⟨by kernel_rfl, fun w' hw' => by obtain ⟨q0, q1, q2, q3, q4, q5⟩ := hw'; go_simp⟩) hS ?_
        refine wpAnyH_done (by kernel_rfl) ?_ _
        exact ⟨by kernel_rfl, rfl⟩
      case aft =>
        refine regQ_imp ?_
        rintro a' X ⟨rfl, rfl⟩
        clear heq
        have k1 : KeepsOthers W' W'.drew := ⟨Nat.le_refl _, fun k o hk _ => hk⟩
        have k2 : Below (w.heap.size + 4) W' W'.drew := (Below.refl _ _).drew
        gi_wp2_with fail
        exact ⟨k1.from _, k2, by rw [HXX.out]; exact HO.out, HB.out.trans k2⟩
    | false =>
      have heq : ∀ V, (Op.equalIn 10000 85 (.agg #[.int .u64 (U 0), .int .u64 (U 1), .int .u64 (U 2), .int .u64 (U 3)]) (.agg #[.int .u64 0, .int .u64 0, .int .u64 0, .int .u64 0])).run Tryd.prog V = .ok false V := fun V => by rw [← hE]; exact run_equalIn_set U V
      have HXX : Hid (ableF T e (nbNats (pre ++ [x])) = withS O n) := HX.out.trans (by rw [hE]; rfl)
      clear hE
      refine Code.wpIn_mono (Q := regQ fun a' X => a' = { tmps := #[.pointer (some ⟨kb, 0, none⟩), sval S, .int .i64 e, .pointer (some ⟨w.heap.size, 0, none⟩), .pointer (some ⟨w.heap.size + 1, 0, none⟩), .pointer (some ⟨w.heap.size + 1 + 1, 0, none⟩), .pointer (some ⟨w.heap.size + 1 + 1 + 1, 0, none⟩), .pointer (some ⟨w.heap.size + 1 + 1 + 1 + 1, 0, none⟩), .int .i64 (n : Int), sval S, .func (.func 164) #[] #[.pointer (some ⟨w.heap.size + 1 + 1 + 1 + 1 + 1, 0, none⟩)], .int .i64 (n : Int), .pointer (some ⟨kb, 0, none⟩), .int .i64 (n : Int), .int .i64 (e : Int), .pointer (some ⟨kb, 0, none⟩), .pointer (some ⟨kb, 12, none⟩), .pointer (some ⟨kb, 12 + n * 32, none⟩), .pointer (some ⟨kb, 12 + n * 32 + e * 4, none⟩), sval U, .agg #[.int .u64 0, .int .u64 0, .int .u64 0, .int .u64 0], .bool true, undef, undef, undef, undef], defers := [] } ∧ X = W'.drew) ?aft ?reg
      case reg =>
        refine wpIn_region_round (S := fun w' => w'.cell? ⟨w.heap.size, 0, none⟩ = some (.pointer (some ⟨kb, 0, none⟩)) ∧ w'.cell? ⟨w.heap.size + 1 + 1, 0, none⟩ = some (.int .i64 e) ∧ w'.cell? ⟨kb, 12 + n * 32 + e * 4, none⟩ = some (.int .u64 (U 0)) ∧ w'.cell? ⟨kb, 12 + n * 32 + e * 4 + 1, none⟩ = some (.int .u64 (U 1)) ∧ w'.cell? ⟨kb, 12 + n * 32 + e * 4 + 2, none⟩ = some (.int .u64 (U 2)) ∧ w'.cell? ⟨kb, 12 + n * 32 + e * 4 + 3, none⟩ = some (.int .u64 (U 3))) (by kernel_rfl) (noDefer_spec (by kernel_rfl)) regQ_inV (SA.out _ (Below.refl _ _).drew) (fun hS => ?_)
        obtain ⟨Y0, HYE⟩ : ∃ Y0, Hid (Y0 = W'.drew) := ⟨_, rfl⟩
        rw [← HYE.out] at hS ⊢
        refine wpAnyH_take (i := 0) (v := .pointer (some ⟨kb, 0, none⟩)) rfl (by kernel_rfl) (by kernel_rfl) (by kernel_rfl) (fun _ _ _ h => h) (Or.inl ⟨by kernel_rfl, fun w' hw' => by obtain ⟨q0, q1, q2, q3, q4, q5⟩ := hw'; go_simp⟩) hS ?_
        refine wpAnyH_take (i := 1) (v := .int .i64 (n : Int)) rfl (by kernel_rfl) (by kernel_rfl) (by kernel_rfl) (fun _ _ _ h => h) (Or.inl ⟨by kernel_rfl, fun w' hw' => by obtain ⟨q0, q1, q2, q3, q4, q5⟩ := hw'; go_simp⟩) hS ?_
        refine wpAnyH_take (i := 2) (v := .int .i64 (e : Int)) rfl (by kernel_rfl) (by kernel_rfl) (by kernel_rfl) (fun _ _ _ h => h) (Or.inl ⟨by kernel_rfl, fun w' hw' => by obtain ⟨q0, q1, q2, q3, q4, q5⟩ := hw'; go_simp⟩) hS ?_
        refine wpAnyH_take (i := 3) (v := .pointer (some ⟨kb, 0, none⟩)) rfl (by kernel_rfl) (by kernel_rfl) (by kernel_rfl) (fun _ _ _ h => h) (Or.inl ⟨by kernel_rfl, fun w' hw' => by obtain ⟨q0, q1, q2, q3, q4, q5⟩ := hw'; go_simp⟩) hS ?_
        refine wpAnyH_take (i := 4) (v := .pointer (some ⟨kb, 12, none⟩)) rfl (by kernel_rfl) (by kernel_rfl) (by kernel_rfl) (fun _ _ _ h => h) (Or.inl ⟨by kernel_rfl, fun w' hw' => by obtain ⟨q0, q1, q2, q3, q4, q5⟩ := hw'; go_simp⟩) hS ?_
        refine wpAnyH_take (i := 5) (v := .pointer (some ⟨kb, 12 + n * 32, none⟩)) rfl (by kernel_rfl) (by kernel_rfl) (by kernel_rfl) (fun _ _ _ h => h) (Or.inl ⟨by kernel_rfl, fun w' hw' => by obtain ⟨q0, q1, q2, q3, q4, q5⟩ := hw'; go_simp⟩) hS ?_
        refine wpAnyH_take (i := 6) (v := .pointer (some ⟨kb, 12 + n * 32 + e * 4, none⟩)) rfl (by kernel_rfl) (by kernel_rfl) (by kernel_rfl) (fun _ _ _ h => h) (Or.inl ⟨by kernel_rfl, fun w' hw' => by obtain ⟨q0, q1, q2, q3, q4, q5⟩ := hw'; go_simp⟩) hS ?_
        refine wpAnyH_take (i := 7) (v := sval U) rfl (by kernel_rfl) (by kernel_rfl) (by kernel_rfl) (fun _ _ _ h => h) (Or.inl ⟨by kernel_rfl, fun w' hw' => by obtain ⟨q0, q1, q2, q3, q4, q5⟩ := hw'; go_simp⟩) hS ?_
        refine wpAnyH_take (i := 8) (v := .agg #[.int .u64 0, .int .u64 0, .int .u64 0, .int .u64 0]) rfl (by kernel_rfl) (by kernel_rfl) (by kernel_rfl) (fun _ _ _ h => h) (Or.inl ⟨by kernel_rfl, fun w' hw' => by obtain ⟨q0, q1, q2, q3, q4, q5⟩ := hw'; go_simp⟩) hS ?_
        refine wpAnyH_take (i := 9) (v := .bool true) rfl (by kernel_rfl) (by kernel_rfl) (by kernel_rfl) (fun _ _ _ h => h) (Or.inl ⟨by kernel_rfl, fun w' hw' => by obtain ⟨q0, q1, q2, q3, q4, q5⟩ := hw'; go_simp⟩) hS ?_
        refine wpAnyH_done (by kernel_rfl) ?_ _
        exact ⟨by kernel_rfl, rfl⟩
      case aft =>
        refine regQ_imp ?_
        rintro a' X ⟨rfl, rfl⟩
        clear heq
        have HOd : Hid (SB W'.drew (w.heap.size + 1 + 1 + 1 + 1) O) := HO.out
        have HBD : Hid (Below W'.heap.size W' W'.drew) := (Below.refl _ _).drew
        revert HOd HBD
        generalize W'.drew = Y0
        intro HOd HBD
        obtain ⟨o0, o1, o2, o3⟩ := SB.cells HOd.out
        gi_wp2_with (refine ⟨trivial, ?_⟩; refine CallsIn.mono (CallsIn.inRound l' (callsIn_wide.2 (with_any O (n : Int) _ hOk.out hn0 (by omega)))) ?_; rintro e' w2 ⟨rfl, hb2⟩; have hO2 := HOd.out.below hb2 HOd.out.lt; obtain ⟨y0, y1, y2, y3⟩ := SB.cells hO2; have fO2 := hO2.frozen; rw [Int.toNat_natCast])
        have HB2 : Below W'.heap.size W' w2 := HBD.out.trans (hb2.mono HBD.out.size)
        have k1 : KeepsOthers W' w2 := ⟨HB2.size, fun k o hk _ => (HB2.block k (Array.getElem?_eq_some_iff.1 hk).1).trans hk⟩
        have k2 : Below (w.heap.size + 4) W' w2 := HB2.mono (Nat.le_of_lt HO.out.lt)
        have k3 := below_set4 k2 (b' := w.heap.size + 1 + 1 + 1 + 1) (Nat.le_refl _) (.int .u64 (withS O n 0)) (.int .u64 (withS O n 1)) (.int .u64 (withS O n 2)) (.int .u64 (withS O n 3))
        exact ⟨((((k1.trans (KeepsOthers.setCell _ _ _)).trans (KeepsOthers.setCell _ _ _)).trans (KeepsOthers.setCell _ _ _)).trans (KeepsOthers.setCell _ _ _)).from _, k3, by rw [HXX.out]; exact SB.set4 hO2 _, HB.out.trans k3⟩
  case done =>
    rintro D ys W' hD rfl ⟨hO, hB'⟩ hK
    have hBW : Below w.heap.size w W' := hB0.trans (hB'.mono (by omega))
    obtain ⟨o0, o1, o2, o3⟩ := hO.cells
    have HQ : Hid (ableF T e (nbNats ys) = ableF T e (allS S)) := by show _ = _; rw [← hxs]; rfl
    have hres := bR.below hB' (by omega)
    obtain ⟨r0, r1, r2, r3⟩ := SB.cells hres
    have rz := hres.frozen
    have k2 := Hid.of (SB.set4 hres (ableF T e (nbNats ys)))
    have k3 := Hid.of (below_set4 hBW (b' := w.heap.size + 1 + 1 + 1) (by omega) (.int .u64 (ableF T e (nbNats ys) 0)) (.int .u64 (ableF T e (nbNats ys) 1)) (.int .u64 (ableF T e (nbNats ys) 2)) (.int .u64 (ableF T e (nbNats ys) 3)))
    have hMk : Marks w.heap.size [D] W' := by
      refine ⟨fun D' hD' => ?_, by simp⟩
      have e : D' = D := by simpa using hD'
      rw [e]
      exact ⟨by omega, hK⟩
    have k4 := Hid.of (hMk.other4 hres (ableF T e (nbNats ys)))
    clear hMk
    clear hO hBW hB' hres hK
    generalize ableF T e (nbNats ys) = O at *
    gi_wp2
    refine leaves_marks (B := w.heap.size) (fun W => SB W (w.heap.size + 1 + 1 + 1) O ∧ Below w.heap.size w W) ?hJ ?hfin [D] _ k4.out ⟨k2.out, k3.out⟩
    case hJ =>
      rintro W D ⟨h1, h2⟩ hD hk
      refine ⟨(World.putObj_heap_other (fun e => ?_)).trans h1, h2.trans (belowK_b (w := w) (Nat.le_refl _) W D _ _ hD hk rfl rfl)⟩
      have h3 : W.heap[w.heap.size + 1 + 1 + 1]? = _ := h1
      rw [e, hk] at h3
      cases h3
    case hfin =>
      rintro W ⟨h1, h2⟩
      exact ⟨_, results_cell_row (g := w.heap.size + 1 + 1 + 1) (p := 6) rfl _ _ _ _ _ _ rfl h1 Tryd.underlying85 rfl (by kernel_rfl), by rw [← HQ.out], h2⟩
  case stop =>
    rintro D c pre W _ _ h _
    exact h.elim

theorem kable_any (S : Nat → Nat) (hS : okS S) (e : Nat) (he8 : e < 8) (p : Plant) (P : PTL) (fa : Option Addr) (fc : Nat) (free : List Int) (R : Nat → Nat) (T : Nat → Nat → Nat) (mb : Nat) (hTok : ∀ p, okS (T p)) (hall : ∀ k ∈ allS S, k < 6) (kb : Nat) (w : World) (hT : Tab w) (hK : KV w kb p P fa fc free R T mb) :
    Calls Tryd.prog 187 #[.pointer (some ⟨kb, 0, none⟩), sval S, .int .i64 e] w fun e' W' => e' = .returned (sval (ableF T e (allS S))) ∧ Below w.heap.size w W' :=
  callsIn_wide.1 (kable_in S hS e he8 p P fa fc free R T mb hTok hall kb w hT hK)

end Go.Proofs.YtmlkpdeidpcidaaDoor
