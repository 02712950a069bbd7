/-
  machine.Leader, of whatever machine may be.
  The walks of current.watch and of its closure.
  The walk of jalousieref1.Sorted: insertion, one number after the other: it answers 'srt xs'.
  jalousieref1.Sorted hands back a slice of its own.
-/
import Derived.Test.YtgfpjfiikajadaaDoorCLead
import Derived.Test.YtgfpjfiikajadaaDoorG15
import Derived.Test.YtgfpjfiikajadaaDoorG10
import Derived.Test.YtgfpjfiikajadaaDoorG25
import Derived.Test.YtgfpjfiikajadaaDoorCLead1
import Derived.Test.YtgfpjfiikajadaaDoorG17
import Derived.Test.YtgfpjfiikajadaaDoorG19
import Derived.Deep.RegionHeld3
import Derived.Test.YtgfpjfiikajadaaDoorG07
import Derived.Deep.QuietTactic
import Derived.BigQuiet
import Derived.Test.YtgfpjfiikajadaaDoorG08
namespace Go.Proofs.YtgfpjfiikajadaaDoor
open Go.RowKit
set_option linter.unusedVariables false

/-- What machine.Leader answers, of what may be. -/
theorem leader_any (m : Mach) (l : ML) (w : World) (hm : mayB m = true) (h : MAt w m l) :
    Calls Tryd.prog 68 #[mval m l] w fun e w' => ∃ L, e = .returned (leadV L) ∧ LD w' L m.ev.toNat (m.st.toNat * m.ev.toNat) (tabS m.ev.toNat m.arrows) ∧ L.all (w.heap.size ≤ ·) ∧ Below w.heap.size w w' := by
  have hz := mayB_size hm
  have ha := arrsFrom_in (mayB_arrs hm)
  obtain ⟨st, ev, starts, arrows, ends⟩ := m
  obtain ⟨z1, z2, z3, z4, z5⟩ := hz
  simp only at z1 z2 z3 z4 z5 ha
  obtain ⟨s, rfl⟩ : ∃ s : Nat, st = (s : Int) := ⟨st.toNat, by omega⟩
  obtain ⟨e, rfl⟩ : ∃ e : Nat, ev = (e : Int) := ⟨ev.toNat, by omega⟩
  obtain ⟨a1, c1, a2, c2, a3, c3⟩ := l
  simp only [Int.toNat_natCast]
  exact leader_go s e starts arrows ends a1 c1 a2 c2 a3 c3 w (Hid.of h) (Hid.of hm) (by omega) (by omega) z5 (Hid.of ha)

theorem LD.other4 {W : World} {L : LB} {b' ev N : Nat} {T : Nat → Nat → Nat} (h : LD W L ev N T) (hn : L.all (· ≠ b')) (v0 v1 v2 v3 : Value) : LD ((((W.setCell ⟨b', 0, none⟩ v0).setCell ⟨b', 1, none⟩ v1).setCell ⟨b', 2, none⟩ v2).setCell ⟨b', 3, none⟩ v3) L ev N T := by
  obtain ⟨cs, c1, c2, c3⟩ := h.tab
  exact ⟨Blk.other4' h.is 0 hn.1 v0 v1 v2 v3, Blk.other4' h.evb 0 hn.2.1 v0 v1 v2 v3, Blk.other4' h.to 0 hn.2.2.1 v0 v1 v2 v3, ⟨cs, Blk.other4' c1 0 hn.2.2.2.1 v0 v1 v2 v3, c2, c3⟩, Blk.other4' h.bd 0 hn.2.2.2.2 v0 v1 v2 v3⟩
theorem LD.alloc {W : World} {L : LB} {ev N : Nat} {T : Nat → Nat → Nat} (h : LD W L ev N T) (o : Obj) : LD (W.alloc o) L ev N T := h.kept ((Below.refl _ _).alloc (Nat.le_refl _) o)
theorem LD.drew {W : World} {L : LB} {ev N : Nat} {T : Nat → Nat → Nat} (h : LD W L ev N T) : LD W.drew L ev N T := ⟨h.is, h.evb, h.to, h.tab, h.bd⟩

end Go.Proofs.YtgfpjfiikajadaaDoor
namespace Go.Proofs.YtgfpjfiikajadaaDoor
open Go.RowKit
set_option linter.unusedVariables false

theorem idx_place (n : Int) : ∀ (xs : List Int) (k : Nat), (∃ j : Nat, placeN xs n = some j ∧ idxFrom n k xs = ((k + j : Nat) : Int)) ∨ (placeN xs n = none ∧ idxFrom n k xs = -1)
  | [], k => .inr ⟨rfl, rfl⟩
  | x :: r, k => by
    unfold placeN idxFrom
    by_cases h : n = x
    · subst h
      exact .inl ⟨0, by simp, by simp⟩
    · have h' : ¬ x = n := fun e => h e.symm
      rw [if_neg h]
      rcases idx_place n r (k + 1) with ⟨j, h1, h2⟩ | ⟨h1, h2⟩
      · exact .inl ⟨j + 1, by simp [h', h1], by rw [h2]; simp; omega⟩
      · exact .inr ⟨by simp [h', h1], h2⟩
theorem idx_of {n : Int} {xs : List Int} {j : Nat} (h : placeN xs n = some j) : idxFrom n 0 xs = (j : Int) := by
  rcases idx_place n xs 0 with ⟨i, h1, h2⟩ | ⟨h1, -⟩
  · rw [h] at h1
    have := Option.some.inj h1
    subst this
    rw [h2]; simp
  · rw [h] at h1; cases h1

abbrev zs4 : Array Value := #[.int .u64 0, .int .u64 0, .int .u64 0, .int .u64 0]
/-- The closure that tells where an estimate leads to, and what it knows. -/
abbrev cleadV (pl pp : Nat) : Value := .func (.func 106) #[] #[.pointer (some ⟨pl, 0, none⟩), .pointer (some ⟨pp, 0, none⟩)]
structure CL (W : World) (pl pp : Nat) (L : LB) (p : Plant) (P : PTL) : Prop where
  ca : Blk W pl 90 #[leadV L]
  cp : Blk W pp 50 (ptcells p P)
  pt : PAt W p P
  la : LD W L p.seen.length (p.m.st.toNat * p.seen.length) (tabS p.seen.length (hideM p.m p.seen).arrows)
theorem CL.kept {W W' : World} {pl pp : Nat} {L : LB} {p : Plant} {P : PTL} (h : CL W pl pp L p P) (hb : Below W.heap.size W W') : CL W' pl pp L p P :=
  ⟨h.ca.below hb h.ca.lt, h.cp.below hb h.cp.lt, h.pt.below hb (Nat.le_refl _), h.la.kept hb⟩

set_option maxRecDepth 100000 in
set_option maxHeartbeats 8000000 in
theorem cwatch1_any (p : Plant) (P : PTL) (S : Nat → Nat) (e : Int) (k : Nat) (hk : Hid (placeN p.seen e = some k)) (hk2 : k < p.seen.length) (h8 : p.seen.length ≤ 8) (h256 : p.m.st.toNat ≤ 256) (hS : Hid (okS S)) (hall : Hid (∀ n ∈ allS S, n < p.m.st.toNat)) (pl pp : Nat) (L : LB) (w : World) (hT : Hid (Tab w)) (hL : Hid (CL w pl pp L p P)) :
    Calls Tryd.prog 106 #[sval S, .int .i64 e, .pointer (some ⟨pl, 0, none⟩), .pointer (some ⟨pp, 0, none⟩)] w fun e' w' => e' = .returned (sval (leadS p.seen.length (hideM p.m p.seen).arrows S k)) ∧ Below w.heap.size w w' := by
  have B0 : Hid (Below w.heap.size w ((w.alloc (.cells (scells S) 65)).alloc (.cells zs4 65))) := ((Below.refl _ _).alloc (Nat.le_refl _) _).alloc (by simp) _
  have K0 : Hid (SB ((w.alloc (.cells (scells S) 65)).alloc (.cells zs4 65)) w.heap.size S) := (Blk.new w _ _).alloc _
  have R0 : Hid (SB ((w.alloc (.cells (scells S) 65)).alloc (.cells zs4 65)) (w.heap.size + 1) zeroS) := by
    have := Blk.new (w.alloc (.cells (scells S) 65)) 65 zs4
    rwa [World.size_alloc] at this
  go_enter Tryd.func106, Tryd.ntmps106
  go_wp2_with fail
  revert B0 K0 R0
  generalize (w.alloc (.cells (scells S) 65)).alloc (.cells zs4 65) = V0
  intro B0 K0 R0
  have cellsAt : Hid (∀ W, Below w.heap.size w W → SB W w.heap.size S → W.cell? ⟨w.heap.size, 0, none⟩ = some (.int .u64 (S 0)) ∧ W.cell? ⟨w.heap.size, 1, none⟩ = some (.int .u64 (S 1)) ∧ W.cell? ⟨w.heap.size, 2, none⟩ = some (.int .u64 (S 2)) ∧ W.cell? ⟨w.heap.size, 3, none⟩ = some (.int .u64 (S 3)) ∧ W.cell? ⟨pl, 0, none⟩ = some (leadV L) ∧ W.cell? ⟨pp, 5, none⟩ = some (.slice P.sa p.seen.length P.sc)) := fun W hb hp => by
    obtain ⟨x0, x1, x2, x3⟩ := SB.cells hp
    exact ⟨x0, x1, x2, x3, (hL.out.ca.below hb hL.out.ca.lt).cell 0 rfl, (hL.out.cp.below hb hL.out.cp.lt).cell 5 rfl⟩
  refine wp_region_held_drew (S := fun w' => w'.cell? ⟨w.heap.size, 0, none⟩ = some (.int .u64 (S 0)) ∧ w'.cell? ⟨w.heap.size, 1, none⟩ = some (.int .u64 (S 1)) ∧ w'.cell? ⟨w.heap.size, 2, none⟩ = some (.int .u64 (S 2)) ∧ w'.cell? ⟨w.heap.size, 3, none⟩ = some (.int .u64 (S 3)) ∧ w'.cell? ⟨pl, 0, none⟩ = some (leadV L) ∧ w'.cell? ⟨pp, 5, none⟩ = some (.slice P.sa p.seen.length P.sc)) (by kernel_rfl) (cellsAt.out _ B0.out.drew (Blk.drew K0.out)) (fun hS0 => ?_)
  have B1 : Hid (Below w.heap.size w V0.drew) := B0.out.drew
  have K1 : Hid (SB V0.drew w.heap.size S) := Blk.drew K0.out
  have R1 : Hid (SB V0.drew (w.heap.size + 1) zeroS) := Blk.drew R0.out
  clear B0 K0 R0
  revert B1 K1 R1 hS0
  generalize V0.drew = Y0
  intro hS0 B1 K1 R1
  refine wpAnyH_take (i := 0) (v := leadV L) rfl (by kernel_rfl) (by kernel_rfl) (by kernel_rfl) (fun _ _ _ h => h) (Or.inl ⟨by kernel_rfl, fun w' hw' => by obtain ⟨q0, q1, q2, q3, q4, q5⟩ := hw'; go_simp⟩) hS0 ?_
  refine wpAnyH_take (i := 1) (v := sval S) rfl (by kernel_rfl) (by kernel_rfl) (by kernel_rfl) (fun _ _ _ h => h) (Or.inl ⟨by kernel_rfl, fun w' hw' => by obtain ⟨q0, q1, q2, q3, q4, q5⟩ := hw'; go_simp⟩) hS0 ?_
  refine wpAnyH_take (i := 2) (v := .pointer (some ⟨pp, 5, none⟩)) rfl (by kernel_rfl) (by kernel_rfl) (by kernel_rfl) (fun _ _ _ h => h) (Or.inl ⟨by kernel_rfl, fun w' hw' => by obtain ⟨q0, q1, q2, q3, q4, q5⟩ := hw'; go_simp⟩) hS0 ?_
  refine wpAnyH_take (i := 3) (v := .slice P.sa p.seen.length P.sc) rfl (by kernel_rfl) (by kernel_rfl) (by kernel_rfl) (fun _ _ _ h => h) (Or.inl ⟨by kernel_rfl, fun w' hw' => by obtain ⟨q0, q1, q2, q3, q4, q5⟩ := hw'; go_simp⟩) hS0 ?_
  refine wpAnyH_take (i := 4) (v := .int .i64 e) rfl (by kernel_rfl) (by kernel_rfl) (by kernel_rfl) (fun _ _ _ h => h) (Or.inl ⟨by kernel_rfl, fun w' hw' => by obtain ⟨q0, q1, q2, q3, q4, q5⟩ := hw'; go_simp⟩) hS0 ?_
  simp only [Act.put, List.setIfInBounds_toArray]
  refine wpAnyH_ready (rs := [5]) (by kernel_rfl) (by simp) ?_
  refine AllReadyH.cons rfl (fun K' hK' => ?_) AllReadyH.nil
  go_simp
  refine (index_any P.sa P.sc p.seen e Y0 (hL.out.pt.s.at_.below B1.out (Nat.le_refl _)) hL.out.pt.s.len).mono ?_
  rintro e1 Y1 ⟨rfl, rfl⟩
  rw [idx_of hk.out]
  refine hK'.out _ _ (cellsAt.out _ B1.out K1.out) (fun hS1 => ?_)
  clear hK' K' hS0
  refine wpAnyH_ready (rs := [6]) (by kernel_rfl) (by simp) ?_
  refine AllReadyH.cons rfl (fun K' hK' => ?_) AllReadyH.nil
  go_simp
  refine (lead1_any p.m.st.toNat p.seen.length k L _ (okS_tab _ _) S hS.out hall.out hk2 h8 h256 _ (hT.out.below B1.out hT.out.lt) (hL.out.la.below B1.out hL.out.la.lt)).mono ?_
  rintro e1 Y2 ⟨rfl, hb1⟩
  have B3 := Hid.of (B1.out.trans (hb1.mono B1.out.size))
  have K3 := Hid.of (K1.out.below hb1 K1.out.lt)
  have R3 := Hid.of (R1.out.below hb1 R1.out.lt)
  refine hK'.out _ _ (cellsAt.out _ B3.out K3.out) (fun hS2 => ?_)
  clear hK' K' hb1 B1 K1 R1 hS1
  obtain ⟨Q, HQ⟩ : ∃ Q, Hid (Q = leadF (tabS p.seen.length (hideM p.m p.seen).arrows) p.seen.length k (allS S)) := ⟨_, rfl⟩
  rw [← HQ.out]
  have HR : Hid (leadS p.seen.length (hideM p.m p.seen).arrows S k = Q) := by show _ = _; unfold leadS; rw [HQ.out]
  refine wpAnyH_ready (rs := [7]) (by kernel_rfl) (by simp) ?_
  refine AllReadyH.cons rfl (fun K' hK' => ?_) AllReadyH.nil
  have rz := R3.out.frozen
  obtain ⟨r0, r1, r2, r3⟩ := SB.cells R3.out
  have RR := Hid.of (SB.set4 R3.out Q)
  have BB := Hid.of (below_set4 B3.out (b' := w.heap.size + 1) (by omega) (.int .u64 (Q 0)) (.int .u64 (Q 1)) (.int .u64 (Q 2)) (.int .u64 (Q 3)))
  have KK : Hid (SB _ w.heap.size S) := Blk.other4 K3.out (Nat.ne_of_lt (Nat.lt_succ_self w.heap.size)) (.int .u64 (Q 0)) (.int .u64 (Q 1)) (.int .u64 (Q 2)) (.int .u64 (Q 3))
  go_simp
  refine hK'.out _ _ (cellsAt.out _ BB.out KK.out) (fun hS3 => ?_)
  clear hK' K' r0 r1 r2 r3 rz hS2 hS3
  refine wpAnyH_done (by kernel_rfl) ?_ _
  obtain ⟨r0, r1, r2, r3⟩ := SB.cells RR.out
  go_wp2
  refine bodyPost_ret (v := sval Q) ?_ rfl ⟨by rw [HR.out], BB.out⟩
  simp [results, go_sem, r0, r1, r2, r3]

/-- What watch leaves, where the plant may be. -/
def WatchPost (w : World) (p : Plant) (P : PTL) (e : Ending) (w' : World) : Prop := ∃ pl pp L, e = .returned (.tuple #[sval (ofS (wideL p.m.arrows p.seen p.m.starts)), cleadV pl pp, .int .i64 0]) ∧ CL w' pl pp L p P ∧ Below w.heap.size w w'

theorem results_setTwo {fn : Func} {p u v : Tmp} (h : fn.results = #[.cell p 65, .tmp u, .tmp v]) (tmps : Array Value) (w : World) (g : Nat) (S : Nat → Nat) (x y : Value) (hp : tmps.getD p undef = .pointer (some ⟨g, 0, none⟩)) (hu : tmps.getD u undef = x) (hv : tmps.getD v undef = y) (hB : SB w g S) :
    (results fn tmps).run Tryd.prog w = .ok (.tuple #[sval S, x, y]) w := by
  obtain ⟨x0, x1, x2, x3⟩ := SB.cells hB
  have e : (results fn tmps).run Tryd.prog w = ((asAddr (tmps.getD p undef)).run Tryd.prog w).andThen fun a w₁ => ((loadVar 65 a).run Tryd.prog w₁).andThen fun r w₂ => .ok (.tuple #[r, tmps.getD u undef, tmps.getD v undef]) w₂ := by
    simp only [results, h]
    simp [Sem.run_bind, Result.andThen]
  rw [e, hp, hu, hv]
  go_simp

set_option maxRecDepth 100000 in
set_option maxHeartbeats 8000000 in
theorem cwatch_bad (p : Plant) (P : PTL) (w : World) (h : Hid (PAt w p P)) (hp : Hid (mayP p = false)) :
    Calls Tryd.prog 77 #[ptval p P] w fun e w' => e = .returned (.tuple #[sval zeroS, .nilFunc, .int .i64 2]) ∧ Below w.heap.size w w' := by
  have B : Hid (Below w.heap.size w ((w.alloc (.cells (ptcells p P) 50)).alloc (.cells zs4 65))) := ((Below.refl _ _).alloc (Nat.le_refl _) _).alloc (by simp) _
  have KP : Hid (Blk ((w.alloc (.cells (ptcells p P) 50)).alloc (.cells zs4 65)) w.heap.size 50 (ptcells p P)) := (Blk.new w _ _).alloc _
  have KR : Hid (SB ((w.alloc (.cells (ptcells p P) 50)).alloc (.cells zs4 65)) (w.heap.size + 1) zeroS) := by
    have := Blk.new (w.alloc (.cells (ptcells p P) 50)) 65 zs4
    rwa [World.size_alloc] at this
  go_enter Tryd.func77, Tryd.ntmps77
  obtain ⟨x0, x1, x2, x3, x4, x5, x6⟩ := ptcell_at KP.out
  go_wp2_with fail
  clear x0 x1 x2 x3 x4 x5 x6
  revert B KP KR
  generalize ((w.alloc (.cells (ptcells p P) 50)).alloc (.cells zs4 65)) = V0
  intro B KP KR
  refine (pCurMay_any p P V0 (h.out.below B.out (Nat.le_refl _))).mono ?_
  rintro e W1 ⟨rfl, hb⟩
  replace B := Hid.of (B.out.trans (hb.mono B.out.size))
  replace KP := Hid.of (KP.out.below hb KP.out.lt)
  replace KR := Hid.of (KR.out.below hb KR.out.lt)
  clear hb
  rw [hp.out]
  have rz := KR.out.frozen
  obtain ⟨r0, r1, r2, r3⟩ := SB.cells KR.out
  have RR := Hid.of (SB.set4 KR.out zeroS)
  have BB := Hid.of (below_set4 B.out (b' := w.heap.size + 1) (by omega) (.int .u64 (zeroS 0)) (.int .u64 (zeroS 1)) (.int .u64 (zeroS 2)) (.int .u64 (zeroS 3)))
  go_wp2_with fail
  exact bodyPost_ret (v := .tuple #[sval zeroS, .nilFunc, .int .i64 2]) (results_setTwo (p := 2) (u := 3) (v := 4) rfl _ _ (w.heap.size + 1) zeroS _ _ rfl rfl rfl RR.out) rfl ⟨rfl, BB.out⟩

set_option maxRecDepth 100000 in
set_option maxHeartbeats 8000000 in
theorem cwatch_ok (p : Plant) (P : PTL) (w : World) (h : Hid (PAt w p P)) (hT : Hid (Tab w)) (hp : Hid (mayP p = true)) :
    Calls Tryd.prog 77 #[ptval p P] w fun e w' => WatchPost w p P e w' := by
  have hmf : ∀ (fn : Fn) (first cap : Array Value) (w : World), (Instr.makeFunc fn first cap).run Tryd.prog w = .ok (.func fn first cap) w := fun _ _ _ _ => rfl
  obtain ⟨hm, z6, hr, -⟩ := (mayP_iff p).1 hp.out
  have hft := hide_small hm z6 hr
  have HMH := Hid.of (may_hide hm hr hft)
  have HMM := Hid.of hm
  have HRR := Hid.of hr
  have HFT := Hid.of hft
  have sbd : Hid (∀ x ∈ (hideM p.m p.seen).starts, 0 ≤ x ∧ x < 256) := fun x hx => by
    have := (may_starts HMH.out).2 x hx
    have e : (hideM p.m p.seen).st = p.m.st := rfl
    omega
  clear hm hr hft z6
  have B : Hid (Below w.heap.size w ((w.alloc (.cells (ptcells p P) 50)).alloc (.cells zs4 65))) := ((Below.refl _ _).alloc (Nat.le_refl _) _).alloc (by simp) _
  have KP : Hid (Blk ((w.alloc (.cells (ptcells p P) 50)).alloc (.cells zs4 65)) w.heap.size 50 (ptcells p P)) := (Blk.new w _ _).alloc _
  have KR : Hid (SB ((w.alloc (.cells (ptcells p P) 50)).alloc (.cells zs4 65)) (w.heap.size + 1) zeroS) := by
    have := Blk.new (w.alloc (.cells (ptcells p P) 50)) 65 zs4
    rwa [World.size_alloc] at this
  go_enter Tryd.func77, Tryd.ntmps77
  obtain ⟨x0, x1, x2, x3, x4, x5, x6⟩ := ptcell_at KP.out
  go_wp2_with fail
  clear x0 x1 x2 x3 x4 x5 x6
  revert B KP KR
  generalize ((w.alloc (.cells (ptcells p P) 50)).alloc (.cells zs4 65)) = V0
  intro B KP KR
  refine (pCurMay_any p P V0 (h.out.below B.out (Nat.le_refl _))).mono ?_
  rintro e W1 ⟨rfl, hb⟩
  replace B := Hid.of (B.out.trans (hb.mono B.out.size))
  replace KP := Hid.of (KP.out.below hb KP.out.lt)
  replace KR := Hid.of (KR.out.below hb KR.out.lt)
  clear hb
  rw [hp.out]
  obtain ⟨x0, x1, x2, x3, x4, x5, x6⟩ := ptcell_at KP.out
  go_wp2_with fail
  clear x0 x1 x2 x3 x4 x5 x6
  refine (hide_okp p.m P.l P.sa P.sc p.seen W1 (h.out.m.below B.out (Nat.le_refl _)) (h.out.s.at_.below B.out (Nat.le_refl _)) h.out.s.len (hT.out.below B.out hT.out.lt) HMM.out HRR.out HFT.out).mono ?_
  rintro e W2 ⟨Lh, rfl, mt, hb⟩
  replace B := Hid.of (B.out.trans (hb.mono B.out.size))
  replace KP := Hid.of (KP.out.below hb KP.out.lt)
  replace KR := Hid.of (KR.out.below hb KR.out.lt)
  clear hb
  obtain ⟨M, HM⟩ : ∃ M, Hid (M = hideM p.m p.seen) := ⟨_, rfl⟩
  rw [← HM.out] at mt HMH sbd
  rw [← HM.out]
  have hb : Below W2.heap.size W2 (W2.alloc (.cells (mcells M Lh) 25)) := (Below.refl _ _).alloc (Nat.le_refl _) _
  replace B := Hid.of (B.out.trans (hb.mono B.out.size))
  replace KP := Hid.of (KP.out.below hb KP.out.lt)
  replace KR := Hid.of (KR.out.below hb KR.out.lt)
  have MT := Hid.of (mt.below hb (Nat.le_refl _))
  have KM := Hid.of (Blk.new W2 25 (mcells M Lh))
  clear hb mt
  obtain ⟨x0, x1, x2, x3, x4⟩ := mcell_at KM.out
  go_wp2_with fail
  clear x0 x1 x2 x3 x4
  revert B KP KR MT KM
  show Hid (Below w.heap.size w (W2.alloc (.cells #[.int .i64 M.st, .int .i64 M.ev, .slice Lh.a1 M.starts.length Lh.c1, .slice Lh.a2 M.arrows.length Lh.c2, .slice Lh.a3 M.ends.length Lh.c3] 25))) → _
  generalize W2.alloc (.cells #[.int .i64 M.st, .int .i64 M.ev, .slice Lh.a1 M.starts.length Lh.c1, .slice Lh.a2 M.arrows.length Lh.c2, .slice Lh.a3 M.ends.length Lh.c3] 25) = W3
  generalize W2.heap.size = pm
  intro B KP KR MT KM
  refine (leader_any M Lh W3 HMH.out MT.out).mono ?_
  rintro e W4 ⟨L, rfl, ld, ll, hb⟩
  have LL : Hid (L.all (· ≠ w.heap.size + 1)) := ll.imp (fun n hn => by have := KR.out.lt; omega)
  replace B := Hid.of (B.out.trans (hb.mono B.out.size))
  replace KP := Hid.of (KP.out.below hb KP.out.lt)
  replace KR := Hid.of (KR.out.below hb KR.out.lt)
  replace KM := Hid.of (KM.out.below hb KM.out.lt)
  replace MT := Hid.of (MT.out.below hb (Nat.le_refl _))
  clear hb ll
  have hb : Below W4.heap.size W4 (W4.alloc (.cells #[leadV L] 90)) := (Below.refl _ _).alloc (Nat.le_refl _) _
  have P7 := Hid.of (show w.heap.size + 1 < W4.heap.size from KR.out.lt)
  replace B := Hid.of (B.out.trans (hb.mono B.out.size))
  replace KP := Hid.of (KP.out.below hb KP.out.lt)
  replace KR := Hid.of (KR.out.below hb KR.out.lt)
  replace KM := Hid.of (KM.out.below hb KM.out.lt)
  replace MT := Hid.of (MT.out.below hb (Nat.le_refl _))
  have LD1 := Hid.of (ld.kept hb)
  have KF := Hid.of (Blk.new W4 90 #[leadV L])
  clear hb ld
  obtain ⟨x0, x1, x2, x3, x4⟩ := mcell_at KM.out
  go_wp2_with fail
  clear x0 x1 x2 x3 x4
  revert P7 B KP KR KM MT LD1 KF
  generalize W4.alloc (.cells #[leadV L] 90) = W5
  generalize W4.heap.size = pf
  intro P7 B KP KR KM MT LD1 KF
  refine (of_any Lh.a1 Lh.c1 M.starts W5 MT.out.s (Nat.le_trans MT.out.s1 MT.out.s2) sbd.out).mono ?_
  rintro e W6 ⟨rfl, hb⟩
  replace B := Hid.of (B.out.trans (hb.mono B.out.size))
  replace KP := Hid.of (KP.out.below hb KP.out.lt)
  replace KR := Hid.of (KR.out.below hb KR.out.lt)
  replace LD1 := Hid.of (LD1.out.kept hb)
  replace KF := Hid.of (KF.out.below hb KF.out.lt)
  clear hb KM MT
  obtain ⟨Q, HQ⟩ : ∃ Q, Hid (Q = ofS M.starts) := ⟨_, rfl⟩
  rw [← HQ.out]
  have rz := KR.out.frozen
  obtain ⟨r0, r1, r2, r3⟩ := SB.cells KR.out
  have RR := Hid.of (SB.set4 KR.out Q)
  have BB := Hid.of (below_set4 B.out (b' := w.heap.size + 1) (by omega) (.int .u64 (Q 0)) (.int .u64 (Q 1)) (.int .u64 (Q 2)) (.int .u64 (Q 3)))
  have PP := Hid.of (Blk.other4 KP.out (Nat.ne_of_lt (Nat.lt_succ_self w.heap.size)) (.int .u64 (Q 0)) (.int .u64 (Q 1)) (.int .u64 (Q 2)) (.int .u64 (Q 3)))
  have FF := Hid.of (Blk.other4 KF.out (b' := w.heap.size + 1) (by have := P7.out; omega) (.int .u64 (Q 0)) (.int .u64 (Q 1)) (.int .u64 (Q 2)) (.int .u64 (Q 3)))
  have DD := Hid.of (LD.other4 LD1.out LL.out (.int .u64 (Q 0)) (.int .u64 (Q 1)) (.int .u64 (Q 2)) (.int .u64 (Q 3)))
  clear B KP KR LD1 KF
  go_wp2_with fail
  refine bodyPost_ret (v := .tuple #[sval Q, cleadV pf w.heap.size, .int .i64 0]) (results_setTwo (p := 2) (u := 3) (v := 4) rfl _ _ (w.heap.size + 1) Q _ _ rfl rfl rfl RR.out) rfl ⟨pf, w.heap.size, L, ?_, ⟨FF.out, PP.out, h.out.below BB.out (Nat.le_refl _), ?_⟩, BB.out⟩
  · rw [HQ.out, HM.out]; rfl
  · have := DD.out
    rw [HM.out] at this
    exact this

end Go.Proofs.YtgfpjfiikajadaaDoor
namespace Go.Proofs.YtgfpjfiikajadaaDoor
open Go.RowKit
set_option linter.unusedVariables false

theorem getD_cons_succ' (y : Int) (r : List Int) (j : Nat) : (y :: r)[j + 1]?.getD 0 = r[j]?.getD 0 := by simp

theorem ins_put {x : Int} : ∀ {L : List Int} {p : Nat}, p ≤ L.length → (∀ j, j < p → L[j]?.getD 0 < x) → (p = L.length ∨ x < L[p]?.getD 0) → ins x L = L.take p ++ x :: L.drop p
  | [], p, hp, _, _ => by have : p = 0 := by simpa using hp
                          subst this; simp [ins]
  | y :: r, 0, _, _, h => by
    rcases h with h | h
    · simp at h
    · have h : x < y := by simpa using h
      simp only [ins, List.take_zero, List.drop_zero, List.nil_append]
      rw [if_neg (by omega), if_neg (by omega)]
  | y :: r, p + 1, hp, hl, h => by
    have h0 : y < x := by simpa using hl 0 (by omega)
    have := ins_put (x := x) (L := r) (p := p) (by simpa using hp) (fun j hj => by have := hl (j + 1) (by omega); rwa [getD_cons_succ'] at this) (by rcases h with h | h; left; simpa using h; right; rwa [getD_cons_succ'] at h)
    simp only [ins]
    rw [if_pos h0, this]
    simp
theorem ins_same {x : Int} : ∀ {L : List Int} {p : Nat}, p < L.length → (∀ j, j < p → L[j]?.getD 0 < x) → L[p]?.getD 0 = x → ins x L = L
  | [], p, hp, _, _ => by simp at hp
  | y :: r, 0, _, _, h => by
    have h : y = x := by simpa using h
    simp only [ins]
    rw [if_neg (by omega), if_pos h]
  | y :: r, p + 1, hp, hl, h => by
    have h0 : y < x := by simpa using hl 0 (by omega)
    have := ins_same (x := x) (L := r) (p := p) (by simpa using hp) (fun j hj => by have := hl (j + 1) (by omega); rwa [getD_cons_succ'] at this) (by rwa [getD_cons_succ'] at h)
    simp only [ins]
    rw [if_pos h0, this]

/-- The list with one place more, at c. -/
def gap (L : List Int) (c : Nat) (y : Int) : List Int := L.take c ++ y :: L.drop c

theorem gap_len {L : List Int} {c : Nat} {y : Int} (h : c ≤ L.length) : (gap L c y).length = L.length + 1 := by simp [gap]; omega
theorem gap_end (L : List Int) : L ++ [0] = gap L L.length 0 := by simp [gap]
theorem gap_at {L : List Int} {c : Nat} {y : Int} (h : c < L.length) : (gap L (c + 1) y)[c]?.getD 0 = L[c]?.getD 0 := by
  rw [gap, List.getElem?_append_left (by simp; omega), List.getElem?_take_of_lt (by omega)]
theorem gap_set {L : List Int} {c : Nat} {y x : Int} (h : c ≤ L.length) : (gap L c y).set c x = gap L c x := by
  rw [gap, gap, List.set_append_right _ _ (by simp; omega)]
  simp only [List.length_take]
  rw [show c - min c L.length = 0 by omega]; rfl
theorem gap_move {L : List Int} {c : Nat} {y : Int} (h : c < L.length) : (gap L (c + 1) y).set (c + 1) (L[c]?.getD 0) = gap L c (L[c]?.getD 0) := by
  rw [gap_set (by omega), gap, gap, List.take_add_one, List.getElem?_eq_getElem h]
  conv => rhs; rw [List.drop_eq_getElem_cons h]
  simp only [Option.toList_some, Option.getD_some, List.append_assoc, List.singleton_append]

theorem Own.cellAt {w : World} {B g n cap : Nat} {M : List Int} (h : Own w B (.slice (some ⟨g, 0, none⟩) n cap) M) {j : Nat} (hj : j < M.length) : w.cell? ⟨g, j, none⟩ = some (.int .i64 (M[j]?.getD 0)) ∧ w.frozen? ⟨g, j, none⟩ = false ∧ B ≤ g := by
  rcases h.cells_of with ⟨h0, _⟩ | ⟨g', cap', h0, hb, hg, hc, hf⟩
  · simp at h0
  · simp only [Value.slice.injEq, Option.some.injEq, Addr.mk.injEq, and_true] at h0
    obtain ⟨rfl, rfl, rfl⟩ := h0
    have := hc j hj
    rw [Nat.zero_add, List.getD_eq_getElem?_getD] at this
    exact ⟨this, hf j, hb⟩
theorem Own.stored {w : World} {B g n cap : Nat} {M : List Int} (h : Own w B (.slice (some ⟨g, 0, none⟩) n cap) M) (j : Nat) (x : Int) : Own (w.setCell ⟨g, j, none⟩ (.int .i64 x)) B (.slice (some ⟨g, 0, none⟩) n cap) (M.set j x) := by
  have hn : n = M.length := by
    rcases h.2 with ⟨h0, _⟩ | ⟨g', cap', cur, h0, _⟩
    · simp at h0
    · simp only [Value.slice.injEq] at h0; exact h0.2.1
  subst hn
  have := (World.ownsRow.stored h j (.int .i64 x)).1
  unfold Own
  rw [List.length_set, List.map_set]
  exact this
theorem Own.shape {w : World} {B : Nat} {v : Value} {M : List Int} (h : Own w B v M) (hp : 0 < M.length) : ∃ g cap, v = .slice (some ⟨g, 0, none⟩) M.length cap := by
  rcases h.cells_of with ⟨_, h0⟩ | ⟨g', cap', h0, _⟩
  · subst h0; simp at hp
  · exact ⟨g', cap', h0⟩

theorem srt_take {xs : List Int} {k : Nat} {x : Int} (h : k < xs.length) (hx : Hid (x = xs[k]?.getD 0)) : srt (xs.take (k + 1)) = ins x (srt (xs.take k)) := by
  have hx := hx.out
  rw [List.getElem?_eq_getElem h, Option.getD_some] at hx
  rw [List.take_add_one, List.getElem?_eq_getElem h, Option.toList_some, srt_snoc, hx]

set_option maxHeartbeats 2000000 in
set_option maxRecDepth 100000 in
theorem sorted_some (bx ox cx : Nat) (xs : List Int) (w : World) (hl : xs.length ≤ 17592186044416) (hbx : bx < w.heap.size) (hc : Cells w bx ox xs) :
    Calls Tryd.prog 90 #[.slice (some ⟨bx, ox, none⟩) xs.length cx] w fun e w' => ∃ v, e = .returned v ∧ Own w' w.heap.size v (srt xs) ∧ Below w.heap.size w w' := by
  obtain ⟨i0, hi, hz0, hz1, hz2⟩ := info_parts Tryd.infoInt
  go_enter Tryd.func90, Tryd.ntmps90
  go_wp2
  go_loopw [3, 4] (fun v i wr => ∃ k : Nat, k ≤ xs.length ∧ i = .int .i64 k ∧ Own wr w.heap.size v (srt (xs.take k)) ∧ Below w.heap.size w wr) (fun _ i _ => xs.length - (intOf i).toNat)
  case atStart => exact ⟨0, Nat.zero_le _, rfl, own_nil _ _, Below.refl _ _⟩
  case round =>
    obtain ⟨k, hk, rfl, hown, hbel⟩ := hrel
    by_cases hlt : k < xs.length
    · obtain ⟨x, HX, hcx0⟩ := hc.at hlt
      obtain ⟨wo, hwo⟩ : ∃ wo : World, wo = wr := ⟨_, rfl⟩
      subst hwo
      have hcx : wo.cell? ⟨bx, ox + k, none⟩ = some (.int .i64 x) := (hbel.cell (p := ⟨bx, ox + k, none⟩) hbx).trans hcx0
      have hcx00 := hcx0
      clear hcx0
      have hnext : Hid (srt (xs.take (k + 1)) = ins x (srt (xs.take k))) := srt_take hlt HX
      have hll : (srt (xs.take k)).length ≤ k := Nat.le_trans (srt_len _) (List.length_take_le _ _)
      generalize srt (xs.take k) = L at *
      obtain ⟨a, cap, rfl, hat, hlm⟩ := hown.at
      unfold maxLen at hlm
      go_wp2
      go_loopw [5] (fun i wr' => ∃ p q : Nat, p ≤ L.length ∧ i = .int .i64 p ∧ wr' = wo.drewN q ∧ Hid (∀ j, j < p → L[j]?.getD 0 < x)) (fun i _ => L.length - (intOf i).toNat)
      case atStart => exact ⟨0, 0, Nat.zero_le _, rfl, rfl, fun j hj => by omega⟩
      case round =>
        obtain ⟨p, q, hp, rfl, rfl, hlow⟩ := hrel
        by_cases hpl : p < L.length
        · rcases hat with h0 | ⟨b, off, rfl, hb, hca⟩
          · subst h0; simp at hpl
          · obtain ⟨y, HY, hcy⟩ := hca.at hpl
            by_cases c1 : y < x
            · have d : decide (y < x) = true := by simpa using c1
              go_wp2
              go_quiet (fail)
              go_wp2
              go_roundw
              case rel => exact ⟨p + 1, _, by omega, by go_num, rfl, fun j hj => by
                by_cases e : j = p
                · subst e; have := HY.out; omega
                · exact hlow.out j (by omega)⟩
              case measure => simp [intOf]; omega
            · have d : decide (y < x) = false := by simpa using c1
              go_wp2
              go_quiet (fail)
              go_wp2
              obtain ⟨Q, hQ⟩ : ∃ Q, (wo.drewN q).drewN nq = wo.drewN Q := ⟨_, World.drewN_drewN _ _ _⟩
              rw [hQ]
              clear hQ
              by_cases c2 : y = x
              · have HC : Hid (y = x) := c2
                have d2 : (y == x) = true := by simp [c2]
                clear c2
                have E2 : Hid (srt (xs.take (k + 1)) = L) := by show _ = _; rw [hnext.out]; exact ins_same hpl hlow.out (by rw [← HY.out]; exact HC.out)
                go_quiet (fail)
                go_wp2
                go_roundw
                case rel => exact ⟨k + 1, by omega, by go_num, by rw [E2.out]; exact hown.drewN _, below_drewN hbel _⟩
                case measure => simp [intOf]; omega
              · have d2 : (y == x) = false := by simp [c2]
                go_quiet (fail)
                obtain ⟨Q', hQ'⟩ : ∃ Q', (wo.drewN Q).drewN nq = wo.drewN Q' := ⟨_, World.drewN_drewN _ _ _⟩
                rw [hQ']
                clear hQ'
                have HE : Hid (p = L.length ∨ x < L[p]?.getD 0) := .inr (by have := HY.out; omega)
                obtain ⟨wq, hwq⟩ : ∃ wq : World, wq = wo.drewN Q' := ⟨_, rfl⟩
                have hown0 : Own wq w.heap.size (.slice (some ⟨b, off, none⟩) L.length cap) L := by rw [hwq]; exact hown.drewN Q'
                have hbelo : Below w.heap.size w wq := by rw [hwq]; exact below_drewN hbel _
                have hcxq : wq.cell? ⟨bx, ox + k, none⟩ = some (.int .i64 x) := by rw [hwq]; exact hcx
                rw [← hwq]
                clear hwq hown hbel hcx
                have hszo : w.heap.size ≤ wq.heap.size := hbelo.size
                have hbxq : bx < wq.heap.size := by omega
                go_wp2_with (at_builtin; refine wpList_append_own _ rfl _ _ 22 rfl w.heap.size 3 i0 (.int .i64 0) 1 8 Tryd.underlying22 hi hz0 hz1 hz2 rfl (by decide) _ _ _ rfl (World.ownsRow.alloc hown0 _) ⟨wq.heap.size, 0, none⟩ 1 1 [.int .i64 0] rfl rfl (cell_one_new _ _ _) (by intro u hu; simp at hu; subst hu; rfl) (by unfold maxLen; omega) (by omega) (by simp; omega) ?_)
                intro v' w1 hown' hgrow _
                obtain ⟨o1, o2, -⟩ := own_snoc hown0 hbelo hszo hown' hgrow
                clear hown' hgrow hown0 hcxq
                obtain ⟨g, cap', rfl⟩ := o1.shape (by simp)
                rw [List.length_append, List.length_singleton] at o1 ⊢
                rw [gap_end] at o1
                go_wp2
                go_loopw [6] (fun i wr' => ∃ (c : Nat) (z : Int), p ≤ c ∧ c ≤ L.length ∧ i = .int .i64 c ∧ Own wr' w.heap.size (.slice (some ⟨g, 0, none⟩) (L.length + 1) cap') (gap L c z) ∧ Below w.heap.size w wr') (fun i _ => (intOf i).toNat)
                case atStart => exact ⟨L.length, 0, hp, Nat.le_refl _, by go_num, o1, o2⟩
                case round =>
                  obtain ⟨c, z, hc1, hc2, rfl, ow, bw⟩ := hrel
                  clear o1 o2
                  by_cases hcp : p < c
                  · obtain ⟨e, rfl⟩ : ∃ e, c = e + 1 := ⟨c - 1, by omega⟩
                    have hgl := gap_len (y := z) hc2
                    obtain ⟨f1, f2, f3⟩ := ow.cellAt (j := e) (by omega)
                    obtain ⟨f4, f5, -⟩ := ow.cellAt (j := e + 1) (by omega)
                    rw [gap_at (by omega)] at f1
                    have ow' := ow.stored (e + 1) (L[e]?.getD 0)
                    rw [gap_move (by omega)] at ow'
                    have bw' := bw.setCell (p := ⟨g, e + 1, none⟩) f3 (.int .i64 (L[e]?.getD 0))
                    generalize L[e]?.getD 0 = u at *
                    generalize (gap L (e + 1) z)[e + 1]?.getD 0 = u' at *
                    clear ow
                    go_wp2
                    go_roundw
                    case rel => exact ⟨e, u, by omega, by omega, by go_num, ow', bw'⟩
                    case measure => simp [intOf]
                  · have hcp' : c = p := by omega
                    subst hcp'
                    have hgl := gap_len (y := z) hc2
                    obtain ⟨f1, f2, f3⟩ := ow.cellAt (j := c) (by omega)
                    have hcx2 : wr.cell? ⟨bx, ox + k, none⟩ = some (.int .i64 x) := (bw.cell (p := ⟨bx, ox + k, none⟩) hbx).trans hcx00
                    have ow' := ow.stored c x
                    rw [gap_set hc2, gap, ← ins_put hc2 hlow.out HE.out, ← hnext.out] at ow'
                    have bw' := bw.setCell (p := ⟨g, c, none⟩) f3 (.int .i64 x)
                    generalize (gap L c z)[c]?.getD 0 = u' at *
                    clear ow
                    go_wp2
                    go_roundw
                    case rel => exact ⟨k + 1, by omega, by go_num, ow', bw'⟩
                    case measure => simp [intOf]; omega
        · go_wp2
          go_quiet (fail)
          go_wp2
          obtain ⟨Q, hQ⟩ : ∃ Q, (wo.drewN q).drewN nq = wo.drewN Q := ⟨_, World.drewN_drewN _ _ _⟩
          rw [hQ]
          clear hQ
          go_quiet (fail)
          obtain ⟨Q', hQ'⟩ : ∃ Q', (wo.drewN Q).drewN nq = wo.drewN Q' := ⟨_, World.drewN_drewN _ _ _⟩
          rw [hQ']
          clear hQ'
          have HE : Hid (p = L.length ∨ x < L[p]?.getD 0) := .inl (by omega)
          obtain ⟨wq, hwq⟩ : ∃ wq : World, wq = wo.drewN Q' := ⟨_, rfl⟩
          have hown0 : Own wq w.heap.size (.slice a L.length cap) L := by rw [hwq]; exact hown.drewN Q'
          have hbelo : Below w.heap.size w wq := by rw [hwq]; exact below_drewN hbel _
          have hcxq : wq.cell? ⟨bx, ox + k, none⟩ = some (.int .i64 x) := by rw [hwq]; exact hcx
          rw [← hwq]
          clear hwq hown hbel hcx hat
          have hszo : w.heap.size ≤ wq.heap.size := hbelo.size
          have hbxq : bx < wq.heap.size := by omega
          go_wp2_with (at_builtin; refine wpList_append_own _ rfl _ _ 22 rfl w.heap.size 3 i0 (.int .i64 0) 1 8 Tryd.underlying22 hi hz0 hz1 hz2 rfl (by decide) _ _ _ rfl (World.ownsRow.alloc hown0 _) ⟨wq.heap.size, 0, none⟩ 1 1 [.int .i64 0] rfl rfl (cell_one_new _ _ _) (by intro u hu; simp at hu; subst hu; rfl) (by unfold maxLen; omega) (by omega) (by simp; omega) ?_)
          intro v' w1 hown' hgrow _
          obtain ⟨o1, o2, -⟩ := own_snoc hown0 hbelo hszo hown' hgrow
          clear hown' hgrow hown0 hcxq
          obtain ⟨g, cap', rfl⟩ := o1.shape (by simp)
          rw [List.length_append, List.length_singleton] at o1 ⊢
          rw [gap_end] at o1
          go_wp2
          go_loopw [6] (fun i wr' => ∃ (c : Nat) (z : Int), p ≤ c ∧ c ≤ L.length ∧ i = .int .i64 c ∧ Own wr' w.heap.size (.slice (some ⟨g, 0, none⟩) (L.length + 1) cap') (gap L c z) ∧ Below w.heap.size w wr') (fun i _ => (intOf i).toNat)
          case atStart => exact ⟨L.length, 0, hp, Nat.le_refl _, by go_num, o1, o2⟩
          case round =>
            obtain ⟨c, z, hc1, hc2, rfl, ow, bw⟩ := hrel
            clear o1 o2
            by_cases hcp : p < c
            · omega
            · have hcp' : c = p := by omega
              subst hcp'
              have hgl := gap_len (y := z) hc2
              obtain ⟨f1, f2, f3⟩ := ow.cellAt (j := c) (by omega)
              have hcx2 : wr.cell? ⟨bx, ox + k, none⟩ = some (.int .i64 x) := (bw.cell (p := ⟨bx, ox + k, none⟩) hbx).trans hcx00
              have ow' := ow.stored c x
              rw [gap_set hc2, gap, ← ins_put hc2 hlow.out HE.out, ← hnext.out] at ow'
              have bw' := bw.setCell (p := ⟨g, c, none⟩) f3 (.int .i64 x)
              generalize (gap L c z)[c]?.getD 0 = u' at *
              clear ow
              go_wp2
              go_roundw
              case rel => exact ⟨k + 1, by omega, by go_num, ow', bw'⟩
              case measure => simp [intOf]; omega
    · rw [List.take_of_length_le (by omega)] at hown
      go_wp2
      go_ret
      exact ⟨_, rfl, hown, hbel⟩

set_option maxHeartbeats 400000 in
theorem sorted_nil (a : Option Addr) (cx : Nat) (w : World) :
    Calls Tryd.prog 90 #[.slice a 0 cx] w fun e w' => e = .returned (.slice none 0 0) ∧ w' = w := by
  go_enter Tryd.func90, Tryd.ntmps90
  go_wp2
  refine wp_loop_rounds 1 ?_
  rw [rounds_succ]
  go_wp2
  go_ret
  exact ⟨rfl, rfl⟩

theorem sorted_any (a : Option Addr) (cx : Nat) (xs : List Int) (w : World) (hs : At w a xs) (hl : xs.length ≤ 17592186044416) :
    Calls Tryd.prog 90 #[.slice a xs.length cx] w fun e w' => Gives w (srt xs) e w' := by
  rcases hs with rfl | ⟨b, off, rfl, hb, hc⟩
  · refine (sorted_nil a cx w).mono ?_
    rintro e w' ⟨rfl, rfl⟩
    exact gives_of_own (B := w'.heap.size) (own_nil _ _) (Below.refl _ _)
  · refine (sorted_some b off cx xs w hl hb hc).mono ?_
    rintro e w' ⟨v, rfl, h1, h2⟩
    exact gives_of_own h1 h2

end Go.Proofs.YtgfpjfiikajadaaDoor
namespace Go.Proofs.YtgfpjfiikajadaaDoor
open Go.RowKit

theorem Own.low {w : World} {B B' : Nat} {v : Value} {xs : List Int} (h : Own w B v xs) (hB : B' ≤ B) : Own w B' v xs := by
  refine ⟨h.1, ?_⟩
  rcases h.2 with hn | ⟨g, cap, cur, e, hg, rest⟩
  · exact .inl hn
  · exact .inr ⟨g, cap, cur, e, Nat.le_trans hB hg, rest⟩
theorem GivesO.gives {w : World} {xs : List Int} {e : Ending} {w' : World} (h : GivesO w xs e w') : Gives w xs e w' := by
  obtain ⟨v, rfl, h1, h2⟩ := h
  exact gives_of_own h1 h2
theorem sorted_own (a : Option Addr) (cx : Nat) (xs : List Int) (w : World) (hs : At w a xs) (hl : xs.length ≤ 17592186044416) :
    Calls Tryd.prog 90 #[.slice a xs.length cx] w fun e w' => GivesO w (srt xs) e w' := by
  rcases hs with rfl | ⟨b, off, rfl, hb, hc⟩
  · refine (sorted_nil a cx w).mono ?_
    rintro e w' ⟨rfl, rfl⟩
    exact ⟨_, rfl, own_nil _ _, Below.refl _ _⟩
  · refine (sorted_some b off cx xs w hl hb hc).mono ?_
    rintro e w' ⟨v, rfl, h1, h2⟩
    exact ⟨v, rfl, h1, h2⟩

end Go.Proofs.YtgfpjfiikajadaaDoor
