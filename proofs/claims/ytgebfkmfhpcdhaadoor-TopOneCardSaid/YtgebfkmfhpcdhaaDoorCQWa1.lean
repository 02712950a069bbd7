/-
  What secret.still leaves; the walk of the closure that secret.watch answers.
-/
import Derived.Test.YtgebfkmfhpcdhaaDoorCQStl
import Derived.Test.YtgebfkmfhpcdhaaDoorG36
namespace Go.Proofs.YtgebfkmfhpcdhaaDoor
open Go.RowKit
set_option linter.unusedVariables false

theorem may_tos {m : Mach} (hm : mayB m = true) : ∀ a ∈ m.arrows, 0 ≤ a.t ∧ a.t < ((m.st.toNat : Nat) : Int) := fun a ha => by
  have := may_arrs hm a ha
  unfold arrIn at this
  omega
theorem oth_bd (ev : Nat) (l : List Int) : ∀ x ∈ othL ev l, 0 ≤ x ∧ x < (ev : Int) := fun x hx => ((mem_oth _ _ _).1 hx).1
/-- What unseen events come to, as still answers it. -/
theorem still_any (m s : Mach) (hm : mayB m = true) (hs : mayB s = true) (zm : m.st ≤ 6) (zs : s.st ≤ 4) (he : m.ev = s.ev) (seen : List Int) (l0 : List Pla) (hn : l0.Nodup) (hu : ∀ x ∈ l0, x ∈ allQ m s) (hb : BdQ s l0) (F0 : Nat → Nat) (hr : Rep F0 (l0.map encQ)) (ua : Option Addr) (uc : Nat) (pA pB : Nat) (LA LC : LB) (w : World) (hT : Tab w) (hL : WL w pA pB LA LC m.ev.toNat m.st.toNat s.st.toNat (tabS m.ev.toNat m.arrows) (tabS m.ev.toNat s.arrows)) (hat : At w ua (othL m.ev.toNat seen)) :
    Calls Tryd.prog 131 #[sval F0, .slice ua (othL m.ev.toNat seen).length uc, qleadV pA pB] w fun e W' => ∃ F, e = .returned (sval F) ∧ Rep F ((wideQ m s seen l0).map encQ) ∧ Below w.heap.size w W' := by
  have hz := mayB_size hm
  have hz' := mayB_size hs
  unfold sizeOk at hz hz'
  refine (still_go m s seen l0 F0 m.arrows s.arrows m.ev.toNat m.st.toNat s.st.toNat (othL m.ev.toNat seen) (by omega) (by omega) (by omega) (StQ.start hm hs zm zs hn hu hr) (fun S R h => StQ.next hm hs zm zs he hn hu h) (fun S R h hE => StQ.msr h m.ev.toNat m.arrows s.arrows hE) (fun S R h => StQ.rdy hm hs zm zs hn hu hb h) (may_tos hm) (may_tos hs) (oth_bd _ _) (Nat.le_trans (oth_len _ _) (by omega)) ua uc pA pB LA LC w hT hL hat).mono ?_
  rintro e W' ⟨F, R, rfl, h1, h2, h3⟩
  exact ⟨F, rfl, StQ.done hm hs zm zs hn hu h1 h2, h3⟩

/-- The closure that watch answers, and what it knows. -/
abbrev qwatV (p8 p9 : Nat) : Value := .func (.func 132) #[] #[.pointer (some ⟨p8, 0, none⟩), .pointer (some ⟨p9, 0, none⟩)]
structure WatQ (W : World) (p8 p9 pA pB : Nat) (LA LC : LB) (ua : Option Addr) (uc : Nat) (m s : Mach) (seen : List Int) : Prop where
  cl : Blk W p8 111 #[qleadV pA pB]
  cu : Blk W p9 22 #[.slice ua (othL m.ev.toNat seen).length uc]
  wl : WL W pA pB LA LC m.ev.toNat m.st.toNat s.st.toNat (tabS m.ev.toNat m.arrows) (tabS m.ev.toNat s.arrows)
  at_ : At W ua (othL m.ev.toNat seen)
theorem WatQ.kept {W W' : World} {p8 p9 pA pB : Nat} {LA LC : LB} {ua : Option Addr} {uc : Nat} {m s : Mach} {seen : List Int} (h : WatQ W p8 p9 pA pB LA LC ua uc m s seen) (hb : Below W.heap.size W W') : WatQ W' p8 p9 pA pB LA LC ua uc m s seen :=
  ⟨h.cl.below hb h.cl.lt, h.cu.below hb h.cu.lt, h.wl.kept hb, h.at_.below hb (Nat.le_refl _)⟩

set_option maxRecDepth 100000 in
set_option maxHeartbeats 8000000 in
theorem qwatch1_any (m s : Mach) (hm : mayB m = true) (hs : mayB s = true) (zm : m.st ≤ 6) (zs : s.st ≤ 4) (he : m.ev = s.ev) (seen : List Int) (S : Nat → Nat) (l : List Pla) (hl : ∀ x ∈ l, x ∈ allQ m s) (hr : Rep S (l.map encQ)) (hR0 : RdyQ m.st.toNat s.st.toNat S) (e : Nat) (hee0 : e < m.ev.toNat) (p8 p9 pA pB : Nat) (LA LC : LB) (ua : Option Addr) (uc : Nat) (w : World) (hT0 : Tab w) (hL0 : WatQ w p8 p9 pA pB LA LC ua uc m s seen) :
    Calls Tryd.prog 132 #[sval S, .int .i64 e, .pointer (some ⟨p8, 0, none⟩), .pointer (some ⟨p9, 0, none⟩)] w fun e' W' => ∃ F, e' = .returned (sval F) ∧ Rep F ((seeQ m s seen l (e : Int)).map encQ) ∧ Below w.heap.size w W' := by
  have hT := Hid.of hT0
  have hL := Hid.of hL0
  have hR := Hid.of hR0
  have hee := Hid.of hee0
  have hok := Hid.of hr.ok
  have HAA := Hid.of (may_tos hm)
  have HBA := Hid.of (may_tos hs)
  have hz := mayB_size hm
  have hz' := mayB_size hs
  unfold sizeOk at hz hz'
  have z8 : Hid (m.ev.toNat ≤ 8) := by show _ ≤ _; omega
  have z6 : Hid (m.st.toNat ≤ 6) := by show _ ≤ _; omega
  have z4 : Hid (s.st.toNat ≤ 4) := by show _ ≤ _; omega
  obtain ⟨Q, HQ⟩ : ∃ Q, Hid (Q = lqS m.ev.toNat m.arrows s.arrows S e) := ⟨_, rfl⟩
  have hRQ : Rep Q ((stepQ m s l (e : Int)).map encQ) := by
    have := rep_lq hm hs zm zs he (e := (e : Int)) (by omega) (by omega) hr hl
    rw [Int.toNat_natCast] at this
    rw [HQ.out]; exact this
  obtain ⟨us, HUS⟩ : ∃ us, Hid (us = (othL m.ev.toNat seen)) := ⟨_, rfl⟩
  have HST : Hid (∀ Y, Below w.heap.size w Y → Calls Tryd.prog 131 #[sval Q, .slice ua us.length uc, qleadV pA pB] Y fun e' W' => ∃ F, e' = .returned (sval F) ∧ Rep F ((seeQ m s seen l (e : Int)).map encQ) ∧ Below Y.heap.size Y W') := fun Y hb => by
    rw [HUS.out]
    exact still_any m s hm hs zm zs he seen (stepQ m s l (e : Int)) (stepQ_in hm hs zm zs _).1 (stepQ_in hm hs zm zs _).2 (bd_step hs _ _) Q hRQ ua uc pA pB LA LC Y (hT0.below hb hT0.lt) (hL0.wl.kept hb) (hL0.at_.below hb (Nat.le_refl _))
  have hcu : Hid (Blk w p9 22 #[.slice ua us.length uc]) := by show Blk _ _ _ _; rw [HUS.out]; exact hL0.cu
  clear hm hs zm zs he hl hr hR0 hee0 hT0 hL0 hz hz' hRQ
  have SA : Hid (∀ W, Below w.heap.size w W → SB W w.heap.size S → W.cell? ⟨w.heap.size, 0, none⟩ = some (.int .u64 (S 0)) ∧ W.cell? ⟨w.heap.size, 1, none⟩ = some (.int .u64 (S 1)) ∧ W.cell? ⟨w.heap.size, 2, none⟩ = some (.int .u64 (S 2)) ∧ W.cell? ⟨w.heap.size, 3, none⟩ = some (.int .u64 (S 3)) ∧ W.cell? ⟨p8, 0, none⟩ = some (qleadV pA pB) ∧ W.cell? ⟨p9, 0, none⟩ = some (.slice ua us.length uc)) := fun W hb hp => by
    obtain ⟨x0, x1, x2, x3⟩ := SB.cells hp
    exact ⟨x0, x1, x2, x3, (hL.out.cl.below hb hL.out.cl.lt).cell 0 rfl, (hcu.out.below hb hcu.out.lt).cell 0 rfl⟩
  have BF : Hid (Below w.heap.size w ((w.alloc (.cells (scells S) 79)).alloc (.cells #[.int .u64 0, .int .u64 0, .int .u64 0, .int .u64 0] 79))) := ((Below.refl _ _).alloc (Nat.le_refl _) _).alloc (by simp) _
  have KS : Hid (SB ((w.alloc (.cells (scells S) 79)).alloc (.cells #[.int .u64 0, .int .u64 0, .int .u64 0, .int .u64 0] 79)) w.heap.size S) := (Blk.new w _ _).alloc _
  have KR : Hid (SB ((w.alloc (.cells (scells S) 79)).alloc (.cells #[.int .u64 0, .int .u64 0, .int .u64 0, .int .u64 0] 79)) (w.heap.size + 1) zeroS) := by
    have := Blk.new (w.alloc (.cells (scells S) 79)) 79 #[.int .u64 0, .int .u64 0, .int .u64 0, .int .u64 0]
    rwa [World.size_alloc] at this
  go_enter Tryd.func132, Tryd.ntmps132
  go_wp2_with fail
  revert BF KS KR
  generalize ((w.alloc (.cells (scells S) 79)).alloc (.cells #[.int .u64 0, .int .u64 0, .int .u64 0, .int .u64 0] 79)) = V0
  intro BF KS KR
  refine wp_region_held_drew (S := fun w' => w'.cell? ⟨w.heap.size, 0, none⟩ = some (.int .u64 (S 0)) ∧ w'.cell? ⟨w.heap.size, 1, none⟩ = some (.int .u64 (S 1)) ∧ w'.cell? ⟨w.heap.size, 2, none⟩ = some (.int .u64 (S 2)) ∧ w'.cell? ⟨w.heap.size, 3, none⟩ = some (.int .u64 (S 3)) ∧ w'.cell? ⟨p8, 0, none⟩ = some (qleadV pA pB) ∧ w'.cell? ⟨p9, 0, none⟩ = some (.slice ua us.length uc)) (by kernel_rfl) (SA.out _ BF.out.drew (Blk.drew KS.out)) (fun hS => ?_)
  replace BF : Hid (Below w.heap.size w V0.drew) := BF.out.drew
  replace KS : Hid (SB V0.drew w.heap.size S) := Blk.drew KS.out
  replace KR : Hid (SB V0.drew (w.heap.size + 1) zeroS) := Blk.drew KR.out
  revert hS BF KS KR
  generalize V0.drew = Y0
  intro hS BF KS KR
  refine wpAnyH_take (i := 0) (v := qleadV pA pB) rfl (by kernel_rfl) (by kernel_rfl) (by kernel_rfl) (fun _ _ _ h => h) (Or.inl ⟨by kernel_rfl, fun w' hw' => by obtain ⟨q0, q1, q2, q3, q4, q5⟩ := hw'; go_simp⟩) hS ?_
  refine wpAnyH_take (i := 1) (v := sval S) rfl (by kernel_rfl) (by kernel_rfl) (by kernel_rfl) (fun _ _ _ h => h) (Or.inl ⟨by kernel_rfl, fun w' hw' => by obtain ⟨q0, q1, q2, q3, q4, q5⟩ := hw'; go_simp⟩) hS ?_
  refine wpAnyH_take (i := 2) (v := .int .i64 (e : Int)) rfl (by kernel_rfl) (by kernel_rfl) (by kernel_rfl) (fun _ _ _ h => h) (Or.inl ⟨by kernel_rfl, fun w' hw' => by obtain ⟨q0, q1, q2, q3, q4, q5⟩ := hw'; go_simp⟩) hS ?_
  refine wpAnyH_take (i := 4) (v := .slice ua us.length uc) rfl (by kernel_rfl) (by kernel_rfl) (by kernel_rfl) (fun _ _ _ h => h) (Or.inl ⟨by kernel_rfl, fun w' hw' => by obtain ⟨q0, q1, q2, q3, q4, q5⟩ := hw'; go_simp⟩) hS ?_
  refine wpAnyH_take (i := 5) (v := qleadV pA pB) rfl (by kernel_rfl) (by kernel_rfl) (by kernel_rfl) (fun _ _ _ h => h) (Or.inl ⟨by kernel_rfl, fun w' hw' => by obtain ⟨q0, q1, q2, q3, q4, q5⟩ := hw'; go_simp⟩) hS ?_
  simp only [Act.put, List.setIfInBounds_toArray]
  refine wpAnyH_ready (rs := [3]) (by kernel_rfl) (by simp) ?_
  refine AllReadyH.cons rfl (fun K' hK' => ?_) AllReadyH.nil
  clear hS
  go_simp
  refine (qlead_any m.arrows s.arrows S e m.ev.toNat m.st.toNat s.st.toNat hok.out hR.out hee.out z8.out z6.out z4.out HAA.out HBA.out pA pB LA LC Y0 (hT.out.below BF.out hT.out.lt) (hL.out.wl.kept BF.out)).mono ?_
  rintro e1 Y1 ⟨rfl, hb⟩
  rw [← HQ.out]
  replace BF := Hid.of (BF.out.trans (hb.mono BF.out.size))
  replace KS := Hid.of (KS.out.below hb KS.out.lt)
  replace KR := Hid.of (KR.out.below hb KR.out.lt)
  refine hK'.out _ _ (SA.out _ BF.out KS.out) (fun hS => ?_)
  clear hK' K' hb
  refine wpAnyH_ready (rs := [6]) (by kernel_rfl) (by simp) ?_
  refine AllReadyH.cons rfl (fun K' hK' => ?_) AllReadyH.nil
  clear hS
  go_simp
  refine (HST.out Y1 BF.out).mono ?_
  rintro e1 Y2 ⟨F, rfl, rf, hb⟩
  replace BF := Hid.of (BF.out.trans (hb.mono BF.out.size))
  replace KS := Hid.of (KS.out.below hb KS.out.lt)
  replace KR := Hid.of (KR.out.below hb KR.out.lt)
  have RF := Hid.of rf
  refine hK'.out _ _ (SA.out _ BF.out KS.out) (fun hS => ?_)
  clear hK' K' hb rf
  refine wpAnyH_ready (rs := [7]) (by kernel_rfl) (by simp) ?_
  refine AllReadyH.cons rfl (fun K' hK' => ?_) AllReadyH.nil
  clear hS
  have rz := KR.out.frozen
  obtain ⟨r0, r1, r2, r3⟩ := SB.cells KR.out
  go_simp
  have RR := Hid.of (SB.set4 KR.out F)
  have BB := Hid.of (below_set4 BF.out (b' := w.heap.size + 1) (by omega) (.int .u64 (F 0)) (.int .u64 (F 1)) (.int .u64 (F 2)) (.int .u64 (F 3)))
  have KK : Hid (SB _ w.heap.size S) := Blk.other4 KS.out (Nat.ne_of_lt (Nat.lt_succ_self w.heap.size)) (.int .u64 (F 0)) (.int .u64 (F 1)) (.int .u64 (F 2)) (.int .u64 (F 3))
  refine hK'.out _ _ (SA.out _ BB.out KK.out) (fun hS => ?_)
  clear hK' K' r0 r1 r2 r3 rz hS
  refine wpAnyH_done (by kernel_rfl) ?_ _
  obtain ⟨r0, r1, r2, r3⟩ := SB.cells RR.out
  go_wp2
  refine bodyPost_ret (v := sval F) ?_ rfl ⟨F, rfl, RF.out, BB.out⟩
  simp [results, go_sem, r0, r1, r2, r3]

end Go.Proofs.YtgebfkmfhpcdhaaDoor
