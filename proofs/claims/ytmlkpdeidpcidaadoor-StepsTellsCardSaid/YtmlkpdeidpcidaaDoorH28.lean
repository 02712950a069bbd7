/-
  The walk of current.May.
  The walks of current.IsSeen, of its closure, and of slices.ContainsFunc and slices.IndexFunc at it.
  The walks of current.watch and of its closure.
  What the searches of package current stand on.
  What is said of a slice of what is known (a row and a list each); the walk of jalousieref9.Has.
  The walks of jalousieref9.May, From, Estimate and Tells.
  The walks of jalousieref9.From and Estimate.
-/
import Derived.Test.YtmlkpdeidpcidaaDoorH27
import Derived.Test.YtmlkpdeidpcidaaDoorH11
import Derived.Test.YtmlkpdeidpcidaaDoorH09
import Derived.Deep.RegionHeld3
import Derived.Test.YtmlkpdeidpcidaaDoorH26
import Derived.Test.YtmlkpdeidpcidaaDoorH18
import Derived.Test.YtmlkpdeidpcidaaDoorH20
import Derived.Test.YtmlkpdeidpcidaaDoorH15
import Derived.Test.YtmlkpdeidpcidaaDoorH13
import Derived.Test.YtmlkpdeidpcidaaDoorH07
import Derived.Test.YtmlkpdeidpcidaaDoorDRefMay
namespace Go.Proofs.YtmlkpdeidpcidaaDoor
open Go.RowKit
set_option linter.unusedVariables false

set_option maxRecDepth 100000 in
set_option maxHeartbeats 4000000 in
theorem pCurMay_any (p : Plant) (P : PTL) (w : World) (h : PAt w p P) :
    Calls Tryd.prog 28 #[ptval p P] w fun e w' => e = .returned (.bool (mayP p)) ∧ Below w.heap.size w w' := by
  have B : Hid (Below w.heap.size w (w.alloc (.cells (ptcells p P) 44))) := (Below.refl _ _).alloc (Nat.le_refl _) _
  have KP : Hid (Blk (w.alloc (.cells (ptcells p P) 44)) w.heap.size 44 (ptcells p P)) := Blk.new w _ _
  have H := Hid.of h
  clear h
  go_enter Tryd.func28, Tryd.ntmps28
  obtain ⟨x0, x1, x2, x3, x4, x5, x6⟩ := ptcell_at KP.out
  go_wp2_with fail
  clear x0 x1 x2 x3 x4 x5 x6
  revert B KP
  generalize (w.alloc (.cells (ptcells p P) 44)) = V0
  intro B KP
  refine (pMay_any p.m P.l V0 (H.out.m.below B.out (Nat.le_refl _))).mono ?_
  rintro e W1 ⟨rfl, hb⟩
  replace B := Hid.of (B.out.trans (hb.mono B.out.size))
  replace KP := Hid.of (KP.out.below hb KP.out.lt)
  clear hb
  cases hm : mayB p.m with
  | false =>
    have HO : Hid (false = mayP p) := by show _ = _; unfold mayP; rw [hm]; rfl
    clear hm
    go_wp2_with fail
    go_ret
    exact ⟨ret_bool HO.out, B.out⟩
  | true =>
    have HM := Hid.of hm
    clear hm
    obtain ⟨x0, x1, x2, x3, x4, x5, x6⟩ := ptcell_at KP.out
    by_cases hs6 : p.m.st ≤ 6
    · have d1 : decide (p.m.st ≤ (6 : Int)) = true := by simpa using hs6
      have H6 := Hid.of hs6
      clear hs6
      go_wp2_with fail
      refine (rowIs_any P.sa P.sc p.seen p.m.ev W1 (H.out.s.at_.below B.out (Nat.le_refl _)) H.out.s.len).mono ?_
      rintro e W2 ⟨rfl, rfl⟩
      cases hr : rowB p.m.ev p.seen with
      | false =>
        have HO : Hid (false = mayP p) := by show _ = _; unfold mayP; rw [hr]; simp
        clear hr
        go_wp2_with fail
        go_ret
        exact ⟨ret_bool HO.out, B.out⟩
      | true =>
        have HO : Hid (rowB p.m.st p.secret = mayP p) := by show _ = _; unfold mayP; rw [HM.out, hr, decide_eq_true H6.out]; rfl
        clear hr
        go_wp2_with fail
        refine (rowIs_any P.ta P.tc p.secret p.m.st W2 (H.out.t.at_.below B.out (Nat.le_refl _)) H.out.t.len).mono ?_
        rintro e W3 ⟨rfl, rfl⟩
        go_wp2_with fail
        go_ret
        exact ⟨ret_bool HO.out, B.out⟩
    · have d1 : decide (p.m.st ≤ (6 : Int)) = false := by simpa using hs6
      have HO : Hid (false = mayP p) := by show _ = _; unfold mayP; rw [d1]; simp
      clear hs6
      go_wp2_with fail
      go_ret
      exact ⟨ret_bool HO.out, B.out⟩

end Go.Proofs.YtmlkpdeidpcidaaDoor
namespace Go.Proofs.YtmlkpdeidpcidaaDoor
open Go.RowKit
set_option linter.unusedVariables false

/-- Are all of a list seen? -/
def allIn (seen xs : List Int) : Bool := xs.all fun n => hasB seen n
theorem allIn_yes {seen xs : List Int} {k : Nat} {x : Int} (h : k < xs.length) (hx : Hid (x = xs[k]?.getD 0)) (he : Hid (allIn seen xs = allIn seen (xs.drop k))) (hy : hasB seen x = true) : Hid (allIn seen xs = allIn seen (xs.drop (k + 1))) := by
  show allIn seen xs = _
  rw [he.out, drop_cons h, ← hx.out]
  unfold allIn
  rw [List.all_cons, hy, Bool.true_and]
theorem allIn_no {seen xs : List Int} {k : Nat} {x : Int} (h : k < xs.length) (hx : Hid (x = xs[k]?.getD 0)) (he : Hid (allIn seen xs = allIn seen (xs.drop k))) (hy : hasB seen x = false) : allIn seen xs = false := by
  rw [he.out, drop_cons h, ← hx.out]
  unfold allIn
  rw [List.all_cons, hy, Bool.false_and]
theorem allIn_end {seen xs : List Int} {k : Nat} (h : ¬ k < xs.length) (he : Hid (allIn seen xs = allIn seen (xs.drop k))) : allIn seen xs = true := by
  rw [he.out, List.drop_eq_nil_of_le (by omega)]; rfl
theorem allIn_iff (seen xs : List Int) : allIn seen xs = true ↔ ∀ e ∈ xs, e ∈ seen := by
  unfold allIn
  rw [List.all_eq_true]
  exact ⟨fun h e he => (hasB_iff _ _).1 (h e he), fun h e he => (hasB_iff _ _).2 (h e he)⟩

set_option maxHeartbeats 400000 in
theorem isSeen1_any (sa : Option Addr) (sc : Nat) (seen : List Int) (n : Int) (pb : Nat) (w : World) (h5 : w.cell? ⟨pb, 5, none⟩ = some (.slice sa seen.length sc)) (hs : Hid (At w sa seen)) (hl : Hid (seen.length ≤ maxLen)) :
    Calls Tryd.prog 133 #[.int .i64 n, .pointer (some ⟨pb, 0, none⟩)] w fun e w' => e = .returned (.bool (!hasB seen n)) ∧ w' = w := by
  go_enter Tryd.func133, Tryd.ntmps133
  go_wp2_with (go_at_call 128; refine (rowHas_any sa sc seen n _ hs.out hl.out).mono ?_; rintro e w1 ⟨rfl, rfl⟩)
  go_ret
  exact ⟨rfl, rfl⟩

set_option maxHeartbeats 1000000 in
theorem cindexFunc_some (sa : Option Addr) (sc : Nat) (seen : List Int) (pb b off cap : Nat) (xs : List Int) (w : World) (hl : xs.length ≤ 9223372036854775807) (hc : Cells w b off xs) (h5 : Hid (w.cell? ⟨pb, 5, none⟩ = some (.slice sa seen.length sc))) (hs : Hid (At w sa seen)) (hsl : Hid (seen.length ≤ maxLen)) :
    Calls Tryd.prog 179 #[.slice (some ⟨b, off, none⟩) xs.length cap, .func (.func 133) #[] #[.pointer (some ⟨pb, 0, none⟩)]] w fun e w' => ∃ r : Int, e = .returned (.int .i64 r) ∧ decide (0 ≤ r) = !allIn seen xs ∧ w' = w := by
  go_enter Tryd.func179, Tryd.ntmps179
  go_wp2
  go_loop [8] (fun i => ∃ k : Nat, k ≤ xs.length ∧ i = .int .i64 k ∧ Hid (allIn seen xs = allIn seen (xs.drop k))) (fun i => xs.length - (intOf i).toNat)
  case atStart => exact ⟨0, Nat.zero_le _, rfl, rfl⟩
  case round =>
    obtain ⟨k, hk, rfl, he⟩ := hrel
    by_cases hlt : k < xs.length
    · obtain ⟨x, HX, hcx⟩ := hc.at hlt
      cases hi : hasB seen x with
      | true =>
        have HI := Hid.of hi
        go_wp2_with (go_at_call 133; refine (isSeen1_any sa sc seen x pb _ h5.out hs hsl).mono ?_; rintro e w1 ⟨rfl, rfl⟩)
        go_round
        case rel => exact ⟨k + 1, by omega, by go_num, allIn_yes hlt HX he HI.out⟩
        case measure => simp [intOf]; omega
      | false =>
        have HI := Hid.of hi
        go_wp2_with (go_at_call 133; refine (isSeen1_any sa sc seen x pb _ h5.out hs hsl).mono ?_; rintro e w1 ⟨rfl, rfl⟩)
        go_ret
        exact ⟨_, rfl, by rw [allIn_no hlt HX he HI.out]; simp, rfl⟩
    · go_wp2
      go_ret
      exact ⟨_, rfl, by rw [allIn_end hlt he]; simp, rfl⟩

set_option maxHeartbeats 400000 in
theorem cindexFunc_nil (seen : List Int) (a : Option Addr) (cap : Nat) (f : Value) (w : World) :
    Calls Tryd.prog 179 #[.slice a 0 cap, f] w fun e w' => ∃ r : Int, e = .returned (.int .i64 r) ∧ decide (0 ≤ r) = !allIn seen [] ∧ w' = w := by
  go_enter Tryd.func179, Tryd.ntmps179
  go_wp2
  refine wp_loop_rounds 1 ?_
  rw [rounds_succ]
  go_wp2
  go_ret
  exact ⟨_, rfl, rfl, rfl⟩

theorem cindexFunc_any (sa : Option Addr) (sc : Nat) (seen : List Int) (pb cap : Nat) (a : Option Addr) (xs : List Int) (w : World) (hx : At w a xs) (hl : xs.length ≤ maxLen) (h5 : Hid (w.cell? ⟨pb, 5, none⟩ = some (.slice sa seen.length sc))) (hs : Hid (At w sa seen)) (hsl : Hid (seen.length ≤ maxLen)) :
    Calls Tryd.prog 179 #[.slice a xs.length cap, .func (.func 133) #[] #[.pointer (some ⟨pb, 0, none⟩)]] w fun e w' => ∃ r : Int, e = .returned (.int .i64 r) ∧ decide (0 ≤ r) = !allIn seen xs ∧ w' = w := by
  rcases hx with rfl | ⟨b, off, rfl, hb, hc⟩
  · exact cindexFunc_nil seen a cap _ w
  · exact cindexFunc_some sa sc seen pb b off cap xs w hl hc h5 hs hsl

set_option maxHeartbeats 400000 in
theorem ccontainsFunc_any (sa : Option Addr) (sc : Nat) (seen : List Int) (pb cap : Nat) (a : Option Addr) (xs : List Int) (w : World) (hx : At w a xs) (hl : xs.length ≤ maxLen) (h5 : Hid (w.cell? ⟨pb, 5, none⟩ = some (.slice sa seen.length sc))) (hs : Hid (At w sa seen)) (hsl : Hid (seen.length ≤ maxLen)) :
    Calls Tryd.prog 132 #[.slice a xs.length cap, .func (.func 133) #[] #[.pointer (some ⟨pb, 0, none⟩)]] w fun e w' => e = .returned (.bool (!allIn seen xs)) ∧ w' = w := by
  have H := Hid.of (cindexFunc_any sa sc seen pb cap a xs w hx hl h5 hs hsl)
  clear h5 hs hsl hx hl
  go_enter Tryd.func132, Tryd.ntmps132
  go_wp2_with (go_at_call 179; refine H.out.mono ?_; rintro e w1 ⟨r, rfl, hr, rfl⟩; have HR := Hid.of hr; clear hr)
  go_ret
  exact ⟨ret_bool HR.out, rfl⟩

set_option maxRecDepth 100000 in
set_option maxHeartbeats 1000000 in
theorem cisSeen_any (p : Plant) (P : PTL) (a : Option Addr) (cap : Nat) (xs : List Int) (w : World) (hP : Hid (PAt w p P)) (hx : Hid (At w a xs)) (hl : Hid (xs.length ≤ maxLen)) :
    Calls Tryd.prog 77 #[ptval p P, .slice a xs.length cap] w fun e w' => e = .returned (.bool (allIn p.seen xs)) ∧ Below w.heap.size w w' := by
  have hmf : ∀ (fn : Fn) (first cap : Array Value) (w : World), (Instr.makeFunc fn first cap).run Tryd.prog w = .ok (.func fn first cap) w := fun _ _ _ _ => rfl
  have B : Hid (Below w.heap.size w (w.alloc (.cells (ptcells p P) 44))) := (Below.refl _ _).alloc (Nat.le_refl _) _
  have KP : Hid (Blk (w.alloc (.cells (ptcells p P) 44)) w.heap.size 44 (ptcells p P)) := Blk.new w _ _
  go_enter Tryd.func77, Tryd.ntmps77
  go_wp2_with fail
  revert B KP
  generalize (w.alloc (.cells (ptcells p P) 44)) = V0
  intro B KP
  refine (ccontainsFunc_any P.sa P.sc p.seen w.heap.size cap a xs V0 (hx.out.below B.out (Nat.le_refl _)) hl.out (Hid.of (ptcell_at KP.out).2.2.2.2.2.1) (Hid.of (hP.out.s.at_.below B.out (Nat.le_refl _))) (Hid.of hP.out.s.len)).mono ?_
  rintro e V1 ⟨rfl, rfl⟩
  go_wp2_with fail
  go_ret
  exact ⟨ret_bool (by simp), B.out⟩

end Go.Proofs.YtmlkpdeidpcidaaDoor
namespace Go.Proofs.YtmlkpdeidpcidaaDoor
open Go.RowKit
set_option linter.unusedVariables false

theorem idx_place (n : Int) : ∀ (xs : List Int) (k : Nat), (∃ j : Nat, placeN xs n = some j ∧ idxFrom n k xs = ((k + j : Nat) : Int)) ∨ (placeN xs n = none ∧ idxFrom n k xs = -1)
  | [], k => .inr ⟨rfl, rfl⟩
  | x :: r, k => by
    unfold placeN idxFrom
    by_cases h : n = x
    · subst h
      exact .inl ⟨0, by simp, by simp⟩
    · have h' : ¬ x = n := fun e => h e.symm
      rw [if_neg h]
      rcases idx_place n r (k + 1) with ⟨j, h1, h2⟩ | ⟨h1, h2⟩
      · exact .inl ⟨j + 1, by simp [h', h1], by rw [h2]; simp; omega⟩
      · exact .inr ⟨by simp [h', h1], h2⟩
theorem idx_of {n : Int} {xs : List Int} {j : Nat} (h : placeN xs n = some j) : idxFrom n 0 xs = (j : Int) := by
  rcases idx_place n xs 0 with ⟨i, h1, h2⟩ | ⟨h1, -⟩
  · rw [h] at h1
    have := Option.some.inj h1
    subst this
    rw [h2]; simp
  · rw [h] at h1; cases h1

abbrev zs4 : Array Value := #[.int .u64 0, .int .u64 0, .int .u64 0, .int .u64 0]
/-- The closure that tells where an estimate leads to, and what it knows. -/
abbrev cleadV (pl pp : Nat) : Value := .func (.func 130) #[] #[.pointer (some ⟨pl, 0, none⟩), .pointer (some ⟨pp, 0, none⟩)]
structure CL (W : World) (pl pp : Nat) (L : LB) (p : Plant) (P : PTL) : Prop where
  ca : Blk W pl 108 #[leadV L]
  cp : Blk W pp 44 (ptcells p P)
  pt : PAt W p P
  la : LD W L p.seen.length (p.m.st.toNat * p.seen.length) (tabS p.seen.length (hideM p.m p.seen).arrows)
theorem CL.kept {W W' : World} {pl pp : Nat} {L : LB} {p : Plant} {P : PTL} (h : CL W pl pp L p P) (hb : Below W.heap.size W W') : CL W' pl pp L p P :=
  ⟨h.ca.below hb h.ca.lt, h.cp.below hb h.cp.lt, h.pt.below hb (Nat.le_refl _), h.la.kept hb⟩

set_option maxRecDepth 100000 in
set_option maxHeartbeats 8000000 in
theorem cwatch1_any (p : Plant) (P : PTL) (S : Nat → Nat) (e : Int) (k : Nat) (hk : Hid (placeN p.seen e = some k)) (hk2 : k < p.seen.length) (h8 : p.seen.length ≤ 8) (h256 : p.m.st.toNat ≤ 256) (hS : Hid (okS S)) (hall : Hid (∀ n ∈ allS S, n < p.m.st.toNat)) (pl pp : Nat) (L : LB) (w : World) (hT : Hid (Tab w)) (hL : Hid (CL w pl pp L p P)) :
    Calls Tryd.prog 130 #[sval S, .int .i64 e, .pointer (some ⟨pl, 0, none⟩), .pointer (some ⟨pp, 0, none⟩)] w fun e' w' => e' = .returned (sval (leadS p.seen.length (hideM p.m p.seen).arrows S k)) ∧ Below w.heap.size w w' := by
  have B0 : Hid (Below w.heap.size w ((w.alloc (.cells (scells S) 85)).alloc (.cells zs4 85))) := ((Below.refl _ _).alloc (Nat.le_refl _) _).alloc (by simp) _
  have K0 : Hid (SB ((w.alloc (.cells (scells S) 85)).alloc (.cells zs4 85)) w.heap.size S) := (Blk.new w _ _).alloc _
  have R0 : Hid (SB ((w.alloc (.cells (scells S) 85)).alloc (.cells zs4 85)) (w.heap.size + 1) zeroS) := by
    have := Blk.new (w.alloc (.cells (scells S) 85)) 85 zs4
    rwa [World.size_alloc] at this
  go_enter Tryd.func130, Tryd.ntmps130
  go_wp2_with fail
  revert B0 K0 R0
  generalize (w.alloc (.cells (scells S) 85)).alloc (.cells zs4 85) = V0
  intro B0 K0 R0
  have cellsAt : Hid (∀ W, Below w.heap.size w W → SB W w.heap.size S → W.cell? ⟨w.heap.size, 0, none⟩ = some (.int .u64 (S 0)) ∧ W.cell? ⟨w.heap.size, 1, none⟩ = some (.int .u64 (S 1)) ∧ W.cell? ⟨w.heap.size, 2, none⟩ = some (.int .u64 (S 2)) ∧ W.cell? ⟨w.heap.size, 3, none⟩ = some (.int .u64 (S 3)) ∧ W.cell? ⟨pl, 0, none⟩ = some (leadV L) ∧ W.cell? ⟨pp, 5, none⟩ = some (.slice P.sa p.seen.length P.sc)) := fun W hb hp => by
    obtain ⟨x0, x1, x2, x3⟩ := SB.cells hp
    exact ⟨x0, x1, x2, x3, (hL.out.ca.below hb hL.out.ca.lt).cell 0 rfl, (hL.out.cp.below hb hL.out.cp.lt).cell 5 rfl⟩
  refine wp_region_held_drew (S := fun w' => w'.cell? ⟨w.heap.size, 0, none⟩ = some (.int .u64 (S 0)) ∧ w'.cell? ⟨w.heap.size, 1, none⟩ = some (.int .u64 (S 1)) ∧ w'.cell? ⟨w.heap.size, 2, none⟩ = some (.int .u64 (S 2)) ∧ w'.cell? ⟨w.heap.size, 3, none⟩ = some (.int .u64 (S 3)) ∧ w'.cell? ⟨pl, 0, none⟩ = some (leadV L) ∧ w'.cell? ⟨pp, 5, none⟩ = some (.slice P.sa p.seen.length P.sc)) (by kernel_rfl) (cellsAt.out _ B0.out.drew (Blk.drew K0.out)) (fun hS0 => ?_)
  have B1 : Hid (Below w.heap.size w V0.drew) := B0.out.drew
  have K1 : Hid (SB V0.drew w.heap.size S) := Blk.drew K0.out
  have R1 : Hid (SB V0.drew (w.heap.size + 1) zeroS) := Blk.drew R0.out
  clear B0 K0 R0
  revert B1 K1 R1 hS0
  generalize V0.drew = Y0
  intro hS0 B1 K1 R1
  refine wpAnyH_take (i := 0) (v := leadV L) rfl (by kernel_rfl) (by kernel_rfl) (by kernel_rfl) (fun _ _ _ h => h) (Or.inl ⟨by kernel_rfl, fun w' hw' => by obtain ⟨q0, q1, q2, q3, q4, q5⟩ := hw'; go_simp⟩) hS0 ?_
  refine wpAnyH_take (i := 1) (v := sval S) rfl (by kernel_rfl) (by kernel_rfl) (by kernel_rfl) (fun _ _ _ h => h) (Or.inl ⟨by kernel_rfl, fun w' hw' => by obtain ⟨q0, q1, q2, q3, q4, q5⟩ := hw'; go_simp⟩) hS0 ?_
  refine wpAnyH_take (i := 2) (v := .pointer (some ⟨pp, 5, none⟩)) rfl (by kernel_rfl) (by kernel_rfl) (by kernel_rfl) (fun _ _ _ h => h) (Or.inl ⟨by kernel_rfl, fun w' hw' => by obtain ⟨q0, q1, q2, q3, q4, q5⟩ := hw'; go_simp⟩) hS0 ?_
  refine wpAnyH_take (i := 3) (v := .slice P.sa p.seen.length P.sc) rfl (by kernel_rfl) (by kernel_rfl) (by kernel_rfl) (fun _ _ _ h => h) (Or.inl ⟨by kernel_rfl, fun w' hw' => by obtain ⟨q0, q1, q2, q3, q4, q5⟩ := hw'; go_simp⟩) hS0 ?_
  refine wpAnyH_take (i := 4) (v := .int .i64 e) rfl (by kernel_rfl) (by kernel_rfl) (by kernel_rfl) (fun _ _ _ h => h) (Or.inl ⟨by kernel_rfl, fun w' hw' => by obtain ⟨q0, q1, q2, q3, q4, q5⟩ := hw'; go_simp⟩) hS0 ?_
  simp only [Act.put, List.setIfInBounds_toArray]
  refine wpAnyH_ready (rs := [5]) (by kernel_rfl) (by simp) ?_
  refine AllReadyH.cons rfl (fun K' hK' => ?_) AllReadyH.nil
  go_simp
  refine (index_any P.sa P.sc p.seen e Y0 (hL.out.pt.s.at_.below B1.out (Nat.le_refl _)) hL.out.pt.s.len).mono ?_
  rintro e1 Y1 ⟨rfl, rfl⟩
  rw [idx_of hk.out]
  refine hK'.out _ _ (cellsAt.out _ B1.out K1.out) (fun hS1 => ?_)
  clear hK' K' hS0
  refine wpAnyH_ready (rs := [6]) (by kernel_rfl) (by simp) ?_
  refine AllReadyH.cons rfl (fun K' hK' => ?_) AllReadyH.nil
  go_simp
  refine (lead1_any p.m.st.toNat p.seen.length k L _ (okS_tab _ _) S hS.out hall.out hk2 h8 h256 _ (hT.out.below B1.out hT.out.lt) (hL.out.la.below B1.out hL.out.la.lt)).mono ?_
  rintro e1 Y2 ⟨rfl, hb1⟩
  have B3 := Hid.of (B1.out.trans (hb1.mono B1.out.size))
  have K3 := Hid.of (K1.out.below hb1 K1.out.lt)
  have R3 := Hid.of (R1.out.below hb1 R1.out.lt)
  refine hK'.out _ _ (cellsAt.out _ B3.out K3.out) (fun hS2 => ?_)
  clear hK' K' hb1 B1 K1 R1 hS1
  obtain ⟨Q, HQ⟩ : ∃ Q, Hid (Q = leadF (tabS p.seen.length (hideM p.m p.seen).arrows) p.seen.length k (allS S)) := ⟨_, rfl⟩
  rw [← HQ.out]
  have HR : Hid (leadS p.seen.length (hideM p.m p.seen).arrows S k = Q) := by show _ = _; unfold leadS; rw [HQ.out]
  refine wpAnyH_ready (rs := [7]) (by kernel_rfl) (by simp) ?_
  refine AllReadyH.cons rfl (fun K' hK' => ?_) AllReadyH.nil
  have rz := R3.out.frozen
  obtain ⟨r0, r1, r2, r3⟩ := SB.cells R3.out
  have RR := Hid.of (SB.set4 R3.out Q)
  have BB := Hid.of (below_set4 B3.out (b' := w.heap.size + 1) (by omega) (.int .u64 (Q 0)) (.int .u64 (Q 1)) (.int .u64 (Q 2)) (.int .u64 (Q 3)))
  have KK : Hid (SB _ w.heap.size S) := Blk.other4 K3.out (Nat.ne_of_lt (Nat.lt_succ_self w.heap.size)) (.int .u64 (Q 0)) (.int .u64 (Q 1)) (.int .u64 (Q 2)) (.int .u64 (Q 3))
  go_simp
  refine hK'.out _ _ (cellsAt.out _ BB.out KK.out) (fun hS3 => ?_)
  clear hK' K' r0 r1 r2 r3 rz hS2 hS3
  refine wpAnyH_done (by kernel_rfl) ?_ _
  obtain ⟨r0, r1, r2, r3⟩ := SB.cells RR.out
  go_wp2
  refine bodyPost_ret (v := sval Q) ?_ rfl ⟨by rw [HR.out], BB.out⟩
  simp [results, go_sem, r0, r1, r2, r3]

/-- What watch leaves, where the plant may be. -/
def WatchPost (w : World) (p : Plant) (P : PTL) (e : Ending) (w' : World) : Prop := ∃ pl pp L, e = .returned (.tuple #[sval (ofS (wideL p.m.arrows p.seen p.m.starts)), cleadV pl pp, .int .i64 0]) ∧ CL w' pl pp L p P ∧ Below w.heap.size w w'

theorem results_setTwo {fn : Func} {p u v : Tmp} (h : fn.results = #[.cell p 85, .tmp u, .tmp v]) (tmps : Array Value) (w : World) (g : Nat) (S : Nat → Nat) (x y : Value) (hp : tmps.getD p undef = .pointer (some ⟨g, 0, none⟩)) (hu : tmps.getD u undef = x) (hv : tmps.getD v undef = y) (hB : SB w g S) :
    (results fn tmps).run Tryd.prog w = .ok (.tuple #[sval S, x, y]) w := by
  obtain ⟨x0, x1, x2, x3⟩ := SB.cells hB
  have e : (results fn tmps).run Tryd.prog w = ((asAddr (tmps.getD p undef)).run Tryd.prog w).andThen fun a w₁ => ((loadVar 85 a).run Tryd.prog w₁).andThen fun r w₂ => .ok (.tuple #[r, tmps.getD u undef, tmps.getD v undef]) w₂ := by
    simp only [results, h]
    simp [Sem.run_bind, Result.andThen]
  rw [e, hp, hu, hv]
  go_simp

set_option maxRecDepth 100000 in
set_option maxHeartbeats 8000000 in
theorem cwatch_bad (p : Plant) (P : PTL) (w : World) (h : Hid (PAt w p P)) (hp : Hid (mayP p = false)) :
    Calls Tryd.prog 76 #[ptval p P] w fun e w' => e = .returned (.tuple #[sval zeroS, .nilFunc, .int .i64 2]) ∧ Below w.heap.size w w' := by
  have B : Hid (Below w.heap.size w ((w.alloc (.cells (ptcells p P) 44)).alloc (.cells zs4 85))) := ((Below.refl _ _).alloc (Nat.le_refl _) _).alloc (by simp) _
  have KP : Hid (Blk ((w.alloc (.cells (ptcells p P) 44)).alloc (.cells zs4 85)) w.heap.size 44 (ptcells p P)) := (Blk.new w _ _).alloc _
  have KR : Hid (SB ((w.alloc (.cells (ptcells p P) 44)).alloc (.cells zs4 85)) (w.heap.size + 1) zeroS) := by
    have := Blk.new (w.alloc (.cells (ptcells p P) 44)) 85 zs4
    rwa [World.size_alloc] at this
  go_enter Tryd.func76, Tryd.ntmps76
  obtain ⟨x0, x1, x2, x3, x4, x5, x6⟩ := ptcell_at KP.out
  go_wp2_with fail
  clear x0 x1 x2 x3 x4 x5 x6
  revert B KP KR
  generalize ((w.alloc (.cells (ptcells p P) 44)).alloc (.cells zs4 85)) = V0
  intro B KP KR
  refine (pCurMay_any p P V0 (h.out.below B.out (Nat.le_refl _))).mono ?_
  rintro e W1 ⟨rfl, hb⟩
  replace B := Hid.of (B.out.trans (hb.mono B.out.size))
  replace KP := Hid.of (KP.out.below hb KP.out.lt)
  replace KR := Hid.of (KR.out.below hb KR.out.lt)
  clear hb
  rw [hp.out]
  have rz := KR.out.frozen
  obtain ⟨r0, r1, r2, r3⟩ := SB.cells KR.out
  have RR := Hid.of (SB.set4 KR.out zeroS)
  have BB := Hid.of (below_set4 B.out (b' := w.heap.size + 1) (by omega) (.int .u64 (zeroS 0)) (.int .u64 (zeroS 1)) (.int .u64 (zeroS 2)) (.int .u64 (zeroS 3)))
  go_wp2_with fail
  exact bodyPost_ret (v := .tuple #[sval zeroS, .nilFunc, .int .i64 2]) (results_setTwo (p := 2) (u := 3) (v := 4) rfl _ _ (w.heap.size + 1) zeroS _ _ rfl rfl rfl RR.out) rfl ⟨rfl, BB.out⟩

set_option maxRecDepth 100000 in
set_option maxHeartbeats 8000000 in
theorem cwatch_ok (p : Plant) (P : PTL) (w : World) (h : Hid (PAt w p P)) (hT : Hid (Tab w)) (hp : Hid (mayP p = true)) :
    Calls Tryd.prog 76 #[ptval p P] w fun e w' => WatchPost w p P e w' := by
  have hmf : ∀ (fn : Fn) (first cap : Array Value) (w : World), (Instr.makeFunc fn first cap).run Tryd.prog w = .ok (.func fn first cap) w := fun _ _ _ _ => rfl
  obtain ⟨hm, z6, hr, -⟩ := (mayP_iff p).1 hp.out
  have hft := hide_small hm z6 hr
  have HMH := Hid.of (may_hide hm hr hft)
  have HMM := Hid.of hm
  have HRR := Hid.of hr
  have HFT := Hid.of hft
  have sbd : Hid (∀ x ∈ (hideM p.m p.seen).starts, 0 ≤ x ∧ x < 256) := fun x hx => by
    have := (may_starts HMH.out).2 x hx
    have e : (hideM p.m p.seen).st = p.m.st := rfl
    omega
  clear hm hr hft z6
  have B : Hid (Below w.heap.size w ((w.alloc (.cells (ptcells p P) 44)).alloc (.cells zs4 85))) := ((Below.refl _ _).alloc (Nat.le_refl _) _).alloc (by simp) _
  have KP : Hid (Blk ((w.alloc (.cells (ptcells p P) 44)).alloc (.cells zs4 85)) w.heap.size 44 (ptcells p P)) := (Blk.new w _ _).alloc _
  have KR : Hid (SB ((w.alloc (.cells (ptcells p P) 44)).alloc (.cells zs4 85)) (w.heap.size + 1) zeroS) := by
    have := Blk.new (w.alloc (.cells (ptcells p P) 44)) 85 zs4
    rwa [World.size_alloc] at this
  go_enter Tryd.func76, Tryd.ntmps76
  obtain ⟨x0, x1, x2, x3, x4, x5, x6⟩ := ptcell_at KP.out
  go_wp2_with fail
  clear x0 x1 x2 x3 x4 x5 x6
  revert B KP KR
  generalize ((w.alloc (.cells (ptcells p P) 44)).alloc (.cells zs4 85)) = V0
  intro B KP KR
  refine (pCurMay_any p P V0 (h.out.below B.out (Nat.le_refl _))).mono ?_
  rintro e W1 ⟨rfl, hb⟩
  replace B := Hid.of (B.out.trans (hb.mono B.out.size))
  replace KP := Hid.of (KP.out.below hb KP.out.lt)
  replace KR := Hid.of (KR.out.below hb KR.out.lt)
  clear hb
  rw [hp.out]
  obtain ⟨x0, x1, x2, x3, x4, x5, x6⟩ := ptcell_at KP.out
  go_wp2_with fail
  clear x0 x1 x2 x3 x4 x5 x6
  refine (hide_okp p.m P.l P.sa P.sc p.seen W1 (h.out.m.below B.out (Nat.le_refl _)) (h.out.s.at_.below B.out (Nat.le_refl _)) h.out.s.len (hT.out.below B.out hT.out.lt) HMM.out HRR.out HFT.out).mono ?_
  rintro e W2 ⟨Lh, rfl, mt, hb⟩
  replace B := Hid.of (B.out.trans (hb.mono B.out.size))
  replace KP := Hid.of (KP.out.below hb KP.out.lt)
  replace KR := Hid.of (KR.out.below hb KR.out.lt)
  clear hb
  obtain ⟨M, HM⟩ : ∃ M, Hid (M = hideM p.m p.seen) := ⟨_, rfl⟩
  rw [← HM.out] at mt HMH sbd
  rw [← HM.out]
  have hb : Below W2.heap.size W2 (W2.alloc (.cells (mcells M Lh) 25)) := (Below.refl _ _).alloc (Nat.le_refl _) _
  replace B := Hid.of (B.out.trans (hb.mono B.out.size))
  replace KP := Hid.of (KP.out.below hb KP.out.lt)
  replace KR := Hid.of (KR.out.below hb KR.out.lt)
  have MT := Hid.of (mt.below hb (Nat.le_refl _))
  have KM := Hid.of (Blk.new W2 25 (mcells M Lh))
  clear hb mt
  obtain ⟨x0, x1, x2, x3, x4⟩ := mcell_at KM.out
  go_wp2_with fail
  clear x0 x1 x2 x3 x4
  revert B KP KR MT KM
  show Hid (Below w.heap.size w (W2.alloc (.cells #[.int .i64 M.st, .int .i64 M.ev, .slice Lh.a1 M.starts.length Lh.c1, .slice Lh.a2 M.arrows.length Lh.c2, .slice Lh.a3 M.ends.length Lh.c3] 25))) → _
  generalize W2.alloc (.cells #[.int .i64 M.st, .int .i64 M.ev, .slice Lh.a1 M.starts.length Lh.c1, .slice Lh.a2 M.arrows.length Lh.c2, .slice Lh.a3 M.ends.length Lh.c3] 25) = W3
  generalize W2.heap.size = pm
  intro B KP KR MT KM
  refine (leader_any M Lh W3 HMH.out MT.out).mono ?_
  rintro e W4 ⟨L, rfl, ld, ll, hb⟩
  have LL : Hid (L.all (· ≠ w.heap.size + 1)) := ll.imp (fun n hn => by have := KR.out.lt; omega)
  replace B := Hid.of (B.out.trans (hb.mono B.out.size))
  replace KP := Hid.of (KP.out.below hb KP.out.lt)
  replace KR := Hid.of (KR.out.below hb KR.out.lt)
  replace KM := Hid.of (KM.out.below hb KM.out.lt)
  replace MT := Hid.of (MT.out.below hb (Nat.le_refl _))
  clear hb ll
  have hb : Below W4.heap.size W4 (W4.alloc (.cells #[leadV L] 108)) := (Below.refl _ _).alloc (Nat.le_refl _) _
  have P7 := Hid.of (show w.heap.size + 1 < W4.heap.size from KR.out.lt)
  replace B := Hid.of (B.out.trans (hb.mono B.out.size))
  replace KP := Hid.of (KP.out.below hb KP.out.lt)
  replace KR := Hid.of (KR.out.below hb KR.out.lt)
  replace KM := Hid.of (KM.out.below hb KM.out.lt)
  replace MT := Hid.of (MT.out.below hb (Nat.le_refl _))
  have LD1 := Hid.of (ld.kept hb)
  have KF := Hid.of (Blk.new W4 108 #[leadV L])
  clear hb ld
  obtain ⟨x0, x1, x2, x3, x4⟩ := mcell_at KM.out
  go_wp2_with fail
  clear x0 x1 x2 x3 x4
  revert P7 B KP KR KM MT LD1 KF
  generalize W4.alloc (.cells #[leadV L] 108) = W5
  generalize W4.heap.size = pf
  intro P7 B KP KR KM MT LD1 KF
  refine (of_any Lh.a1 Lh.c1 M.starts W5 MT.out.s (Nat.le_trans MT.out.s1 MT.out.s2) sbd.out).mono ?_
  rintro e W6 ⟨rfl, hb⟩
  replace B := Hid.of (B.out.trans (hb.mono B.out.size))
  replace KP := Hid.of (KP.out.below hb KP.out.lt)
  replace KR := Hid.of (KR.out.below hb KR.out.lt)
  replace LD1 := Hid.of (LD1.out.kept hb)
  replace KF := Hid.of (KF.out.below hb KF.out.lt)
  clear hb KM MT
  obtain ⟨Q, HQ⟩ : ∃ Q, Hid (Q = ofS M.starts) := ⟨_, rfl⟩
  rw [← HQ.out]
  have rz := KR.out.frozen
  obtain ⟨r0, r1, r2, r3⟩ := SB.cells KR.out
  have RR := Hid.of (SB.set4 KR.out Q)
  have BB := Hid.of (below_set4 B.out (b' := w.heap.size + 1) (by omega) (.int .u64 (Q 0)) (.int .u64 (Q 1)) (.int .u64 (Q 2)) (.int .u64 (Q 3)))
  have PP := Hid.of (Blk.other4 KP.out (Nat.ne_of_lt (Nat.lt_succ_self w.heap.size)) (.int .u64 (Q 0)) (.int .u64 (Q 1)) (.int .u64 (Q 2)) (.int .u64 (Q 3)))
  have FF := Hid.of (Blk.other4 KF.out (b' := w.heap.size + 1) (by have := P7.out; omega) (.int .u64 (Q 0)) (.int .u64 (Q 1)) (.int .u64 (Q 2)) (.int .u64 (Q 3)))
  have DD := Hid.of (LD.other4 LD1.out LL.out (.int .u64 (Q 0)) (.int .u64 (Q 1)) (.int .u64 (Q 2)) (.int .u64 (Q 3)))
  clear B KP KR LD1 KF
  go_wp2_with fail
  refine bodyPost_ret (v := .tuple #[sval Q, cleadV pf w.heap.size, .int .i64 0]) (results_setTwo (p := 2) (u := 3) (v := 4) rfl _ _ (w.heap.size + 1) Q _ _ rfl rfl rfl RR.out) rfl ⟨pf, w.heap.size, L, ?_, ⟨FF.out, PP.out, h.out.below BB.out (Nat.le_refl _), ?_⟩, BB.out⟩
  · rw [HQ.out, HM.out]; rfl
  · have := DD.out
    rw [HM.out] at this
    exact this

end Go.Proofs.YtmlkpdeidpcidaaDoor
namespace Go.Proofs.YtmlkpdeidpcidaaDoor
open Go.RowKit
set_option linter.unusedVariables false

theorem Tryd.infoPlaceC : (Tryd.prog.info? 115).map (fun i => (i.zero, i.size, i.bytes)) = some (some (.agg (pccells ⟨zeroS, .slice none 0 0, []⟩).toArray), 5, 56) := by kernel_rfl
theorem below_mapC {B : Nat} {w W : World} (h : Below B w W) {br : Nat} (hb : B ≤ br) (o : Obj) : Below B w (setMap W br o) :=
  h.trans ⟨rfl, rfl, rfl, by rw [size_setMap]; exact Nat.le_refl _, fun j hj => heap_setMap_ne _ _ _ (by omega)⟩
theorem blk_mapC {W : World} {b br : Nat} {t : TypeId} {cs : Array Value} (h : Blk W b t cs) (hn : b ≠ br) (o : Obj) : Blk (setMap W br o) b t cs := (heap_setMap_ne W br o hn).trans h
/-- An event that is seen stands at its own place. -/
theorem place_nth {seen : List Int} (hi : Inc seen) {e : Nat} (he : e < seen.length) : placeN seen (seen[e]?.getD 0) = some e := by
  rw [List.getElem?_eq_getElem he, Option.getD_some]
  obtain ⟨j, hj⟩ := placeN_mem (List.getElem_mem he)
  have h1 := placeN_some hj
  obtain ⟨hl, h2⟩ := List.getElem?_eq_some_iff.1 h1
  have : j = e := by
    rcases Nat.lt_trichotomy j e with h | h | h
    · have := List.pairwise_iff_getElem.1 hi j e hl he h; omega
    · exact h
    · have := List.pairwise_iff_getElem.1 hi e j he hl h; omega
  rw [hj, this]
/-- Where a set leads to is what is known next. -/
theorem rep_see {p : Plant} (hp : mayP p = true) {S : Nat → Nat} {s : List Int} (hr : RepI S s) (hc : ClU p s) {e : Nat} (he : e < p.seen.length) : RepI (leadS p.seen.length (hideM p.m p.seen).arrows S e) (seeD p s e) := by
  obtain ⟨hm, z6, hrr, -⟩ := (mayP_iff p).1 hp
  have hmh := may_hide hm hrr (hide_small hm z6 hrr)
  have e1 : (hideM p.m p.seen).st = p.m.st := rfl
  have r1 := rep_lead (st := (hideM p.m p.seen).st) (ev := (p.seen.length : Int)) (e := (e : Int)) hr.1 (may_arrs hmh) (by omega) (by omega) (by omega)
  have r2 : Rep (leadS p.seen.length (hideM p.m p.seen).arrows S e) (stepL (hideM p.m p.seen).arrows s (e : Int)) := by simpa only [Int.toNat_natCast] using r1
  rw [hide_see hm hc he] at r2
  exact ⟨r2, (see_in hm s _).1⟩
theorem all_lt {p : Plant} {S : Nat → Nat} {s : List Int} (hr : RepI S s) (hc : ClU p s) : ∀ n ∈ allS S, n < p.m.st.toNat := fun n hn => by
  obtain ⟨m1, m2⟩ := (mem_allS S n).1 hn
  have := hc.1 (n : Int) ((hr.1.mem n m1).1 m2)
  omega

theorem rep_start {p : Plant} (hp : mayP p = true) : RepI (ofS (wideL p.m.arrows p.seen p.m.starts)) (wideL p.m.arrows p.seen p.m.starts) := by
  obtain ⟨hm, z6, -, -⟩ := (mayP_iff p).1 hp
  have h1 := wide_in (p := p) hm (may_starts hm).2
  have := rep_of (l := wideL p.m.arrows p.seen p.m.starts) (fun x hx => by have := h1.2 x hx; omega) (wideL p.m.arrows p.seen p.m.starts).length
  rw [List.take_of_length_le (Nat.le_refl _)] at this
  exact ⟨this, h1.1⟩

end Go.Proofs.YtmlkpdeidpcidaaDoor
namespace Go.Proofs.YtmlkpdeidpcidaaDoor
open Go.RowKit
set_option linter.unusedVariables false

theorem Tryd.infoKnown : (Tryd.prog.info? 117).map (fun i => (i.zero, i.size, i.bytes)) = some (some (.agg #[.slice none 0 0, .slice none 0 0]), 2, 48) := by kernel_rfl

theorem cells_duo (W W' : World) (hW : W'.heap = W.heap) (t : TypeId) (x y : Value) : ∀ j u, ([x, y] : List Value)[j]? = some u → (W'.alloc (.cells #[x, y] t)).cell? ((⟨W.heap.size, 0, none⟩ : Addr).add j) = some u := by
  intro j u hu
  rw [addr0_add, Nat.zero_add, ← hW]
  exact (Blk.new W' t #[x, y]).cell j (by rw [← Array.getElem?_toList]; exact hu)
/-- What is known: a row, and a list that leads to it. -/
abbrev Kno := List Int × List Int
def kns : List Kno → List (List Int)
  | [] => []
  | p :: r => p.1 :: p.2 :: kns r
theorem kns_len : ∀ L : List Kno, (kns L).length = L.length * 2
  | [] => rfl
  | a :: r => by simp only [kns, List.length_cons, kns_len r]; omega
theorem kns_append : ∀ L M : List Kno, kns (L ++ M) = kns L ++ kns M
  | [], M => rfl
  | a :: r, M => by simp only [List.cons_append, kns, kns_append r M]
theorem kns_at : ∀ {L : List Kno} {k : Nat} {p : Kno}, L[k]? = some p → (kns L)[k * 2]? = some p.1 ∧ (kns L)[k * 2 + 1]? = some p.2
  | [], k, p, h => by simp at h
  | a :: r, 0, p, h => by
    have : a = p := by simpa using h
    subst this; simp [kns]
  | a :: r, k + 1, p, h => by
    have := kns_at (L := r) (k := k) (p := p) (by simpa using h)
    rw [show (k + 1) * 2 = k * 2 + 1 + 1 by omega]
    simpa [kns] using this
/-- Their cells. -/
def CellsK (w : World) (b off : Nat) (L : List Kno) : Prop := ∀ (k : Nat) (p : Kno), L[k]? = some p → ∃ xa xc za zc,
  w.cell? ⟨b, off + k * 2, none⟩ = some (.slice xa p.1.length xc) ∧ w.cell? ⟨b, off + k * 2 + 1, none⟩ = some (.slice za p.2.length zc) ∧
  At w xa p.1 ∧ p.1.length ≤ maxLen ∧ At w za p.2 ∧ p.2.length ≤ maxLen
theorem cellsK_below {w w' : World} {b off : Nat} {L : List Kno} (h : CellsK w b off L) (hb : Below w.heap.size w w') (hl : b < w.heap.size) : CellsK w' b off L := fun k x hx => by
  obtain ⟨xa, xc, za, zc, c1, c2, q1, q2, q3, q4⟩ := h k x hx
  exact ⟨xa, xc, za, zc, (hb.cell (p := ⟨b, off + k * 2, none⟩) hl).trans c1, (hb.cell (p := ⟨b, off + k * 2 + 1, none⟩) hl).trans c2, q1.below hb (Nat.le_refl _), q2, q3.below hb (Nat.le_refl _), q4⟩
theorem knownK_hit {L : List Kno} {k : Nat} {p : Kno} {x : List Int} (h : Hid (L[k]? = some p)) (h1 : Hid (sameB p.1 x = true)) : true = knownB L x := by
  have h1 : p.1 = x := by have := h1.out; simpa [sameB] using this
  exact ((knownB_iff _ _).2 ⟨p, List.mem_of_getElem? h.out, h1⟩).symm
/-- None of the first k is. -/
def noneK (L : List Kno) (k : Nat) (x : List Int) : Prop := ∀ (j : Nat) (p : Kno), j < k → L[j]? = some p → p.1 ≠ x
theorem noneK_succ {L : List Kno} {k : Nat} {p : Kno} {x : List Int} (h0 : Hid (noneK L k x)) (h : Hid (L[k]? = some p)) (h1 : Hid (sameB p.1 x = false)) : Hid (noneK L (k + 1) x) := fun j q hj hq => by
  by_cases e : j < k
  · exact h0.out j q e hq
  · have : j = k := by omega
    subst this
    rw [h.out] at hq
    have := Option.some.inj hq
    subst this
    intro e
    have := h1.out
    simp [sameB, e] at this
theorem noneK_end {L : List Kno} {k : Nat} {x : List Int} (h0 : Hid (noneK L k x)) (h : ¬ k < L.length) : false = knownB L x := by
  cases hk : knownB L x with
  | false => rfl
  | true =>
    obtain ⟨p, hp, e⟩ := (knownB_iff _ _).1 hk
    obtain ⟨i, hi⟩ := List.mem_iff_getElem?.1 hp
    exact absurd e (h0.out i p (Nat.lt_of_lt_of_le (List.getElem?_eq_some_iff.1 hi).1 (by omega)) hi)

set_option maxHeartbeats 2000000 in
theorem rhas_some (ba oa ca : Nat) (xa : Option Addr) (xc : Nat) (L : List Kno) (x : List Int) (w : World) (hl : L.length ≤ 9223372036854775807) (hca : Hid (CellsK w ba oa L)) (hx : Hid (At w xa x)) (hxl : Hid (x.length ≤ maxLen)) :
    Calls Tryd.prog 81 #[.slice (some ⟨ba, oa, none⟩) L.length ca, .slice xa x.length xc] w fun e w' => e = .returned (.bool (knownB L x)) ∧ ∃ q, w' = w.drewN q := by
  go_enter Tryd.func81, Tryd.ntmps81
  go_wp2
  go_loopw [5] (fun i wr => ∃ k q : Nat, k ≤ L.length ∧ i = .int .i64 k ∧ wr = w.drewN q ∧ Hid (noneK L k x)) (fun i _ => L.length - (intOf i).toNat)
  case atStart => exact ⟨0, 0, Nat.zero_le _, rfl, rfl, fun j p hj => by omega⟩
  case round =>
    obtain ⟨k, q, hk, rfl, rfl, he⟩ := hrel
    by_cases hlt : k < L.length
    · obtain ⟨p, HX⟩ : ∃ p, Hid (L[k]? = some p) := ⟨_, List.getElem?_eq_getElem hlt⟩
      obtain ⟨pa, pc, za, zc, c1, -, a1, l1, -, -⟩ := hca.out k p HX.out
      obtain ⟨V, HV⟩ : ∃ V, Hid (V = w.drewN q) := ⟨_, rfl⟩
      replace c1 : V.cell? ⟨ba, oa + k * 2, none⟩ = some (.slice pa p.1.length pc) := by rw [HV.out]; exact c1
      have KEY : Hid (Calls Tryd.prog 19 #[.slice pa p.1.length pc, .slice xa x.length xc] V fun e w' => e = .returned (.bool (sameB p.1 x)) ∧ ∃ r, w' = V.drewN r) := by
        rw [HV.out]; exact same_any pa xa pc xc p.1 x _ (At.drewN a1 q) (At.drewN hx.out q) l1 hxl.out
      rw [← HV.out]
      clear a1 l1
      go_wp2_with fail
      refine KEY.out.mono ?_
      rintro e V' ⟨rfl, r, rfl⟩
      have HVr : Hid (V.drewN r = w.drewN (q + r)) := by show _ = _; rw [HV.out, World.drewN_drewN]
      rw [HVr.out]
      clear KEY c1 HVr
      cases hxy : sameB p.1 x with
      | true =>
        have HXY := Hid.of hxy
        clear hxy
        go_wp2
        go_ret
        exact ⟨ret_bool (knownK_hit HX HXY), _, rfl⟩
      | false =>
        have HXZ := Hid.of hxy
        clear hxy
        go_wp2
        go_roundw
        case rel => exact ⟨k + 1, _, by omega, by go_num, rfl, noneK_succ he HX HXZ⟩
        case measure => simp [intOf]; omega
    · go_wp2
      go_ret
      exact ⟨ret_bool (noneK_end he hlt), q, rfl⟩

/-- A slice of what is known, of the call's own. -/
def OwnKn (n : Nat) (W : World) (B : Nat) (v : Value) (L : List Kno) : Prop := ∃ vs : List Value, W.ownsRow B 117 2 v L.length vs ∧ ∀ (j : Nat) (x : Value) (xs : List Int), vs[j]? = some x → (kns L)[j]? = some xs → InnW n W x xs
theorem OwnKn.cells {n : Nat} {W : World} {B : Nat} {v : Value} {L : List Kno} (h : OwnKn n W B v L) (hL : 0 < L.length) : ∃ g cap, v = .slice (some ⟨g, 0, none⟩) L.length cap ∧ B ≤ g ∧ g < W.heap.size ∧ L.length ≤ maxLen ∧
    ∀ (k : Nat) (p : Kno), L[k]? = some p → ∃ x z, W.cell? ⟨g, 0 + k * 2, none⟩ = some x ∧ W.cell? ⟨g, 0 + k * 2 + 1, none⟩ = some z ∧ InnW n W x p.1 ∧ InnW n W z p.2 := by
  obtain ⟨vs, ho, hi⟩ := h
  rcases ho.2 with ⟨rfl, hn⟩ | ⟨g, cap, cur, rfl, hg, hh, hnc, hcm, hcs, ht⟩
  · omega
  · refine ⟨g, cap, rfl, hg, (Array.getElem?_eq_some_iff.1 hh).1, Nat.le_trans hnc hcm, fun k p hp => ?_⟩
    have hk := (List.getElem?_eq_some_iff.1 hp).1
    have hl := ho.1
    obtain ⟨p1, p3⟩ := kns_at hp
    have hx := List.getElem?_eq_getElem (l := vs) (i := k * 2) (by omega)
    have hz := List.getElem?_eq_getElem (l := vs) (i := k * 2 + 1) (by omega)
    have c1 := ho.cells (g := g) rfl _ _ hx
    have c3 := ho.cells (g := g) rfl _ _ hz
    rw [addr0_add] at c1 c3
    exact ⟨_, _, c1, c3, hi _ _ _ hx p1, hi _ _ _ hz p3⟩
theorem OwnKn.cellsK {n : Nat} {W : World} {B : Nat} {v : Value} {L : List Kno} (h : OwnKn n W B v L) (hL : 0 < L.length) : ∃ g cap, v = .slice (some ⟨g, 0, none⟩) L.length cap ∧ B ≤ g ∧ g < W.heap.size ∧ L.length ≤ maxLen ∧ CellsK W g 0 L := by
  obtain ⟨g, cap, e, h1, h2, h3, hc⟩ := h.cells hL
  refine ⟨g, cap, e, h1, h2, h3, fun k p hp => ?_⟩
  obtain ⟨x, z, c1, c3, i1, i3⟩ := hc k p hp
  obtain ⟨xa, xc, rfl, x1, x2, -⟩ := i1.at
  obtain ⟨za, zc, rfl, z1, z2, -⟩ := i3.at
  exact ⟨xa, xc, za, zc, c1, c3, x1, x2, z1, z2⟩
theorem OwnKn.below {n : Nat} {W W' : World} {B : Nat} {v : Value} {L : List Kno} (h : OwnKn n W B v L) (hb : Below W.heap.size W W') (hn : n ≤ W.heap.size) : OwnKn n W' B v L := by
  obtain ⟨vs, ho, hi⟩ := h
  exact ⟨vs, own_same ho (fun k hk => hb.block k (World.ownsRow.lt ho k hk).2), fun j x xs a b => (hi j x xs a b).below hb hn⟩

/-- What Forward knows of the memory. -/
structure KF (w W : World) (p : Plant) (P : PTL) (v : Value) (L : List Kno) : Prop where
  bel : Below w.heap.size w W
  kp : Blk W w.heap.size 44 (ptcells p P)
  ow : OwnKn w.heap.size W (w.heap.size + 1) v L
  hB : w.heap.size + 1 ≤ W.heap.size
section
variable {w W : World} {p : Plant} {P : PTL} {v : Value} {L : List Kno}
theorem KF.below {W' : World} (h : KF w W p P v L) (hb : Below W.heap.size W W') : KF w W' p P v L :=
  ⟨h.bel.trans (hb.mono h.bel.size), h.kp.below hb h.kp.lt, h.ow.below hb h.bel.size, Nat.le_trans h.hB hb.size⟩
/-- One more. -/
theorem KF.push {W2 W3 : World} {v' x z : Value} {r : Kno} {vs : List Value} (h : KF w W p P v L) (hW3 : Below W.heap.size W W3) (ho : W3.ownsRow (w.heap.size + 1) 117 2 v L.length vs) (hi : ∀ (j : Nat) (x : Value) (xs : List Int), vs[j]? = some x → (kns L)[j]? = some xs → InnW w.heap.size W3 x xs) (hx : InnW w.heap.size W3 x r.1) (hz : InnW w.heap.size W3 z r.2) (o1 : W2.ownsRow (w.heap.size + 1) 117 2 v' (L.length + 1) (vs ++ [x, z])) (g : W3.grownBy W2 v.ownBlock) :
    KF w W2 p P v' (L ++ [r]) := by
  have h3 := h.below hW3
  have low : ∀ j, j < w.heap.size + 1 → W2.heap[j]? = W3.heap[j]? := fun j hj => g.block j (Nat.lt_of_lt_of_le hj h3.hB) (fun e => by have := (World.ownsRow.lt ho j e.symm).1; omega)
  have hty : ∀ (q : Nat) (cs : Array Value) (t : TypeId), t ≠ 117 → W3.heap[q]? = some (.cells cs t (0, 0)) → W2.heap[q]? = W3.heap[q]? := fun q cs t ht hq => g.block q (Array.getElem?_eq_some_iff.1 hq).1 (fun e => by
    obtain ⟨c2, h2⟩ := own_type ho e.symm
    rw [hq] at h2; cases h2; exact ht rfl)
  have kp : ∀ {y : Value} {ys : List Int}, InnW w.heap.size W3 y ys → InnW w.heap.size W2 y ys := fun hy => hy.kept g.size (fun j hj => low j (by omega)) (fun q cs hq => hty q cs _ (by decide) hq)
  refine ⟨h3.bel.grown g h3.bel.size (fun j hj => Nat.le_trans (by omega) (World.ownsRow.lt ho j hj).1), (low _ (by omega)).trans h3.kp, ?_, Nat.le_trans h3.hB g.size⟩
  have hl : vs.length = L.length * 2 := ho.1
  refine ⟨vs ++ [x, z], by rw [List.length_append]; exact o1, fun j u us e1 e2 => ?_⟩
  rw [kns_append] at e2
  have hl2 := kns_len L
  by_cases hj : j < L.length * 2
  · rw [List.getElem?_append_left (by omega)] at e1
    rw [List.getElem?_append_left (by omega)] at e2
    exact kp (hi j u us e1 e2)
  · rw [List.getElem?_append_right (by omega)] at e1 e2
    rw [hl] at e1
    rw [hl2] at e2
    generalize j - L.length * 2 = i at e1 e2
    have e2' : [r.1, r.2][i]? = some us := e2
    match i, e1, e2' with
    | 0, e1, e2 =>
      have q1 : x = u := by simpa using e1
      have q2 : r.1 = us := by simpa using e2
      rw [← q1, ← q2]; exact kp hx
    | 1, e1, e2 =>
      have q1 : z = u := by simpa using e1
      have q2 : r.2 = us := by simpa using e2
      rw [← q1, ← q2]; exact kp hz
    | i + 2, e1, e2 => simp at e1
end
/-- What Forward and Backward hand back. -/
def KnoPost (w : World) (L : List Kno) (e : Ending) (w' : World) : Prop := ∃ v, e = .returned v ∧ OwnKn w.heap.size w' (w.heap.size + 1) v L ∧ Below w.heap.size w w'

end Go.Proofs.YtmlkpdeidpcidaaDoor
namespace Go.Proofs.YtmlkpdeidpcidaaDoor
open Go.RowKit
set_option linter.unusedVariables false

theorem mayP_no1 {p : Plant} (h : mayB p.m = false) : mayP p = false := by unfold mayP; rw [h]; rfl
theorem mayP_no2 {p : Plant} (h : ¬ p.m.st ≤ 6) : mayP p = false := by unfold mayP; rw [decide_eq_false h]; simp
theorem mayP_no3 {p : Plant} (h : rowB p.m.ev p.seen = false) : mayP p = false := by unfold mayP; rw [h]; simp
theorem mayP_last {p : Plant} (h1 : mayB p.m = true) (h2 : p.m.st ≤ 6) (h3 : rowB p.m.ev p.seen = true) : mayP p = rowB p.m.st p.secret := by unfold mayP; rw [h1, h3, decide_eq_true h2]; simp

set_option maxRecDepth 100000 in
set_option maxHeartbeats 4000000 in
theorem rMayP_any (p : Plant) (P : PTL) (w : World) (h : Hid (PAt w p P)) :
    Calls Tryd.prog 31 #[ptval p P] w fun e w' => e = .returned (.bool (mayP p)) ∧ Below w.heap.size w w' := by
  have b0 : Below w.heap.size w ((w.alloc (.cells (ptcells p P) 44)).alloc (.cells (mcells p.m P.l) 25)) := ((Below.refl _ _).alloc (Nat.le_refl _) _).alloc (by simp) _
  have B := Hid.of b0
  have KP : Hid (Blk ((w.alloc (.cells (ptcells p P) 44)).alloc (.cells (mcells p.m P.l) 25)) w.heap.size 44 (ptcells p P)) := (Blk.new w _ _).alloc _
  have KM : Hid (Blk ((w.alloc (.cells (ptcells p P) 44)).alloc (.cells (mcells p.m P.l) 25)) (w.heap.size + 1) 25 (mcells p.m P.l)) := by
    have := Blk.new (w.alloc (.cells (ptcells p P) 44)) 25 (mcells p.m P.l)
    rwa [World.size_alloc] at this
  clear b0
  go_enter Tryd.func31, Tryd.ntmps31
  go_wp2_with fail
  revert B KP KM
  show Hid (Below w.heap.size w ((w.alloc (.cells #[.int .i64 p.m.st, .int .i64 p.m.ev, .slice P.l.a1 p.m.starts.length P.l.c1, .slice P.l.a2 p.m.arrows.length P.l.c2, .slice P.l.a3 p.m.ends.length P.l.c3, .slice P.sa p.seen.length P.sc, .slice P.ta p.secret.length P.tc] 44)).alloc (.cells #[.int .i64 p.m.st, .int .i64 p.m.ev, .slice P.l.a1 p.m.starts.length P.l.c1, .slice P.l.a2 p.m.arrows.length P.l.c2, .slice P.l.a3 p.m.ends.length P.l.c3] 25))) → _
  generalize (w.alloc (.cells #[.int .i64 p.m.st, .int .i64 p.m.ev, .slice P.l.a1 p.m.starts.length P.l.c1, .slice P.l.a2 p.m.arrows.length P.l.c2, .slice P.l.a3 p.m.ends.length P.l.c3, .slice P.sa p.seen.length P.sc, .slice P.ta p.secret.length P.tc] 44)).alloc (.cells #[.int .i64 p.m.st, .int .i64 p.m.ev, .slice P.l.a1 p.m.starts.length P.l.c1, .slice P.l.a2 p.m.arrows.length P.l.c2, .slice P.l.a3 p.m.ends.length P.l.c3] 25) = V0
  intro B KP KM
  refine (refMay_any p.m P.l V0 (h.out.m.below B.out (Nat.le_refl _))).mono ?_
  rintro e W1 ⟨rfl, hb⟩
  replace B := Hid.of (B.out.trans (hb.mono B.out.size))
  replace KP := Hid.of (KP.out.below hb KP.out.lt)
  replace KM := Hid.of (KM.out.below hb KM.out.lt)
  clear hb
  cases h1 : mayB p.m with
  | false =>
    have HF := Hid.of (mayP_no1 h1)
    clear h1
    go_wp2_with fail
    go_ret
    exact ⟨ret_bool HF.out.symm, B.out⟩
  | true =>
    have H1 := Hid.of h1
    clear h1
    by_cases h2 : p.m.st ≤ 6
    · have d2 : decide (p.m.st ≤ 6) = true := by simpa using h2
      obtain ⟨y0, y1, y2, y3, y4⟩ := mcell_at KM.out
      obtain ⟨x0, x1, x2, x3, x4, x5, x6⟩ := ptcell_at KP.out
      go_wp2_with fail
      refine (refIs_any P.sa P.sc p.seen p.m.ev W1 (h.out.s.at_.below B.out (Nat.le_refl _)) h.out.s.len).mono ?_
      rintro e W2 ⟨rfl, q, hq⟩
      have hb : Below W1.heap.size W1 W2 := by rw [hq]; exact below_drewN (Below.refl _ _) q
      replace B := Hid.of (B.out.trans (hb.mono B.out.size))
      replace KP := Hid.of (KP.out.below hb KP.out.lt)
      replace KM := Hid.of (KM.out.below hb KM.out.lt)
      clear hb hq y0 y1 y2 y3 y4 x0 x1 x2 x3 x4 x5 x6
      cases h3 : rowB p.m.ev p.seen with
      | false =>
        have HF := Hid.of (mayP_no3 h3)
        clear h3
        go_wp2_with fail
        go_ret
        exact ⟨ret_bool HF.out.symm, B.out⟩
      | true =>
        have HF := Hid.of (mayP_last H1.out h2 h3)
        clear h3
        obtain ⟨y0, y1, y2, y3, y4⟩ := mcell_at KM.out
        obtain ⟨x0, x1, x2, x3, x4, x5, x6⟩ := ptcell_at KP.out
        go_wp2_with fail
        refine (refIs_any P.ta P.tc p.secret p.m.st W2 (h.out.t.at_.below B.out (Nat.le_refl _)) h.out.t.len).mono ?_
        rintro e W3 ⟨rfl, q, hq⟩
        have hb : Below W2.heap.size W2 W3 := by rw [hq]; exact below_drewN (Below.refl _ _) q
        replace B := Hid.of (B.out.trans (hb.mono B.out.size))
        clear hb hq y0 y1 y2 y3 y4 x0 x1 x2 x3 x4 x5 x6
        obtain ⟨bb, HB⟩ : ∃ bb, Hid (bb = rowB p.m.st p.secret) := ⟨_, rfl⟩
        rw [← HB.out] at HF ⊢
        go_wp2_with fail
        go_ret
        exact ⟨ret_bool HF.out.symm, B.out⟩
    · have d2 : decide (p.m.st ≤ 6) = false := by simpa using h2
      have HF := Hid.of (mayP_no2 h2)
      obtain ⟨y0, y1, y2, y3, y4⟩ := mcell_at KM.out
      go_wp2_with fail
      go_ret
      exact ⟨ret_bool HF.out.symm, B.out⟩

set_option maxRecDepth 100000 in
set_option maxHeartbeats 2000000 in
theorem rTells_any (a b : Option Addr) (ca cb : Nat) (row secret : List Int) (w : World) (h : At w a row) (hl : row.length ≤ 17592186044416) (h' : At w b secret) (hl' : secret.length ≤ maxLen) :
    Calls Tryd.prog 92 #[.slice a row.length ca, .slice b secret.length cb] w fun e w' => e = .returned (.bool (leakB secret row)) ∧ Below w.heap.size w w' := by
  have KEY := Hid.of (only_any a b ca cb row secret false w h hl h' hl')
  obtain ⟨op, HO⟩ : ∃ op, Hid (op = row.filter fun n => hasB secret n == false) := ⟨_, rfl⟩
  rw [← HO.out] at KEY
  have HLK : Hid (leakB secret row = (decide (0 < row.length) && decide (op.length = 0))) := by show _ = _; unfold leakB; rw [HO.out]
  clear h h' HO
  go_enter Tryd.func92, Tryd.ntmps92
  go_wp2_with fail
  refine KEY.out.mono ?_
  rintro e W1 ⟨va, vc, rfl, -, -, hb⟩
  have B := Hid.of hb
  clear hb
  by_cases h0 : 0 < row.length
  · have d0 : decide ((0 : Int) < (row.length : Int)) = true := decide_eq_true (by omega)
    by_cases h1 : op.length = 0
    · have d1 : ((op.length : Int) == 0) = true := by rw [h1]; rfl
      have HF : Hid (leakB secret row = true) := by show _ = _; rw [HLK.out, decide_eq_true h0, decide_eq_true h1]; rfl
      go_wp2_with fail
      all_goals
        go_ret
        exact ⟨ret_bool HF.out.symm, B.out⟩
    · have d1 : ((op.length : Int) == 0) = false := by rw [beq_eq_false_iff_ne]; omega
      have HF : Hid (leakB secret row = false) := by show _ = _; rw [HLK.out, decide_eq_false h1, Bool.and_false]
      go_wp2_with fail
      all_goals
        go_ret
        exact ⟨ret_bool HF.out.symm, B.out⟩
  · have d0 : decide ((0 : Int) < (row.length : Int)) = false := decide_eq_false (by omega)
    have HF : Hid (leakB secret row = false) := by show _ = _; rw [HLK.out, decide_eq_false h0, Bool.false_and]
    go_wp2_with fail
    all_goals
      go_ret
      exact ⟨ret_bool HF.out.symm, B.out⟩

end Go.Proofs.YtmlkpdeidpcidaaDoor
namespace Go.Proofs.YtmlkpdeidpcidaaDoor
open Go.RowKit
set_option linter.unusedVariables false

theorem fold_take {σ : Type} (f : σ → Int → σ) (s : σ) {word : List Int} {k : Nat} {x : Int} (h : k < word.length) (hx : Hid (x = word[k]?.getD 0)) : (word.take (k + 1)).foldl f s = f ((word.take k).foldl f s) x := by
  rw [List.take_add_one, List.getElem?_eq_getElem h, Option.toList_some, List.foldl_append, hx.out, List.getElem?_eq_getElem h]; rfl

set_option maxRecDepth 100000 in
set_option maxHeartbeats 8000000 in
theorem rfrom_go (st ev : Int) (starts : List Int) (ars : List Arr) (ends seen secret : List Int) (a1 : Option Addr) (c1 : Nat) (a2 : Option Addr) (c2 : Nat) (a3 : Option Addr) (c3 : Nat) (sa : Option Addr) (sc : Nat) (ta : Option Addr) (tc : Nat) (xa wa : Option Addr) (xc wc : Nat) (ss word : List Int) (w : World) (h : Hid (PAt w ⟨⟨st, ev, starts, ars, ends⟩, seen, secret⟩ ⟨⟨a1, c1, a2, c2, a3, c3⟩, sa, sc, ta, tc⟩)) (hm : Hid (mayB ⟨st, ev, starts, ars, ends⟩ = true)) (hs : Hid (At w xa ss)) (hsl : Hid (ss.length ≤ 4096)) (hsn : Hid (xa = none → xc = 0)) (hw : Hid (At w wa word)) (hwl : word.length ≤ 9223372036854775807) :
    Calls Tryd.prog 80 #[ptval ⟨⟨st, ev, starts, ars, ends⟩, seen, secret⟩ ⟨⟨a1, c1, a2, c2, a3, c3⟩, sa, sc, ta, tc⟩, .slice xa ss.length xc, .slice wa word.length wc] w fun e w' => GivesO w (fromL ⟨⟨st, ev, starts, ars, ends⟩, seen, secret⟩ ss word) e w' := by
  have hz := mayB_size hm.out
  unfold sizeOk at hz
  dsimp only at hz
  have hlen : Hid (ars.length ≤ 4096) := show _ ≤ _ by omega
  clear hz
  have hto : Hid (∀ a ∈ ars, 0 ≤ a.t ∧ a.t < (256 : Nat)) := may_to hm.out
  have B : Hid (Below w.heap.size w (w.alloc (.cells (ptcells ⟨⟨st, ev, starts, ars, ends⟩, seen, secret⟩ ⟨⟨a1, c1, a2, c2, a3, c3⟩, sa, sc, ta, tc⟩) 44))) := (Below.refl _ _).alloc (Nat.le_refl _) _
  have K : Hid (Blk (w.alloc (.cells (ptcells ⟨⟨st, ev, starts, ars, ends⟩, seen, secret⟩ ⟨⟨a1, c1, a2, c2, a3, c3⟩, sa, sc, ta, tc⟩) 44)) w.heap.size 44 (ptcells ⟨⟨st, ev, starts, ars, ends⟩, seen, secret⟩ ⟨⟨a1, c1, a2, c2, a3, c3⟩, sa, sc, ta, tc⟩)) := Blk.new w _ _
  go_enter Tryd.func80, Tryd.ntmps80
  go_wp2_with fail
  revert B K
  show Hid (Below w.heap.size w (w.alloc (.cells #[.int .i64 st, .int .i64 ev, .slice a1 starts.length c1, .slice a2 ars.length c2, .slice a3 ends.length c3, .slice sa seen.length sc, .slice ta secret.length tc] 44))) → _
  generalize w.alloc (.cells #[.int .i64 st, .int .i64 ev, .slice a1 starts.length c1, .slice a2 ars.length c2, .slice a3 ends.length c3, .slice sa seen.length sc, .slice ta secret.length tc] 44) = V0
  intro B K
  refine (refWide_any ⟨st, ev, starts, ars, ends⟩ ⟨a1, c1, a2, c2, a3, c3⟩ xa sa xc sc ss seen V0 (h.out.m.a.below B.out (Nat.le_refl _)) hlen.out hto.out (hs.out.below B.out (Nat.le_refl _)) hsl.out hsn.out (h.out.s.at_.below B.out (Nat.le_refl _)) h.out.s.len).mono ?_
  rintro e W1 ⟨v, rfl, ov, hb⟩
  have OV : Hid (Own W1 w.heap.size v (wideL ars seen ss)) := Own.low ov B.out.size
  replace B := Hid.of (B.out.trans (hb.mono B.out.size))
  replace K := Hid.of (K.out.below hb K.out.lt)
  clear hb ov
  go_wp2_with fail
  go_loopw [7, 8] (fun v7 i wr => ∃ k : Nat, i = .int .i64 k ∧ k ≤ word.length ∧ Hid (Own wr w.heap.size v7 ((word.take k).foldl (seeL ⟨⟨st, ev, starts, ars, ends⟩, seen, secret⟩) (wideL ars seen ss))) ∧ Hid (Below w.heap.size w wr) ∧ Hid (Blk wr w.heap.size 44 (ptcells ⟨⟨st, ev, starts, ars, ends⟩, seen, secret⟩ ⟨⟨a1, c1, a2, c2, a3, c3⟩, sa, sc, ta, tc⟩))) (fun _ i _ => word.length - (intOf i).toNat)
  case atStart => exact ⟨0, rfl, Nat.zero_le _, OV, B, K⟩
  case round =>
    clear OV B K
    obtain ⟨k, rfl, hk, OV, B, K⟩ := hrel
    by_cases hlt : k < word.length
    · rcases hw.out with hw0 | ⟨wb, wo, rfl, hwb, hwc⟩
      · rw [hw0] at hlt; simp at hlt
      obtain ⟨x, HX⟩ : ∃ x, Hid (x = word[k]?.getD 0) := ⟨_, rfl⟩
      have cw : wr.cell? ⟨wb, wo + k, none⟩ = some (.int .i64 x) := by
        rw [HX.out, ← List.getD_eq_getElem?_getD]
        exact (B.out.cell (p := ⟨wb, wo + k, none⟩) hwb).trans (hwc k hlt)
      have HWB := Hid.of hwb
      obtain ⟨x0, x1, x2, x3, x4, x5, x6⟩ := ptcell_at K.out
      dsimp only at x0 x1 x2 x3 x4 x5 x6
      obtain ⟨va, vc, hva, vat, vl1, vl2, -⟩ := Own.at2 OV.out
      have hvl : Hid (((word.take k).foldl (seeL ⟨⟨st, ev, starts, ars, ends⟩, seen, secret⟩) (wideL ars seen ss)).length ≤ maxLen) := Nat.le_trans vl1 vl2
      have HV := Hid.of vat
      have HNX : Hid ((word.take (k + 1)).foldl (seeL ⟨⟨st, ev, starts, ars, ends⟩, seen, secret⟩) (wideL ars seen ss) = seeL ⟨⟨st, ev, starts, ars, ends⟩, seen, secret⟩ ((word.take k).foldl (seeL ⟨⟨st, ev, starts, ars, ends⟩, seen, secret⟩) (wideL ars seen ss)) x) := fold_take _ _ hlt HX
      subst hva
      clear vat vl1 vl2 hwc hwb
      revert HNX HV hvl OV
      generalize (word.take k).foldl (seeL ⟨⟨st, ev, starts, ars, ends⟩, seen, secret⟩) (wideL ars seen ss) = cur
      intro hvl HV HNX OV
      go_wp2_with fail
      refine wp_region_held_drew (S := fun w' => w'.cell? ⟨w.heap.size, 0, none⟩ = some (.int .i64 st) ∧ w'.cell? ⟨w.heap.size, 1, none⟩ = some (.int .i64 ev) ∧ w'.cell? ⟨w.heap.size, 2, none⟩ = some (.slice a1 starts.length c1) ∧ w'.cell? ⟨w.heap.size, 3, none⟩ = some (.slice a2 ars.length c2) ∧ w'.cell? ⟨w.heap.size, 4, none⟩ = some (.slice a3 ends.length c3) ∧ w'.cell? ⟨w.heap.size, 5, none⟩ = some (.slice sa seen.length sc) ∧ w'.cell? ⟨w.heap.size, 6, none⟩ = some (.slice ta secret.length tc) ∧ w'.cell? ⟨wb, wo + k, none⟩ = some (.int .i64 x)) (by kernel_rfl) ⟨x0, x1, x2, x3, x4, x5, x6, cw⟩ (fun hS => ?_)
      have Bd : Hid (Below w.heap.size w wr.drew) := B.out.drew
      have Kd : Hid (Blk wr.drew w.heap.size 44 (ptcells ⟨⟨st, ev, starts, ars, ends⟩, seen, secret⟩ ⟨⟨a1, c1, a2, c2, a3, c3⟩, sa, sc, ta, tc⟩)) := Blk.drew K.out
      have HVd : Hid (At wr.drew va cur) := At.drewN HV.out 1
      have CW : Hid (wr.drew.cell? ⟨wb, wo + k, none⟩ = some (.int .i64 x)) := cw
      clear x0 x1 x2 x3 x4 x5 x6 cw B K HV OV
      revert hS Bd Kd HVd CW
      generalize wr.drew = Y
      intro hS Bd Kd HVd CW
      refine wpAnyH_take (i := 0) (v := .pointer (some ⟨w.heap.size, 0, none⟩)) rfl (by kernel_rfl) (by kernel_rfl) (by kernel_rfl) (fun _ _ _ h => h) (Or.inl ⟨by kernel_rfl, fun w' hw' => by obtain ⟨q0, q1, q2, q3, q4, q5, q6, q7⟩ := hw'; go_simp⟩) hS ?_
      refine wpAnyH_take (i := 1) (v := mval ⟨st, ev, starts, ars, ends⟩ ⟨a1, c1, a2, c2, a3, c3⟩) rfl (by kernel_rfl) (by kernel_rfl) (by kernel_rfl) (fun _ _ _ h => h) (Or.inl ⟨by kernel_rfl, fun w' hw' => by obtain ⟨q0, q1, q2, q3, q4, q5, q6, q7⟩ := hw'; go_simp⟩) hS ?_
      refine wpAnyH_take (i := 2) (v := .slice va cur.length vc) rfl (by kernel_rfl) (by kernel_rfl) (by kernel_rfl) (fun _ _ _ h => h) (Or.inl ⟨by kernel_rfl, fun w' hw' => by obtain ⟨q0, q1, q2, q3, q4, q5, q6, q7⟩ := hw'; go_simp⟩) hS ?_
      refine wpAnyH_take (i := 3) (v := .pointer (some ⟨w.heap.size, 5, none⟩)) rfl (by kernel_rfl) (by kernel_rfl) (by kernel_rfl) (fun _ _ _ h => h) (Or.inl ⟨by kernel_rfl, fun w' hw' => by obtain ⟨q0, q1, q2, q3, q4, q5, q6, q7⟩ := hw'; go_simp⟩) hS ?_
      refine wpAnyH_take (i := 4) (v := .slice sa seen.length sc) rfl (by kernel_rfl) (by kernel_rfl) (by kernel_rfl) (fun _ _ _ h => h) (Or.inl ⟨by kernel_rfl, fun w' hw' => by obtain ⟨q0, q1, q2, q3, q4, q5, q6, q7⟩ := hw'; go_simp⟩) hS ?_
      refine wpAnyH_take (i := 5) (v := .slice (some ⟨wb, wo, none⟩) word.length wc) rfl (by kernel_rfl) (by kernel_rfl) (by kernel_rfl) (fun _ _ _ h => h) (Or.inl ⟨by kernel_rfl, fun w' hw' => by obtain ⟨q0, q1, q2, q3, q4, q5, q6, q7⟩ := hw'; go_simp⟩) hS ?_
      refine wpAnyH_take (i := 6) (v := .int .i64 k) rfl (by kernel_rfl) (by kernel_rfl) (by kernel_rfl) (fun _ _ _ h => h) (Or.inl ⟨by kernel_rfl, fun w' hw' => by obtain ⟨q0, q1, q2, q3, q4, q5, q6, q7⟩ := hw'; go_simp⟩) hS ?_
      refine wpAnyH_take (i := 7) (v := .pointer (some ⟨wb, wo + k, none⟩)) rfl (by kernel_rfl) (by kernel_rfl) (by kernel_rfl) (fun _ _ _ h => h) (Or.inl ⟨by kernel_rfl, fun w' hw' => by obtain ⟨q0, q1, q2, q3, q4, q5, q6, q7⟩ := hw'; go_simp⟩) hS ?_
      refine wpAnyH_take (i := 8) (v := .int .i64 x) rfl (by kernel_rfl) (by kernel_rfl) (by kernel_rfl) (fun _ _ _ h => h) (Or.inl ⟨by kernel_rfl, fun w' hw' => by obtain ⟨q0, q1, q2, q3, q4, q5, q6, q7⟩ := hw'; go_simp⟩) hS ?_
      simp only [Act.put, List.setIfInBounds_toArray]
      refine wpAnyH_ready (rs := [9]) (by kernel_rfl) (by simp) ?_
      refine AllReadyH.cons rfl (fun K' hK' => ?_) AllReadyH.nil
      go_simp
      refine (refSeeing_any ⟨st, ev, starts, ars, ends⟩ ⟨a1, c1, a2, c2, a3, c3⟩ va sa vc sc cur seen x Y (h.out.m.a.below Bd.out (Nat.le_refl _)) hlen.out hto.out HVd.out hvl.out (h.out.s.at_.below Bd.out (Nat.le_refl _)) h.out.s.len).mono ?_
      rintro e Y1 ⟨v, rfl, ov, hb⟩
      have OV : Hid (Own Y1 w.heap.size v (seeL ⟨⟨st, ev, starts, ars, ends⟩, seen, secret⟩ cur x)) := Own.low ov Bd.out.size
      have B := Hid.of (Bd.out.trans (hb.mono Bd.out.size))
      have K := Hid.of (Kd.out.below hb Kd.out.lt)
      have cw1 : Y1.cell? ⟨wb, wo + k, none⟩ = some (.int .i64 x) := (hb.cell (p := ⟨wb, wo + k, none⟩) (Nat.lt_of_lt_of_le HWB.out Bd.out.size)).trans CW.out
      obtain ⟨x0, x1, x2, x3, x4, x5, x6⟩ := ptcell_at K.out
      obtain ⟨na, nc, hna, -, -, -⟩ := own_form2 OV.out
      subst hna
      refine hK'.out _ _ ⟨x0, x1, x2, x3, x4, x5, x6, cw1⟩ (fun hS1 => ?_)
      clear hK' K' hb ov hS x0 x1 x2 x3 x4 x5 x6 cw1 Bd Kd HVd CW
      refine wpAnyH_take (i := 10) (v := .slice na (seeL ⟨⟨st, ev, starts, ars, ends⟩, seen, secret⟩ cur x).length nc) rfl (by kernel_rfl) (by kernel_rfl) (by kernel_rfl) (fun _ _ _ h => h) (Or.inl ⟨by kernel_rfl, fun w' hw' => by obtain ⟨q0, q1, q2, q3, q4, q5, q6, q7⟩ := hw'; go_simp⟩) hS1 ?_
      refine wpAnyH_done (by kernel_rfl) ?_ _
      clear hS1
      revert HNX OV
      generalize seeL ⟨⟨st, ev, starts, ars, ends⟩, seen, secret⟩ cur x = nxt
      intro HNX OV
      go_wp2_with fail
      go_roundw
      case rel => exact ⟨k + 1, by go_num, by omega, (by show Own _ _ _ _; rw [HNX.out]; exact OV.out), B, K⟩
      case measure => simp [intOf]; omega
    · have hk2 : k = word.length := by omega
      have HE : Hid ((word.take k).foldl (seeL ⟨⟨st, ev, starts, ars, ends⟩, seen, secret⟩) (wideL ars seen ss) = fromL ⟨⟨st, ev, starts, ars, ends⟩, seen, secret⟩ ss word) := by show _ = _; rw [hk2, List.take_of_length_le (Nat.le_refl _)]; rfl
      have hltD : decide ((k : Int) < (word.length : Int)) = false := by simp; omega
      clear hk2
      rw [HE.out] at OV
      go_wp2_with fail
      go_ret
      exact ⟨_, rfl, OV.out, B.out⟩

theorem rFrom_any (p : Plant) (P : PTL) (xa wa : Option Addr) (xc wc : Nat) (ss word : List Int) (w : World) (h : PAt w p P) (hm : mayB p.m = true) (hs : At w xa ss) (hsl : ss.length ≤ 4096) (hsn : xa = none → xc = 0) (hw : At w wa word) (hwl : word.length ≤ maxLen) :
    Calls Tryd.prog 80 #[ptval p P, .slice xa ss.length xc, .slice wa word.length wc] w fun e w' => GivesO w (fromL p ss word) e w' := by
  obtain ⟨⟨st, ev, starts, ars, ends⟩, seen, secret⟩ := p
  obtain ⟨⟨a1, c1, a2, c2, a3, c3⟩, sa, sc, ta, tc⟩ := P
  exact rfrom_go st ev starts ars ends seen secret a1 c1 a2 c2 a3 c3 sa sc ta tc xa wa xc wc ss word w (Hid.of h) (Hid.of hm) (Hid.of hs) (Hid.of hsl) (Hid.of hsn) (Hid.of hw) hwl

set_option maxRecDepth 100000 in
set_option maxHeartbeats 4000000 in
theorem rEst_any (p : Plant) (P : PTL) (wa : Option Addr) (wc : Nat) (word : List Int) (w : World) (h : PAt w p P) (hm : mayB p.m = true) (hw : At w wa word) (hwl : word.length ≤ maxLen) :
    Calls Tryd.prog 33 #[ptval p P, .slice wa word.length wc] w fun e w' => GivesO w (estL p word) e w' := by
  have hsl : p.m.starts.length ≤ 4096 := by
    have h1 := mayB_size hm
    unfold sizeOk at h1
    have h2 := may_starts hm
    have := nodup_len 256 _ (inc_nodup h2.1) (fun x hx => by have := h2.2 x hx; omega)
    omega
  have B : Hid (Below w.heap.size w (w.alloc (.cells (ptcells p P) 44))) := (Below.refl _ _).alloc (Nat.le_refl _) _
  have H := Hid.of h
  have HM := Hid.of hm
  have HW := Hid.of hw
  have HWL := Hid.of hwl
  have HSL := Hid.of hsl
  clear h hm hw hwl hsl
  go_enter Tryd.func33, Tryd.ntmps33
  go_wp2_with fail
  have KEY := Hid.of (rFrom_any p P P.l.a1 wa P.l.c1 wc p.m.starts word _ (H.out.below B.out (Nat.le_refl _)) HM.out (H.out.m.s.below B.out (Nat.le_refl _)) HSL.out H.out.m.s3 (HW.out.below B.out (Nat.le_refl _)) HWL.out)
  refine KEY.out.mono ?_
  rintro e W1 ⟨v, rfl, ov, hb⟩
  have OV : Hid (Own W1 w.heap.size v (estL p word)) := Own.low ov B.out.size
  have B1 := Hid.of (B.out.trans (hb.mono B.out.size))
  clear ov hb KEY
  go_wp2_with fail
  go_ret
  exact ⟨v, rfl, OV.out, B1.out⟩

end Go.Proofs.YtmlkpdeidpcidaaDoor
