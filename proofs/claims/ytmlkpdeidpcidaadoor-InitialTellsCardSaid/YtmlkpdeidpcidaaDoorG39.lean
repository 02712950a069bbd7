/-
  The walk of current.May.
  The walk of Set.OnlyIn.
  The walks of current.IsSeen, of its closure, and of slices.ContainsFunc and slices.IndexFunc at it.
  The walks of current.watch and of its closure.
  What the searches of package current stand on.
  The walk of current.Estimate.
-/
import Derived.Test.YtmlkpdeidpcidaaDoorG24
import Derived.Test.YtmlkpdeidpcidaaDoorG07
import Derived.Test.YtmlkpdeidpcidaaDoorG05
import Derived.Test.YtmlkpdeidpcidaaDoorG37
import Derived.Test.YtmlkpdeidpcidaaDoorG11
import Derived.Test.YtmlkpdeidpcidaaDoorG20
import Derived.Deep.RegionHeld3
import Derived.Test.YtmlkpdeidpcidaaDoorG19
import Derived.Test.YtmlkpdeidpcidaaDoorG09
import Derived.Test.YtmlkpdeidpcidaaDoorG16
import Derived.Test.YtmlkpdeidpcidaaDoorCCPost
import Derived.Test.YtmlkpdeidpcidaaDoorG22
namespace Go.Proofs.YtmlkpdeidpcidaaDoor
open Go.RowKit
set_option linter.unusedVariables false

set_option maxRecDepth 100000 in
set_option maxHeartbeats 4000000 in
theorem pCurMay_any (p : Plant) (P : PTL) (w : World) (h : PAt w p P) :
    Calls Tryd.prog 28 #[ptval p P] w fun e w' => e = .returned (.bool (mayP p)) ∧ Below w.heap.size w w' := by
  have B : Hid (Below w.heap.size w (w.alloc (.cells (ptcells p P) 44))) := (Below.refl _ _).alloc (Nat.le_refl _) _
  have KP : Hid (Blk (w.alloc (.cells (ptcells p P) 44)) w.heap.size 44 (ptcells p P)) := Blk.new w _ _
  have H := Hid.of h
  clear h
  go_enter Tryd.func28, Tryd.ntmps28
  obtain ⟨x0, x1, x2, x3, x4, x5, x6⟩ := ptcell_at KP.out
  go_wp2_with fail
  clear x0 x1 x2 x3 x4 x5 x6
  revert B KP
  generalize (w.alloc (.cells (ptcells p P) 44)) = V0
  intro B KP
  refine (pMay_any p.m P.l V0 (H.out.m.below B.out (Nat.le_refl _))).mono ?_
  rintro e W1 ⟨rfl, hb⟩
  replace B := Hid.of (B.out.trans (hb.mono B.out.size))
  replace KP := Hid.of (KP.out.below hb KP.out.lt)
  clear hb
  cases hm : mayB p.m with
  | false =>
    have HO : Hid (false = mayP p) := by show _ = _; unfold mayP; rw [hm]; rfl
    clear hm
    go_wp2_with fail
    go_ret
    exact ⟨ret_bool HO.out, B.out⟩
  | true =>
    have HM := Hid.of hm
    clear hm
    obtain ⟨x0, x1, x2, x3, x4, x5, x6⟩ := ptcell_at KP.out
    by_cases hs6 : p.m.st ≤ 6
    · have d1 : decide (p.m.st ≤ (6 : Int)) = true := by simpa using hs6
      have H6 := Hid.of hs6
      clear hs6
      go_wp2_with fail
      refine (rowIs_any P.sa P.sc p.seen p.m.ev W1 (H.out.s.at_.below B.out (Nat.le_refl _)) H.out.s.len).mono ?_
      rintro e W2 ⟨rfl, rfl⟩
      cases hr : rowB p.m.ev p.seen with
      | false =>
        have HO : Hid (false = mayP p) := by show _ = _; unfold mayP; rw [hr]; simp
        clear hr
        go_wp2_with fail
        go_ret
        exact ⟨ret_bool HO.out, B.out⟩
      | true =>
        have HO : Hid (rowB p.m.st p.secret = mayP p) := by show _ = _; unfold mayP; rw [HM.out, hr, decide_eq_true H6.out]; rfl
        clear hr
        go_wp2_with fail
        refine (rowIs_any P.ta P.tc p.secret p.m.st W2 (H.out.t.at_.below B.out (Nat.le_refl _)) H.out.t.len).mono ?_
        rintro e W3 ⟨rfl, rfl⟩
        go_wp2_with fail
        go_ret
        exact ⟨ret_bool HO.out, B.out⟩
    · have d1 : decide (p.m.st ≤ (6 : Int)) = false := by simpa using hs6
      have HO : Hid (false = mayP p) := by show _ = _; unfold mayP; rw [d1]; simp
      clear hs6
      go_wp2_with fail
      go_ret
      exact ⟨ret_bool HO.out, B.out⟩

end Go.Proofs.YtmlkpdeidpcidaaDoor
namespace Go.Proofs.YtmlkpdeidpcidaaDoor
open Go.RowKit
set_option linter.unusedVariables false

set_option maxRecDepth 100000 in
set_option maxHeartbeats 4000000 in
theorem onlyIn_any (S T : Nat → Nat) (oS : okS S) (oT : okS T) (w : World) :
    Calls Tryd.prog 79 #[sval S, sval T] w fun e w' => e = .returned (.bool (onlyS S T)) ∧ Below w.heap.size w w' := by
  have B : Hid (Below w.heap.size w ((w.alloc (.cells (scells S) 85)).alloc (.cells (scells T) 85))) := ((Below.refl _ _).alloc (Nat.le_refl _) _).alloc (by simp) _
  have KS : Hid (SB ((w.alloc (.cells (scells S) 85)).alloc (.cells (scells T) 85)) w.heap.size S) := (Blk.new w _ _).alloc _
  have KT : Hid (SB ((w.alloc (.cells (scells S) 85)).alloc (.cells (scells T) 85)) (w.heap.size + 1) T) := by
    have := Blk.new (w.alloc (.cells (scells S) 85)) 85 (scells T)
    rwa [World.size_alloc] at this
  obtain ⟨x0, x1, x2, x3⟩ := SB.cells KS.out
  obtain ⟨y0, y1, y2, y3⟩ := SB.cells KT.out
  go_enter Tryd.func79, Tryd.ntmps79
  have heq : ∀ V, (Op.equalIn 10000 85 (.agg #[.int .u64 (S 0), .int .u64 (S 1), .int .u64 (S 2), .int .u64 (S 3)]) (.agg #[.int .u64 0, .int .u64 0, .int .u64 0, .int .u64 0])).run Tryd.prog V = .ok (emptyB S) V := fun V => run_equalIn_set S V
  have hgd := run_guard_set
  cases hm : emptyB S with
  | true =>
    have HO : Hid (false = onlyS S T) := by show _ = _; unfold onlyS; rw [hm]; rfl
    rw [hm] at heq
    clear hm
    go_wp2_with fail
    exact bodyPost_ret (v := .bool false) (by simp [results, go_sem]) rfl ⟨ret_bool HO.out, B.out⟩
  | false =>
    have HO : Hid (emptyB (lessS S T) = onlyS S T) := by show _ = _; unfold onlyS; rw [hm]; rfl
    rw [hm] at heq
    clear hm
    go_wp2_with fail
    refine (less_any S T _ oS oT).mono ?_
    rintro e V2 ⟨rfl, hb⟩
    have B2 := Hid.of (B.out.trans (hb.mono B.out.size))
    clear hb B x0 x1 x2 x3 y0 y1 y2 y3 KS KT heq
    obtain ⟨Z, HZ⟩ : ∃ Z, Hid (Z = lessS S T) := ⟨_, rfl⟩
    rw [← HZ.out] at HO
    rw [← HZ.out]
    have heq : (Op.equalIn 10000 85 (.agg #[.int .u64 (Z 0), .int .u64 (Z 1), .int .u64 (Z 2), .int .u64 (Z 3)]) (.agg #[.int .u64 0, .int .u64 0, .int .u64 0, .int .u64 0])).run Tryd.prog V2 = .ok (emptyB Z) V2 := run_equalIn_set Z V2
    go_wp2_with fail
    exact bodyPost_ret (v := .bool (emptyB Z)) (by simp [results, go_sem]) rfl ⟨ret_bool HO.out, B2.out⟩

end Go.Proofs.YtmlkpdeidpcidaaDoor
namespace Go.Proofs.YtmlkpdeidpcidaaDoor
open Go.RowKit
set_option linter.unusedVariables false

/-- Are all of a list seen? -/
def allIn (seen xs : List Int) : Bool := xs.all fun n => hasB seen n
theorem allIn_yes {seen xs : List Int} {k : Nat} {x : Int} (h : k < xs.length) (hx : Hid (x = xs[k]?.getD 0)) (he : Hid (allIn seen xs = allIn seen (xs.drop k))) (hy : hasB seen x = true) : Hid (allIn seen xs = allIn seen (xs.drop (k + 1))) := by
  show allIn seen xs = _
  rw [he.out, drop_cons h, ← hx.out]
  unfold allIn
  rw [List.all_cons, hy, Bool.true_and]
theorem allIn_no {seen xs : List Int} {k : Nat} {x : Int} (h : k < xs.length) (hx : Hid (x = xs[k]?.getD 0)) (he : Hid (allIn seen xs = allIn seen (xs.drop k))) (hy : hasB seen x = false) : allIn seen xs = false := by
  rw [he.out, drop_cons h, ← hx.out]
  unfold allIn
  rw [List.all_cons, hy, Bool.false_and]
theorem allIn_end {seen xs : List Int} {k : Nat} (h : ¬ k < xs.length) (he : Hid (allIn seen xs = allIn seen (xs.drop k))) : allIn seen xs = true := by
  rw [he.out, List.drop_eq_nil_of_le (by omega)]; rfl
theorem allIn_iff (seen xs : List Int) : allIn seen xs = true ↔ ∀ e ∈ xs, e ∈ seen := by
  unfold allIn
  rw [List.all_eq_true]
  exact ⟨fun h e he => (hasB_iff _ _).1 (h e he), fun h e he => (hasB_iff _ _).2 (h e he)⟩

set_option maxHeartbeats 400000 in
theorem isSeen1_any (sa : Option Addr) (sc : Nat) (seen : List Int) (n : Int) (pb : Nat) (w : World) (h5 : w.cell? ⟨pb, 5, none⟩ = some (.slice sa seen.length sc)) (hs : Hid (At w sa seen)) (hl : Hid (seen.length ≤ maxLen)) :
    Calls Tryd.prog 133 #[.int .i64 n, .pointer (some ⟨pb, 0, none⟩)] w fun e w' => e = .returned (.bool (!hasB seen n)) ∧ w' = w := by
  go_enter Tryd.func133, Tryd.ntmps133
  go_wp2_with (go_at_call 128; refine (rowHas_any sa sc seen n _ hs.out hl.out).mono ?_; rintro e w1 ⟨rfl, rfl⟩)
  go_ret
  exact ⟨rfl, rfl⟩

set_option maxHeartbeats 1000000 in
theorem cindexFunc_some (sa : Option Addr) (sc : Nat) (seen : List Int) (pb b off cap : Nat) (xs : List Int) (w : World) (hl : xs.length ≤ 9223372036854775807) (hc : Cells w b off xs) (h5 : Hid (w.cell? ⟨pb, 5, none⟩ = some (.slice sa seen.length sc))) (hs : Hid (At w sa seen)) (hsl : Hid (seen.length ≤ maxLen)) :
    Calls Tryd.prog 179 #[.slice (some ⟨b, off, none⟩) xs.length cap, .func (.func 133) #[] #[.pointer (some ⟨pb, 0, none⟩)]] w fun e w' => ∃ r : Int, e = .returned (.int .i64 r) ∧ decide (0 ≤ r) = !allIn seen xs ∧ w' = w := by
  go_enter Tryd.func179, Tryd.ntmps179
  go_wp2
  go_loop [8] (fun i => ∃ k : Nat, k ≤ xs.length ∧ i = .int .i64 k ∧ Hid (allIn seen xs = allIn seen (xs.drop k))) (fun i => xs.length - (intOf i).toNat)
  case atStart => exact ⟨0, Nat.zero_le _, rfl, rfl⟩
  case round =>
    obtain ⟨k, hk, rfl, he⟩ := hrel
    by_cases hlt : k < xs.length
    · obtain ⟨x, HX, hcx⟩ := hc.at hlt
      cases hi : hasB seen x with
      | true =>
        have HI := Hid.of hi
        go_wp2_with (go_at_call 133; refine (isSeen1_any sa sc seen x pb _ h5.out hs hsl).mono ?_; rintro e w1 ⟨rfl, rfl⟩)
        go_round
        case rel => exact ⟨k + 1, by omega, by go_num, allIn_yes hlt HX he HI.out⟩
        case measure => simp [intOf]; omega
      | false =>
        have HI := Hid.of hi
        go_wp2_with (go_at_call 133; refine (isSeen1_any sa sc seen x pb _ h5.out hs hsl).mono ?_; rintro e w1 ⟨rfl, rfl⟩)
        go_ret
        exact ⟨_, rfl, by rw [allIn_no hlt HX he HI.out]; simp, rfl⟩
    · go_wp2
      go_ret
      exact ⟨_, rfl, by rw [allIn_end hlt he]; simp, rfl⟩

set_option maxHeartbeats 400000 in
theorem cindexFunc_nil (seen : List Int) (a : Option Addr) (cap : Nat) (f : Value) (w : World) :
    Calls Tryd.prog 179 #[.slice a 0 cap, f] w fun e w' => ∃ r : Int, e = .returned (.int .i64 r) ∧ decide (0 ≤ r) = !allIn seen [] ∧ w' = w := by
  go_enter Tryd.func179, Tryd.ntmps179
  go_wp2
  refine wp_loop_rounds 1 ?_
  rw [rounds_succ]
  go_wp2
  go_ret
  exact ⟨_, rfl, rfl, rfl⟩

theorem cindexFunc_any (sa : Option Addr) (sc : Nat) (seen : List Int) (pb cap : Nat) (a : Option Addr) (xs : List Int) (w : World) (hx : At w a xs) (hl : xs.length ≤ maxLen) (h5 : Hid (w.cell? ⟨pb, 5, none⟩ = some (.slice sa seen.length sc))) (hs : Hid (At w sa seen)) (hsl : Hid (seen.length ≤ maxLen)) :
    Calls Tryd.prog 179 #[.slice a xs.length cap, .func (.func 133) #[] #[.pointer (some ⟨pb, 0, none⟩)]] w fun e w' => ∃ r : Int, e = .returned (.int .i64 r) ∧ decide (0 ≤ r) = !allIn seen xs ∧ w' = w := by
  rcases hx with rfl | ⟨b, off, rfl, hb, hc⟩
  · exact cindexFunc_nil seen a cap _ w
  · exact cindexFunc_some sa sc seen pb b off cap xs w hl hc h5 hs hsl

set_option maxHeartbeats 400000 in
theorem ccontainsFunc_any (sa : Option Addr) (sc : Nat) (seen : List Int) (pb cap : Nat) (a : Option Addr) (xs : List Int) (w : World) (hx : At w a xs) (hl : xs.length ≤ maxLen) (h5 : Hid (w.cell? ⟨pb, 5, none⟩ = some (.slice sa seen.length sc))) (hs : Hid (At w sa seen)) (hsl : Hid (seen.length ≤ maxLen)) :
    Calls Tryd.prog 132 #[.slice a xs.length cap, .func (.func 133) #[] #[.pointer (some ⟨pb, 0, none⟩)]] w fun e w' => e = .returned (.bool (!allIn seen xs)) ∧ w' = w := by
  have H := Hid.of (cindexFunc_any sa sc seen pb cap a xs w hx hl h5 hs hsl)
  clear h5 hs hsl hx hl
  go_enter Tryd.func132, Tryd.ntmps132
  go_wp2_with (go_at_call 179; refine H.out.mono ?_; rintro e w1 ⟨r, rfl, hr, rfl⟩; have HR := Hid.of hr; clear hr)
  go_ret
  exact ⟨ret_bool HR.out, rfl⟩

set_option maxRecDepth 100000 in
set_option maxHeartbeats 1000000 in
theorem cisSeen_any (p : Plant) (P : PTL) (a : Option Addr) (cap : Nat) (xs : List Int) (w : World) (hP : Hid (PAt w p P)) (hx : Hid (At w a xs)) (hl : Hid (xs.length ≤ maxLen)) :
    Calls Tryd.prog 77 #[ptval p P, .slice a xs.length cap] w fun e w' => e = .returned (.bool (allIn p.seen xs)) ∧ Below w.heap.size w w' := by
  have hmf : ∀ (fn : Fn) (first cap : Array Value) (w : World), (Instr.makeFunc fn first cap).run Tryd.prog w = .ok (.func fn first cap) w := fun _ _ _ _ => rfl
  have B : Hid (Below w.heap.size w (w.alloc (.cells (ptcells p P) 44))) := (Below.refl _ _).alloc (Nat.le_refl _) _
  have KP : Hid (Blk (w.alloc (.cells (ptcells p P) 44)) w.heap.size 44 (ptcells p P)) := Blk.new w _ _
  go_enter Tryd.func77, Tryd.ntmps77
  go_wp2_with fail
  revert B KP
  generalize (w.alloc (.cells (ptcells p P) 44)) = V0
  intro B KP
  refine (ccontainsFunc_any P.sa P.sc p.seen w.heap.size cap a xs V0 (hx.out.below B.out (Nat.le_refl _)) hl.out (Hid.of (ptcell_at KP.out).2.2.2.2.2.1) (Hid.of (hP.out.s.at_.below B.out (Nat.le_refl _))) (Hid.of hP.out.s.len)).mono ?_
  rintro e V1 ⟨rfl, rfl⟩
  go_wp2_with fail
  go_ret
  exact ⟨ret_bool (by simp), B.out⟩

end Go.Proofs.YtmlkpdeidpcidaaDoor
namespace Go.Proofs.YtmlkpdeidpcidaaDoor
open Go.RowKit
set_option linter.unusedVariables false

theorem idx_place (n : Int) : ∀ (xs : List Int) (k : Nat), (∃ j : Nat, placeN xs n = some j ∧ idxFrom n k xs = ((k + j : Nat) : Int)) ∨ (placeN xs n = none ∧ idxFrom n k xs = -1)
  | [], k => .inr ⟨rfl, rfl⟩
  | x :: r, k => by
    unfold placeN idxFrom
    by_cases h : n = x
    · subst h
      exact .inl ⟨0, by simp, by simp⟩
    · have h' : ¬ x = n := fun e => h e.symm
      rw [if_neg h]
      rcases idx_place n r (k + 1) with ⟨j, h1, h2⟩ | ⟨h1, h2⟩
      · exact .inl ⟨j + 1, by simp [h', h1], by rw [h2]; simp; omega⟩
      · exact .inr ⟨by simp [h', h1], h2⟩
theorem idx_of {n : Int} {xs : List Int} {j : Nat} (h : placeN xs n = some j) : idxFrom n 0 xs = (j : Int) := by
  rcases idx_place n xs 0 with ⟨i, h1, h2⟩ | ⟨h1, -⟩
  · rw [h] at h1
    have := Option.some.inj h1
    subst this
    rw [h2]; simp
  · rw [h] at h1; cases h1

abbrev zs4 : Array Value := #[.int .u64 0, .int .u64 0, .int .u64 0, .int .u64 0]
/-- The closure that tells where an estimate leads to, and what it knows. -/
abbrev cleadV (pl pp : Nat) : Value := .func (.func 130) #[] #[.pointer (some ⟨pl, 0, none⟩), .pointer (some ⟨pp, 0, none⟩)]
structure CL (W : World) (pl pp : Nat) (L : LB) (p : Plant) (P : PTL) : Prop where
  ca : Blk W pl 108 #[leadV L]
  cp : Blk W pp 44 (ptcells p P)
  pt : PAt W p P
  la : LD W L p.seen.length (p.m.st.toNat * p.seen.length) (tabS p.seen.length (hideM p.m p.seen).arrows)
theorem CL.kept {W W' : World} {pl pp : Nat} {L : LB} {p : Plant} {P : PTL} (h : CL W pl pp L p P) (hb : Below W.heap.size W W') : CL W' pl pp L p P :=
  ⟨h.ca.below hb h.ca.lt, h.cp.below hb h.cp.lt, h.pt.below hb (Nat.le_refl _), h.la.kept hb⟩

set_option maxRecDepth 100000 in
set_option maxHeartbeats 8000000 in
theorem cwatch1_any (p : Plant) (P : PTL) (S : Nat → Nat) (e : Int) (k : Nat) (hk : Hid (placeN p.seen e = some k)) (hk2 : k < p.seen.length) (h8 : p.seen.length ≤ 8) (h256 : p.m.st.toNat ≤ 256) (hS : Hid (okS S)) (hall : Hid (∀ n ∈ allS S, n < p.m.st.toNat)) (pl pp : Nat) (L : LB) (w : World) (hT : Hid (Tab w)) (hL : Hid (CL w pl pp L p P)) :
    Calls Tryd.prog 130 #[sval S, .int .i64 e, .pointer (some ⟨pl, 0, none⟩), .pointer (some ⟨pp, 0, none⟩)] w fun e' w' => e' = .returned (sval (leadS p.seen.length (hideM p.m p.seen).arrows S k)) ∧ Below w.heap.size w w' := by
  have B0 : Hid (Below w.heap.size w ((w.alloc (.cells (scells S) 85)).alloc (.cells zs4 85))) := ((Below.refl _ _).alloc (Nat.le_refl _) _).alloc (by simp) _
  have K0 : Hid (SB ((w.alloc (.cells (scells S) 85)).alloc (.cells zs4 85)) w.heap.size S) := (Blk.new w _ _).alloc _
  have R0 : Hid (SB ((w.alloc (.cells (scells S) 85)).alloc (.cells zs4 85)) (w.heap.size + 1) zeroS) := by
    have := Blk.new (w.alloc (.cells (scells S) 85)) 85 zs4
    rwa [World.size_alloc] at this
  go_enter Tryd.func130, Tryd.ntmps130
  go_wp2_with fail
  revert B0 K0 R0
  generalize (w.alloc (.cells (scells S) 85)).alloc (.cells zs4 85) = V0
  intro B0 K0 R0
  have cellsAt : Hid (∀ W, Below w.heap.size w W → SB W w.heap.size S → W.cell? ⟨w.heap.size, 0, none⟩ = some (.int .u64 (S 0)) ∧ W.cell? ⟨w.heap.size, 1, none⟩ = some (.int .u64 (S 1)) ∧ W.cell? ⟨w.heap.size, 2, none⟩ = some (.int .u64 (S 2)) ∧ W.cell? ⟨w.heap.size, 3, none⟩ = some (.int .u64 (S 3)) ∧ W.cell? ⟨pl, 0, none⟩ = some (leadV L) ∧ W.cell? ⟨pp, 5, none⟩ = some (.slice P.sa p.seen.length P.sc)) := fun W hb hp => by
    obtain ⟨x0, x1, x2, x3⟩ := SB.cells hp
    exact ⟨x0, x1, x2, x3, (hL.out.ca.below hb hL.out.ca.lt).cell 0 rfl, (hL.out.cp.below hb hL.out.cp.lt).cell 5 rfl⟩
  refine wp_region_held_drew (S := fun w' => w'.cell? ⟨w.heap.size, 0, none⟩ = some (.int .u64 (S 0)) ∧ w'.cell? ⟨w.heap.size, 1, none⟩ = some (.int .u64 (S 1)) ∧ w'.cell? ⟨w.heap.size, 2, none⟩ = some (.int .u64 (S 2)) ∧ w'.cell? ⟨w.heap.size, 3, none⟩ = some (.int .u64 (S 3)) ∧ w'.cell? ⟨pl, 0, none⟩ = some (leadV L) ∧ w'.cell? ⟨pp, 5, none⟩ = some (.slice P.sa p.seen.length P.sc)) (by kernel_rfl) (cellsAt.out _ B0.out.drew (Blk.drew K0.out)) (fun hS0 => ?_)
  have B1 : Hid (Below w.heap.size w V0.drew) := B0.out.drew
  have K1 : Hid (SB V0.drew w.heap.size S) := Blk.drew K0.out
  have R1 : Hid (SB V0.drew (w.heap.size + 1) zeroS) := Blk.drew R0.out
  clear B0 K0 R0
  revert B1 K1 R1 hS0
  generalize V0.drew = Y0
  intro hS0 B1 K1 R1
  refine wpAnyH_take (i := 0) (v := leadV L) rfl (by kernel_rfl) (by kernel_rfl) (by kernel_rfl) (fun _ _ _ h => h) (Or.inl ⟨by kernel_rfl, fun w' hw' => by obtain ⟨q0, q1, q2, q3, q4, q5⟩ := hw'; go_simp⟩) hS0 ?_
  refine wpAnyH_take (i := 1) (v := sval S) rfl (by kernel_rfl) (by kernel_rfl) (by kernel_rfl) (fun _ _ _ h => h) (Or.inl ⟨by kernel_rfl, fun w' hw' => by obtain ⟨q0, q1, q2, q3, q4, q5⟩ := hw'; go_simp⟩) hS0 ?_
  refine wpAnyH_take (i := 2) (v := .pointer (some ⟨pp, 5, none⟩)) rfl (by kernel_rfl) (by kernel_rfl) (by kernel_rfl) (fun _ _ _ h => h) (Or.inl ⟨by kernel_rfl, fun w' hw' => by obtain ⟨q0, q1, q2, q3, q4, q5⟩ := hw'; go_simp⟩) hS0 ?_
  refine wpAnyH_take (i := 3) (v := .slice P.sa p.seen.length P.sc) rfl (by kernel_rfl) (by kernel_rfl) (by kernel_rfl) (fun _ _ _ h => h) (Or.inl ⟨by kernel_rfl, fun w' hw' => by obtain ⟨q0, q1, q2, q3, q4, q5⟩ := hw'; go_simp⟩) hS0 ?_
  refine wpAnyH_take (i := 4) (v := .int .i64 e) rfl (by kernel_rfl) (by kernel_rfl) (by kernel_rfl) (fun _ _ _ h => h) (Or.inl ⟨by kernel_rfl, fun w' hw' => by obtain ⟨q0, q1, q2, q3, q4, q5⟩ := hw'; go_simp⟩) hS0 ?_
  simp only [Act.put, List.setIfInBounds_toArray]
  refine wpAnyH_ready (rs := [5]) (by kernel_rfl) (by simp) ?_
  refine AllReadyH.cons rfl (fun K' hK' => ?_) AllReadyH.nil
  go_simp
  refine (index_any P.sa P.sc p.seen e Y0 (hL.out.pt.s.at_.below B1.out (Nat.le_refl _)) hL.out.pt.s.len).mono ?_
  rintro e1 Y1 ⟨rfl, rfl⟩
  rw [idx_of hk.out]
  refine hK'.out _ _ (cellsAt.out _ B1.out K1.out) (fun hS1 => ?_)
  clear hK' K' hS0
  refine wpAnyH_ready (rs := [6]) (by kernel_rfl) (by simp) ?_
  refine AllReadyH.cons rfl (fun K' hK' => ?_) AllReadyH.nil
  go_simp
  refine (lead1_any p.m.st.toNat p.seen.length k L _ (okS_tab _ _) S hS.out hall.out hk2 h8 h256 _ (hT.out.below B1.out hT.out.lt) (hL.out.la.below B1.out hL.out.la.lt)).mono ?_
  rintro e1 Y2 ⟨rfl, hb1⟩
  have B3 := Hid.of (B1.out.trans (hb1.mono B1.out.size))
  have K3 := Hid.of (K1.out.below hb1 K1.out.lt)
  have R3 := Hid.of (R1.out.below hb1 R1.out.lt)
  refine hK'.out _ _ (cellsAt.out _ B3.out K3.out) (fun hS2 => ?_)
  clear hK' K' hb1 B1 K1 R1 hS1
  obtain ⟨Q, HQ⟩ : ∃ Q, Hid (Q = leadF (tabS p.seen.length (hideM p.m p.seen).arrows) p.seen.length k (allS S)) := ⟨_, rfl⟩
  rw [← HQ.out]
  have HR : Hid (leadS p.seen.length (hideM p.m p.seen).arrows S k = Q) := by show _ = _; unfold leadS; rw [HQ.out]
  refine wpAnyH_ready (rs := [7]) (by kernel_rfl) (by simp) ?_
  refine AllReadyH.cons rfl (fun K' hK' => ?_) AllReadyH.nil
  have rz := R3.out.frozen
  obtain ⟨r0, r1, r2, r3⟩ := SB.cells R3.out
  have RR := Hid.of (SB.set4 R3.out Q)
  have BB := Hid.of (below_set4 B3.out (b' := w.heap.size + 1) (by omega) (.int .u64 (Q 0)) (.int .u64 (Q 1)) (.int .u64 (Q 2)) (.int .u64 (Q 3)))
  have KK : Hid (SB _ w.heap.size S) := Blk.other4 K3.out (Nat.ne_of_lt (Nat.lt_succ_self w.heap.size)) (.int .u64 (Q 0)) (.int .u64 (Q 1)) (.int .u64 (Q 2)) (.int .u64 (Q 3))
  go_simp
  refine hK'.out _ _ (cellsAt.out _ BB.out KK.out) (fun hS3 => ?_)
  clear hK' K' r0 r1 r2 r3 rz hS2 hS3
  refine wpAnyH_done (by kernel_rfl) ?_ _
  obtain ⟨r0, r1, r2, r3⟩ := SB.cells RR.out
  go_wp2
  refine bodyPost_ret (v := sval Q) ?_ rfl ⟨by rw [HR.out], BB.out⟩
  simp [results, go_sem, r0, r1, r2, r3]

/-- What watch leaves, where the plant may be. -/
def WatchPost (w : World) (p : Plant) (P : PTL) (e : Ending) (w' : World) : Prop := ∃ pl pp L, e = .returned (.tuple #[sval (ofS (wideL p.m.arrows p.seen p.m.starts)), cleadV pl pp, .int .i64 0]) ∧ CL w' pl pp L p P ∧ Below w.heap.size w w'

theorem results_setTwo {fn : Func} {p u v : Tmp} (h : fn.results = #[.cell p 85, .tmp u, .tmp v]) (tmps : Array Value) (w : World) (g : Nat) (S : Nat → Nat) (x y : Value) (hp : tmps.getD p undef = .pointer (some ⟨g, 0, none⟩)) (hu : tmps.getD u undef = x) (hv : tmps.getD v undef = y) (hB : SB w g S) :
    (results fn tmps).run Tryd.prog w = .ok (.tuple #[sval S, x, y]) w := by
  obtain ⟨x0, x1, x2, x3⟩ := SB.cells hB
  have e : (results fn tmps).run Tryd.prog w = ((asAddr (tmps.getD p undef)).run Tryd.prog w).andThen fun a w₁ => ((loadVar 85 a).run Tryd.prog w₁).andThen fun r w₂ => .ok (.tuple #[r, tmps.getD u undef, tmps.getD v undef]) w₂ := by
    simp only [results, h]
    simp [Sem.run_bind, Result.andThen]
  rw [e, hp, hu, hv]
  go_simp

set_option maxRecDepth 100000 in
set_option maxHeartbeats 8000000 in
theorem cwatch_bad (p : Plant) (P : PTL) (w : World) (h : Hid (PAt w p P)) (hp : Hid (mayP p = false)) :
    Calls Tryd.prog 76 #[ptval p P] w fun e w' => e = .returned (.tuple #[sval zeroS, .nilFunc, .int .i64 2]) ∧ Below w.heap.size w w' := by
  have B : Hid (Below w.heap.size w ((w.alloc (.cells (ptcells p P) 44)).alloc (.cells zs4 85))) := ((Below.refl _ _).alloc (Nat.le_refl _) _).alloc (by simp) _
  have KP : Hid (Blk ((w.alloc (.cells (ptcells p P) 44)).alloc (.cells zs4 85)) w.heap.size 44 (ptcells p P)) := (Blk.new w _ _).alloc _
  have KR : Hid (SB ((w.alloc (.cells (ptcells p P) 44)).alloc (.cells zs4 85)) (w.heap.size + 1) zeroS) := by
    have := Blk.new (w.alloc (.cells (ptcells p P) 44)) 85 zs4
    rwa [World.size_alloc] at this
  go_enter Tryd.func76, Tryd.ntmps76
  obtain ⟨x0, x1, x2, x3, x4, x5, x6⟩ := ptcell_at KP.out
  go_wp2_with fail
  clear x0 x1 x2 x3 x4 x5 x6
  revert B KP KR
  generalize ((w.alloc (.cells (ptcells p P) 44)).alloc (.cells zs4 85)) = V0
  intro B KP KR
  refine (pCurMay_any p P V0 (h.out.below B.out (Nat.le_refl _))).mono ?_
  rintro e W1 ⟨rfl, hb⟩
  replace B := Hid.of (B.out.trans (hb.mono B.out.size))
  replace KP := Hid.of (KP.out.below hb KP.out.lt)
  replace KR := Hid.of (KR.out.below hb KR.out.lt)
  clear hb
  rw [hp.out]
  have rz := KR.out.frozen
  obtain ⟨r0, r1, r2, r3⟩ := SB.cells KR.out
  have RR := Hid.of (SB.set4 KR.out zeroS)
  have BB := Hid.of (below_set4 B.out (b' := w.heap.size + 1) (by omega) (.int .u64 (zeroS 0)) (.int .u64 (zeroS 1)) (.int .u64 (zeroS 2)) (.int .u64 (zeroS 3)))
  go_wp2_with fail
  exact bodyPost_ret (v := .tuple #[sval zeroS, .nilFunc, .int .i64 2]) (results_setTwo (p := 2) (u := 3) (v := 4) rfl _ _ (w.heap.size + 1) zeroS _ _ rfl rfl rfl RR.out) rfl ⟨rfl, BB.out⟩

set_option maxRecDepth 100000 in
set_option maxHeartbeats 8000000 in
theorem cwatch_ok (p : Plant) (P : PTL) (w : World) (h : Hid (PAt w p P)) (hT : Hid (Tab w)) (hp : Hid (mayP p = true)) :
    Calls Tryd.prog 76 #[ptval p P] w fun e w' => WatchPost w p P e w' := by
  have hmf : ∀ (fn : Fn) (first cap : Array Value) (w : World), (Instr.makeFunc fn first cap).run Tryd.prog w = .ok (.func fn first cap) w := fun _ _ _ _ => rfl
  obtain ⟨hm, z6, hr, -⟩ := (mayP_iff p).1 hp.out
  have hft := hide_small hm z6 hr
  have HMH := Hid.of (may_hide hm hr hft)
  have HMM := Hid.of hm
  have HRR := Hid.of hr
  have HFT := Hid.of hft
  have sbd : Hid (∀ x ∈ (hideM p.m p.seen).starts, 0 ≤ x ∧ x < 256) := fun x hx => by
    have := (may_starts HMH.out).2 x hx
    have e : (hideM p.m p.seen).st = p.m.st := rfl
    omega
  clear hm hr hft z6
  have B : Hid (Below w.heap.size w ((w.alloc (.cells (ptcells p P) 44)).alloc (.cells zs4 85))) := ((Below.refl _ _).alloc (Nat.le_refl _) _).alloc (by simp) _
  have KP : Hid (Blk ((w.alloc (.cells (ptcells p P) 44)).alloc (.cells zs4 85)) w.heap.size 44 (ptcells p P)) := (Blk.new w _ _).alloc _
  have KR : Hid (SB ((w.alloc (.cells (ptcells p P) 44)).alloc (.cells zs4 85)) (w.heap.size + 1) zeroS) := by
    have := Blk.new (w.alloc (.cells (ptcells p P) 44)) 85 zs4
    rwa [World.size_alloc] at this
  go_enter Tryd.func76, Tryd.ntmps76
  obtain ⟨x0, x1, x2, x3, x4, x5, x6⟩ := ptcell_at KP.out
  go_wp2_with fail
  clear x0 x1 x2 x3 x4 x5 x6
  revert B KP KR
  generalize ((w.alloc (.cells (ptcells p P) 44)).alloc (.cells zs4 85)) = V0
  intro B KP KR
  refine (pCurMay_any p P V0 (h.out.below B.out (Nat.le_refl _))).mono ?_
  rintro e W1 ⟨rfl, hb⟩
  replace B := Hid.of (B.out.trans (hb.mono B.out.size))
  replace KP := Hid.of (KP.out.below hb KP.out.lt)
  replace KR := Hid.of (KR.out.below hb KR.out.lt)
  clear hb
  rw [hp.out]
  obtain ⟨x0, x1, x2, x3, x4, x5, x6⟩ := ptcell_at KP.out
  go_wp2_with fail
  clear x0 x1 x2 x3 x4 x5 x6
  refine (hide_okp p.m P.l P.sa P.sc p.seen W1 (h.out.m.below B.out (Nat.le_refl _)) (h.out.s.at_.below B.out (Nat.le_refl _)) h.out.s.len (hT.out.below B.out hT.out.lt) HMM.out HRR.out HFT.out).mono ?_
  rintro e W2 ⟨Lh, rfl, mt, hb⟩
  replace B := Hid.of (B.out.trans (hb.mono B.out.size))
  replace KP := Hid.of (KP.out.below hb KP.out.lt)
  replace KR := Hid.of (KR.out.below hb KR.out.lt)
  clear hb
  obtain ⟨M, HM⟩ : ∃ M, Hid (M = hideM p.m p.seen) := ⟨_, rfl⟩
  rw [← HM.out] at mt HMH sbd
  rw [← HM.out]
  have hb : Below W2.heap.size W2 (W2.alloc (.cells (mcells M Lh) 25)) := (Below.refl _ _).alloc (Nat.le_refl _) _
  replace B := Hid.of (B.out.trans (hb.mono B.out.size))
  replace KP := Hid.of (KP.out.below hb KP.out.lt)
  replace KR := Hid.of (KR.out.below hb KR.out.lt)
  have MT := Hid.of (mt.below hb (Nat.le_refl _))
  have KM := Hid.of (Blk.new W2 25 (mcells M Lh))
  clear hb mt
  obtain ⟨x0, x1, x2, x3, x4⟩ := mcell_at KM.out
  go_wp2_with fail
  clear x0 x1 x2 x3 x4
  revert B KP KR MT KM
  show Hid (Below w.heap.size w (W2.alloc (.cells #[.int .i64 M.st, .int .i64 M.ev, .slice Lh.a1 M.starts.length Lh.c1, .slice Lh.a2 M.arrows.length Lh.c2, .slice Lh.a3 M.ends.length Lh.c3] 25))) → _
  generalize W2.alloc (.cells #[.int .i64 M.st, .int .i64 M.ev, .slice Lh.a1 M.starts.length Lh.c1, .slice Lh.a2 M.arrows.length Lh.c2, .slice Lh.a3 M.ends.length Lh.c3] 25) = W3
  generalize W2.heap.size = pm
  intro B KP KR MT KM
  refine (leader_any M Lh W3 HMH.out MT.out).mono ?_
  rintro e W4 ⟨L, rfl, ld, ll, hb⟩
  have LL : Hid (L.all (· ≠ w.heap.size + 1)) := ll.imp (fun n hn => by have := KR.out.lt; omega)
  replace B := Hid.of (B.out.trans (hb.mono B.out.size))
  replace KP := Hid.of (KP.out.below hb KP.out.lt)
  replace KR := Hid.of (KR.out.below hb KR.out.lt)
  replace KM := Hid.of (KM.out.below hb KM.out.lt)
  replace MT := Hid.of (MT.out.below hb (Nat.le_refl _))
  clear hb ll
  have hb : Below W4.heap.size W4 (W4.alloc (.cells #[leadV L] 108)) := (Below.refl _ _).alloc (Nat.le_refl _) _
  have P7 := Hid.of (show w.heap.size + 1 < W4.heap.size from KR.out.lt)
  replace B := Hid.of (B.out.trans (hb.mono B.out.size))
  replace KP := Hid.of (KP.out.below hb KP.out.lt)
  replace KR := Hid.of (KR.out.below hb KR.out.lt)
  replace KM := Hid.of (KM.out.below hb KM.out.lt)
  replace MT := Hid.of (MT.out.below hb (Nat.le_refl _))
  have LD1 := Hid.of (ld.kept hb)
  have KF := Hid.of (Blk.new W4 108 #[leadV L])
  clear hb ld
  obtain ⟨x0, x1, x2, x3, x4⟩ := mcell_at KM.out
  go_wp2_with fail
  clear x0 x1 x2 x3 x4
  revert P7 B KP KR KM MT LD1 KF
  generalize W4.alloc (.cells #[leadV L] 108) = W5
  generalize W4.heap.size = pf
  intro P7 B KP KR KM MT LD1 KF
  refine (of_any Lh.a1 Lh.c1 M.starts W5 MT.out.s (Nat.le_trans MT.out.s1 MT.out.s2) sbd.out).mono ?_
  rintro e W6 ⟨rfl, hb⟩
  replace B := Hid.of (B.out.trans (hb.mono B.out.size))
  replace KP := Hid.of (KP.out.below hb KP.out.lt)
  replace KR := Hid.of (KR.out.below hb KR.out.lt)
  replace LD1 := Hid.of (LD1.out.kept hb)
  replace KF := Hid.of (KF.out.below hb KF.out.lt)
  clear hb KM MT
  obtain ⟨Q, HQ⟩ : ∃ Q, Hid (Q = ofS M.starts) := ⟨_, rfl⟩
  rw [← HQ.out]
  have rz := KR.out.frozen
  obtain ⟨r0, r1, r2, r3⟩ := SB.cells KR.out
  have RR := Hid.of (SB.set4 KR.out Q)
  have BB := Hid.of (below_set4 B.out (b' := w.heap.size + 1) (by omega) (.int .u64 (Q 0)) (.int .u64 (Q 1)) (.int .u64 (Q 2)) (.int .u64 (Q 3)))
  have PP := Hid.of (Blk.other4 KP.out (Nat.ne_of_lt (Nat.lt_succ_self w.heap.size)) (.int .u64 (Q 0)) (.int .u64 (Q 1)) (.int .u64 (Q 2)) (.int .u64 (Q 3)))
  have FF := Hid.of (Blk.other4 KF.out (b' := w.heap.size + 1) (by have := P7.out; omega) (.int .u64 (Q 0)) (.int .u64 (Q 1)) (.int .u64 (Q 2)) (.int .u64 (Q 3)))
  have DD := Hid.of (LD.other4 LD1.out LL.out (.int .u64 (Q 0)) (.int .u64 (Q 1)) (.int .u64 (Q 2)) (.int .u64 (Q 3)))
  clear B KP KR LD1 KF
  go_wp2_with fail
  refine bodyPost_ret (v := .tuple #[sval Q, cleadV pf w.heap.size, .int .i64 0]) (results_setTwo (p := 2) (u := 3) (v := 4) rfl _ _ (w.heap.size + 1) Q _ _ rfl rfl rfl RR.out) rfl ⟨pf, w.heap.size, L, ?_, ⟨FF.out, PP.out, h.out.below BB.out (Nat.le_refl _), ?_⟩, BB.out⟩
  · rw [HQ.out, HM.out]; rfl
  · have := DD.out
    rw [HM.out] at this
    exact this

end Go.Proofs.YtmlkpdeidpcidaaDoor
namespace Go.Proofs.YtmlkpdeidpcidaaDoor
open Go.RowKit
set_option linter.unusedVariables false

theorem Tryd.infoPlaceC : (Tryd.prog.info? 115).map (fun i => (i.zero, i.size, i.bytes)) = some (some (.agg (pccells ⟨zeroS, .slice none 0 0, []⟩).toArray), 5, 56) := by kernel_rfl
theorem below_mapC {B : Nat} {w W : World} (h : Below B w W) {br : Nat} (hb : B ≤ br) (o : Obj) : Below B w (setMap W br o) :=
  h.trans ⟨rfl, rfl, rfl, by rw [size_setMap]; exact Nat.le_refl _, fun j hj => heap_setMap_ne _ _ _ (by omega)⟩
theorem blk_mapC {W : World} {b br : Nat} {t : TypeId} {cs : Array Value} (h : Blk W b t cs) (hn : b ≠ br) (o : Obj) : Blk (setMap W br o) b t cs := (heap_setMap_ne W br o hn).trans h
/-- An event that is seen stands at its own place. -/
theorem place_nth {seen : List Int} (hi : Inc seen) {e : Nat} (he : e < seen.length) : placeN seen (seen[e]?.getD 0) = some e := by
  rw [List.getElem?_eq_getElem he, Option.getD_some]
  obtain ⟨j, hj⟩ := placeN_mem (List.getElem_mem he)
  have h1 := placeN_some hj
  obtain ⟨hl, h2⟩ := List.getElem?_eq_some_iff.1 h1
  have : j = e := by
    rcases Nat.lt_trichotomy j e with h | h | h
    · have := List.pairwise_iff_getElem.1 hi j e hl he h; omega
    · exact h
    · have := List.pairwise_iff_getElem.1 hi e j he hl h; omega
  rw [hj, this]
/-- Where a set leads to is what is known next. -/
theorem rep_see {p : Plant} (hp : mayP p = true) {S : Nat → Nat} {s : List Int} (hr : RepI S s) (hc : ClU p s) {e : Nat} (he : e < p.seen.length) : RepI (leadS p.seen.length (hideM p.m p.seen).arrows S e) (seeD p s e) := by
  obtain ⟨hm, z6, hrr, -⟩ := (mayP_iff p).1 hp
  have hmh := may_hide hm hrr (hide_small hm z6 hrr)
  have e1 : (hideM p.m p.seen).st = p.m.st := rfl
  have r1 := rep_lead (st := (hideM p.m p.seen).st) (ev := (p.seen.length : Int)) (e := (e : Int)) hr.1 (may_arrs hmh) (by omega) (by omega) (by omega)
  have r2 : Rep (leadS p.seen.length (hideM p.m p.seen).arrows S e) (stepL (hideM p.m p.seen).arrows s (e : Int)) := by simpa only [Int.toNat_natCast] using r1
  rw [hide_see hm hc he] at r2
  exact ⟨r2, (see_in hm s _).1⟩
theorem all_lt {p : Plant} {S : Nat → Nat} {s : List Int} (hr : RepI S s) (hc : ClU p s) : ∀ n ∈ allS S, n < p.m.st.toNat := fun n hn => by
  obtain ⟨m1, m2⟩ := (mem_allS S n).1 hn
  have := hc.1 (n : Int) ((hr.1.mem n m1).1 m2)
  omega

theorem rep_start {p : Plant} (hp : mayP p = true) : RepI (ofS (wideL p.m.arrows p.seen p.m.starts)) (wideL p.m.arrows p.seen p.m.starts) := by
  obtain ⟨hm, z6, -, -⟩ := (mayP_iff p).1 hp
  have h1 := wide_in (p := p) hm (may_starts hm).2
  have := rep_of (l := wideL p.m.arrows p.seen p.m.starts) (fun x hx => by have := h1.2 x hx; omega) (wideL p.m.arrows p.seen p.m.starts).length
  rw [List.take_of_length_le (Nat.le_refl _)] at this
  exact ⟨this, h1.1⟩

end Go.Proofs.YtmlkpdeidpcidaaDoor
namespace Go.Proofs.YtmlkpdeidpcidaaDoor
open Go.RowKit
set_option linter.unusedVariables false

theorem allIn_eq (seen xs : List Int) : allIn seen xs = inSeen seen xs := by
  rw [Bool.eq_iff_iff, allIn_iff, inSeen_iff]
/-- What Estimate knows behind the first k events. -/
structure ES (p : Plant) (word : List Int) (k : Nat) (S : Nat → Nat) : Prop where
  rep : RepI S (estL p (word.take k))
theorem est_cl {p : Plant} (hm : mayB p.m = true) (u : List Int) : ClU p (estL p u) := clU_fold hm u _ (clU_start hm)
theorem est_snoc (p : Plant) (u : List Int) (e : Int) : estL p (u ++ [e]) = seeL p (estL p u) e := by
  unfold estL fromL
  rw [List.foldl_append]; rfl
theorem est_more (p : Plant) (hm : mayB p.m = true) (u v : List Int) (h : estL p u = []) : estL p (u ++ v) = [] := by
  unfold estL fromL at h ⊢
  rw [List.foldl_append, h]
  exact fold_nil hm v
theorem es_next {p : Plant} (hp : mayP p = true) {word : List Int} {k : Nat} {S : Nat → Nat} (h : ES p word k S) (hk : k < word.length) {ev : Int} (he : Hid (ev = word[k]?.getD 0)) {j : Nat} (hj : Hid (placeN p.seen ev = some j)) : ES p word (k + 1) (leadS p.seen.length (hideM p.m p.seen).arrows S j) := by
  obtain ⟨hm, -, -, -⟩ := (mayP_iff p).1 hp
  have h1 := placeN_some hj.out
  have hl := (List.getElem?_eq_some_iff.1 h1).1
  have h2 := rep_see hp h.rep (est_cl hm _) hl
  refine ⟨?_⟩
  have h3 : word[k]? = some ev := by rw [he.out, List.getElem?_eq_getElem hk, Option.getD_some]
  rw [List.take_add_one, h3, Option.toList_some, est_snoc]
  have h4 : seeD p (estL p (word.take k)) j = seeL p (estL p (word.take k)) ev := by unfold seeD; rw [h1, Option.getD_some]
  rw [← h4]; exact h2
/-- Nothing more is to be known: what Row answers. -/
theorem es_row {p : Plant} (hm : mayB p.m = true) {word : List Int} {k : Nat} {S : Nat → Nat} (h : ES p word k S) (hk : emptyB S = true ∨ word.length ≤ k) : rowS S = estL p word := by
  rw [rep_row h.rep.1 h.rep.2]
  rcases hk with he | hk
  · have := empty_yes h.rep.1 he
    rw [this]
    have e := est_more p hm (word.take k) (word.drop k) this
    rw [List.take_append_drop] at e
    exact e.symm
  · rw [List.take_of_length_le hk]

/-- What is left by a call that hands back a list of its own, and an error. -/
def ListOwn (w : World) (r : List Int × Int) (e : Ending) (w' : World) : Prop := ∃ v, e = .returned (.tuple #[v, .int .i64 r.2]) ∧ Own w' w.heap.size v r.1 ∧ Below w.heap.size w w'
theorem ListOwn.post {w : World} {r : List Int × Int} {e : Ending} {w' : World} (h : ListOwn w r e w') : ListPost w r e w' := by
  obtain ⟨v, rfl, ov, hb⟩ := h
  obtain ⟨va, vc, rfl, h1, h2⟩ := Own.at ov
  exact ⟨va, vc, rfl, h1, h2, hb⟩

set_option maxRecDepth 100000 in
set_option maxHeartbeats 4000000 in
theorem est_bad (p : Plant) (P : PTL) (wa : Option Addr) (wc : Nat) (word : List Int) (w : World) (h : Hid (PAt w p P)) (hp : Hid (mayP p = false)) :
    Calls Tryd.prog 29 #[ptval p P, .slice wa word.length wc] w fun e w' => ListOwn w (estOut p word) e w' := by
  have B : Hid (Below w.heap.size w (w.alloc (.cells (ptcells p P) 44))) := (Below.refl _ _).alloc (Nat.le_refl _) _
  have KP : Hid (Blk (w.alloc (.cells (ptcells p P) 44)) w.heap.size 44 (ptcells p P)) := Blk.new w _ _
  go_enter Tryd.func29, Tryd.ntmps29
  obtain ⟨x0, x1, x2, x3, x4, x5, x6⟩ := ptcell_at KP.out
  go_wp2_with fail
  clear x0 x1 x2 x3 x4 x5 x6
  revert B KP
  generalize (w.alloc (.cells (ptcells p P) 44)) = V0
  intro B KP
  refine (cwatch_bad p P V0 (Hid.of (h.out.below B.out (Nat.le_refl _))) hp).mono ?_
  rintro e V1 ⟨rfl, hb⟩
  replace B := Hid.of (B.out.trans (hb.mono B.out.size))
  clear hb KP
  have B2 : Hid (Below w.heap.size w (V1.alloc (.cells zs4 85))) := B.out.alloc B.out.size _
  clear B
  go_wp2_with fail
  refine bodyPost_ret (v := .tuple #[.slice none 0 0, .int .i64 2]) (by simp [results, go_sem]) rfl ?_
  rw [estOut_bad hp.out]
  exact ⟨_, rfl, own_nil _ _, B2.out⟩

set_option maxRecDepth 100000 in
set_option maxHeartbeats 16000000 in
theorem est_ok (p : Plant) (P : PTL) (wa : Option Addr) (wc : Nat) (word : List Int) (w : World) (h : Hid (PAt w p P)) (hw : Hid (At w wa word)) (hwl : Hid (word.length ≤ maxLen)) (hT : Hid (Tab w)) (hp : Hid (mayP p = true)) :
    Calls Tryd.prog 29 #[ptval p P, .slice wa word.length wc] w fun e w' => ListOwn w (estOut p word) e w' := by
  obtain ⟨hm, z6, hrr, -⟩ := (mayP_iff p).1 hp.out
  have hz := mayB_size hm
  unfold sizeOk at hz
  have h8 : p.seen.length ≤ 8 := by have := row_short (by omega) (by omega) hrr; omega
  have h256 : p.m.st.toNat ≤ 256 := by omega
  have HMM := Hid.of hm
  have H8 := Hid.of h8
  have H256 := Hid.of h256
  clear hz hrr hm z6 h8 h256
  have B : Hid (Below w.heap.size w (w.alloc (.cells (ptcells p P) 44))) := (Below.refl _ _).alloc (Nat.le_refl _) _
  have KP : Hid (Blk (w.alloc (.cells (ptcells p P) 44)) w.heap.size 44 (ptcells p P)) := Blk.new w _ _
  go_enter Tryd.func29, Tryd.ntmps29
  obtain ⟨x0, x1, x2, x3, x4, x5, x6⟩ := ptcell_at KP.out
  go_wp2_with fail
  clear x0 x1 x2 x3 x4 x5 x6
  revert B KP
  generalize (w.alloc (.cells (ptcells p P) 44)) = V0
  intro B KP
  refine (cwatch_ok p P V0 (Hid.of (h.out.below B.out (Nat.le_refl _))) (Hid.of (hT.out.below B.out hT.out.lt)) hp).mono ?_
  rintro e V1 ⟨pl, pp, L0, rfl, cl, hb⟩
  replace B := Hid.of (B.out.trans (hb.mono B.out.size))
  replace KP := Hid.of (KP.out.below hb KP.out.lt)
  have HCL := Hid.of cl
  clear hb cl
  obtain ⟨Q, HQ⟩ : ∃ Q, Hid (Q = ofS (wideL p.m.arrows p.seen p.m.starts)) := ⟨_, rfl⟩
  have HRQ : Hid (RepI Q (wideL p.m.arrows p.seen p.m.starts)) := by rw [HQ.out]; exact rep_start hp.out
  rw [← HQ.out]
  have BV : Hid (Below V1.heap.size V1 (V1.alloc (.cells (scells Q) 85))) := (Below.refl _ _).alloc (Nat.le_refl _) _
  have KS : Hid (SB (V1.alloc (.cells (scells Q) 85)) V1.heap.size Q) := Blk.new V1 _ _
  obtain ⟨x0, x1, x2, x3, x4, x5, x6⟩ := ptcell_at (KP.out.below BV.out KP.out.lt)
  obtain ⟨y0, y1, y2, y3⟩ := SB.cells KS.out
  go_wp2_with fail
  clear x0 x1 x2 x3 x4 x5 x6 y0 y1 y2 y3
  revert BV KS
  generalize V1.alloc (.cells (scells Q) 85) = V2
  intro BV KS
  refine (cisSeen_any p P wa wc word V2 (Hid.of (h.out.below (B.out.trans (BV.out.mono B.out.size)) (Nat.le_refl _))) (Hid.of (hw.out.below (B.out.trans (BV.out.mono B.out.size)) (Nat.le_refl _))) hwl).mono ?_
  rintro e V3 ⟨rfl, hb⟩
  rw [allIn_eq]
  replace BV := Hid.of (BV.out.trans (hb.mono BV.out.size))
  replace KS := Hid.of (KS.out.below hb KS.out.lt)
  clear hb
  cases hin : inSeen p.seen word with
  | false =>
    have HO : Hid (estOut p word = ([], 6)) := estOut_out hp.out hin
    clear hin
    go_wp2_with fail
    refine bodyPost_ret (v := .tuple #[.slice none 0 0, .int .i64 6]) (by simp [results, go_sem]) rfl ?_
    rw [HO.out]
    exact ⟨_, rfl, own_nil _ _, B.out.trans (BV.out.mono B.out.size)⟩
  | true =>
    have HO : Hid (estOut p word = (estL p word, 0)) := estOut_ok hp.out hin
    have HIN : Hid (∀ e ∈ word, e ∈ p.seen) := (inSeen_iff _ _).1 hin
    have hwl2 : word.length ≤ 9223372036854775807 := hwl.out
    clear hin
    go_wp2_with fail
    go_loopw [26] (fun i wr => ∃ (k : Nat) (S : Nat → Nat), i = .int .i64 k ∧ k ≤ word.length ∧ Hid (ES p word k S) ∧ Hid (Below V1.heap.size V1 wr) ∧ Hid (SB wr V1.heap.size S)) (fun i _ => word.length - (intOf i).toNat)
    case atStart => exact ⟨0, Q, rfl, Nat.zero_le _, Hid.of ⟨HRQ.out⟩, BV, KS⟩
    case round =>
      clear BV KS HRQ HQ
      obtain ⟨k, S, rfl, hk, HES, BV, KS⟩ := hrel
      by_cases hlt : k < word.length
      · obtain ⟨bs, os, ev, rfl, HEV, HSC⟩ : ∃ (bs os : Nat) (ev : Int), wa = some ⟨bs, os, none⟩ ∧ Hid (ev = word[k]?.getD 0) ∧ wr.cell? ⟨bs, os + k, none⟩ = some (.int .i64 ev) := by
          rcases hw.out with h0 | ⟨bs, os, ha, hb, hc⟩
          · have : word.length = 0 := by rw [h0]; rfl
            omega
          · obtain ⟨ev, hev, hcell⟩ := hc.at hlt
            refine ⟨bs, os, ev, ha, hev, ?_⟩
            exact ((B.out.trans (BV.out.mono B.out.size)).cell (p := ⟨bs, os + k, none⟩) hb).trans hcell
        obtain ⟨j, HJ⟩ : ∃ j, Hid (placeN p.seen ev = some j) := placeN_mem (HIN.out ev (by rw [HEV.out, List.getElem?_eq_getElem hlt, Option.getD_some]; exact List.getElem_mem hlt))
        have HJL : Hid (j < p.seen.length) := (List.getElem?_eq_some_iff.1 (placeN_some HJ.out)).1
        obtain ⟨y0, y1, y2, y3⟩ := SB.cells KS.out
        have hgd := run_guard_set
        cases hE : emptyB S with
        | true =>
          have heq : (Op.equalIn 10000 85 (.agg #[.int .u64 (S 0), .int .u64 (S 1), .int .u64 (S 2), .int .u64 (S 3)]) (.agg #[.int .u64 0, .int .u64 0, .int .u64 0, .int .u64 0])).run Tryd.prog wr = .ok true wr := by rw [← hE]; exact run_equalIn_set S wr
          have HEQ : Hid (rowS S = estL p word) := es_row HMM.out HES.out (.inl hE)
          clear hE
          go_wp2_with fail
          refine (rowO_any S _ HES.out.rep.1.ok (hT.out.below (B.out.trans (BV.out.mono B.out.size)) hT.out.lt)).mono ?_
          rintro e W9 ⟨v9, rfl, ov, hb⟩
          obtain ⟨R, HRr⟩ : ∃ R, Hid (R = rowS S) := ⟨_, rfl⟩
          rw [← HRr.out] at ov
          have OV := Hid.of (Own.low ov (Nat.le_trans B.out.size BV.out.size))
          have B9 := Hid.of (B.out.trans ((BV.out.trans (hb.mono BV.out.size)).mono B.out.size))
          clear ov hb
          go_wp2_with fail
          refine bodyPost_ret (v := .tuple #[v9, .int .i64 0]) (by simp [results, go_sem]) rfl ?_
          rw [HO.out, ← HEQ.out, ← HRr.out]
          exact ⟨v9, rfl, OV.out, B9.out⟩
        | false =>
          have heq : (Op.equalIn 10000 85 (.agg #[.int .u64 (S 0), .int .u64 (S 1), .int .u64 (S 2), .int .u64 (S 3)]) (.agg #[.int .u64 0, .int .u64 0, .int .u64 0, .int .u64 0])).run Tryd.prog wr = .ok false wr := by rw [← hE]; exact run_equalIn_set S wr
          have HN : Hid (ES p word (k + 1) (leadS p.seen.length (hideM p.m p.seen).arrows S j)) := es_next hp.out HES.out hlt HEV HJ
          have hcall := Hid.of (cwatch1_any p P S ev j HJ HJL.out H8.out H256.out (Hid.of HES.out.rep.1.ok) (Hid.of (all_lt HES.out.rep (est_cl HMM.out _))) pl pp L0 wr (Hid.of (hT.out.below (B.out.trans (BV.out.mono B.out.size)) hT.out.lt)) (Hid.of (HCL.out.kept BV.out)))
          obtain ⟨Q2, HQ2⟩ : ∃ Q2, Hid (Q2 = leadS p.seen.length (hideM p.m p.seen).arrows S j) := ⟨_, rfl⟩
          rw [← HQ2.out] at hcall HN
          clear hE
          go_wp2_with fail
          refine hcall.out.mono ?_
          rintro r w1 ⟨rfl, hb1⟩
          have BV1 := Hid.of (BV.out.trans (hb1.mono BV.out.size))
          have KS1 := Hid.of (KS.out.below hb1 KS.out.lt)
          clear hb1 y0 y1 y2 y3 heq hcall HSC
          obtain ⟨y0, y1, y2, y3⟩ := SB.cells KS1.out
          have yz := KS1.out.frozen
          have KS2 := Hid.of (SB.set4 KS1.out Q2)
          have BV2 := Hid.of (below_set4 BV1.out (b' := V1.heap.size) (Nat.le_refl _) (.int .u64 (Q2 0)) (.int .u64 (Q2 1)) (.int .u64 (Q2 2)) (.int .u64 (Q2 3)))
          go_wp2_with fail
          go_roundw
          case rel => exact ⟨k + 1, Q2, by go_num, by omega, HN, BV2, KS2⟩
          case measure => simp [intOf]; omega
      · have HEQ : Hid (rowS S = estL p word) := es_row HMM.out HES.out (.inr (by omega))
        obtain ⟨y0, y1, y2, y3⟩ := SB.cells KS.out
        go_wp2_with fail
        refine (rowO_any S _ HES.out.rep.1.ok (hT.out.below (B.out.trans (BV.out.mono B.out.size)) hT.out.lt)).mono ?_
        rintro e W9 ⟨v9, rfl, ov, hb⟩
        obtain ⟨R, HRr⟩ : ∃ R, Hid (R = rowS S) := ⟨_, rfl⟩
        rw [← HRr.out] at ov
        have OV := Hid.of (Own.low ov (Nat.le_trans B.out.size BV.out.size))
        have B9 := Hid.of (B.out.trans ((BV.out.trans (hb.mono BV.out.size)).mono B.out.size))
        clear ov hb
        go_wp2_with fail
        refine bodyPost_ret (v := .tuple #[v9, .int .i64 0]) (by simp [results, go_sem]) rfl ?_
        rw [HO.out, ← HEQ.out, ← HRr.out]
        exact ⟨v9, rfl, OV.out, B9.out⟩

theorem pEstO_any (p : Plant) (P : PTL) (wa : Option Addr) (wc : Nat) (word : List Int) (w : World) (h : PAt w p P) (hw : At w wa word) (hwl : word.length ≤ maxLen) (hT : Tab w) :
    Calls Tryd.prog 29 #[ptval p P, .slice wa word.length wc] w fun e w' => ListOwn w (estOut p word) e w' := by
  cases hp : mayP p with
  | false => exact est_bad p P wa wc word w (Hid.of h) (Hid.of hp)
  | true => exact est_ok p P wa wc word w (Hid.of h) (Hid.of hw) (Hid.of hwl) (Hid.of hT) (Hid.of hp)
theorem pEst_any (p : Plant) (P : PTL) (wa : Option Addr) (wc : Nat) (word : List Int) (w : World) (h : PAt w p P) (hw : At w wa word) (hwl : word.length ≤ maxLen) (hT : Tab w) :
    Calls Tryd.prog 29 #[ptval p P, .slice wa word.length wc] w fun e w' => ListPost w (estOut p word) e w' :=
  (pEstO_any p P wa wc word w h hw hwl hT).mono fun _ _ h => h.post

end Go.Proofs.YtmlkpdeidpcidaaDoor
