/-
  The walk of hide.Seen: what is seen of a word.
  machine.leader, of whatever machine may be.
  The walks of machine.isWord, of its closure, and of slices.ContainsFunc and slices.IndexFunc at it.
  The walk of machine.after: where a word leads, as a set; or what is wrong.
-/
import Derived.Test.YtialjbdfkhfcoabDoorG25
import Derived.Test.YtialjbdfkhfcoabDoorG05
import Derived.Test.YtialjbdfkhfcoabDoorG16
import Derived.Test.YtialjbdfkhfcoabDoorCLead
import Derived.Test.YtialjbdfkhfcoabDoorG03
import Derived.Test.YtialjbdfkhfcoabDoorCLead1
import Derived.Test.YtialjbdfkhfcoabDoorG21
import Derived.Test.YtialjbdfkhfcoabDoorCSetEq
import Derived.Laws.ResultCell
namespace Go.Proofs.YtialjbdfkhfcoabDoor
open Go.RowKit
set_option linter.unusedVariables false

theorem hasB_perm {S xs : List Int} (h : ∀ x, x ∈ S ↔ x ∈ xs) (x : Int) : hasB S x = hasB xs x := by
  have := h x
  cases h1 : hasB S x <;> cases h2 : hasB xs x <;> simp_all [hasB]

set_option maxHeartbeats 2000000 in
set_option maxRecDepth 100000 in
theorem pSeen_some (bx ox cx cy : Nat) (ay : Option Addr) (xs ys : List Int) (w : World) (hl : xs.length ≤ 17592186044416) (hbx : bx < w.heap.size) (hc : Cells w bx ox xs) (ht : Hid (At w ay ys)) (hm : Hid (ys.length ≤ 17592186044416)) :
    Calls Tryd.prog 11 #[.slice (some ⟨bx, ox, none⟩) xs.length cx, .slice ay ys.length cy] w fun e w' => ∃ v, e = .returned v ∧ Own w' w.heap.size v (seenL ys xs) ∧ Below w.heap.size w w' := by
  obtain ⟨i0, hi, hz0, hz1, hz2⟩ := info_parts Tryd.infoInt
  go_enter Tryd.func11, Tryd.ntmps11
  go_wp2_with fail
  refine (clone_any ay cy ys _ ht.out hm.out).mono ?_
  rintro e w1 ⟨sv, rfl, hs1, hb1⟩
  have S1 := Hid.of hs1
  have B1 := Hid.of hb1
  clear hs1 hb1
  go_wp2_with fail
  refine (sortI_any _ _ sv ys S1.out hm.out).mono ?_
  rintro e W0 ⟨rfl, S, hSl, hSm, hSs, hSo, hb2⟩
  have B2 : Hid (Below w.heap.size w W0) := hb2 _ _ (Nat.le_refl _) B1.out
  have HM : Hid (∀ x, hasB S x = hasB ys x) := fun x => hasB_perm hSm x
  have HS := Hid.of hSs
  have HL : Hid (S.length ≤ 17592186044416) := by show _ ≤ _; rw [hSl]; exact hm.out
  obtain ⟨sa, sc, rfl, hat, -⟩ := hSo.at
  have HA := Hid.of hat
  clear hSl hSm hSs hSo hb2 hat S1 B1
  go_wp2
  go_loopw [6, 17] (fun v i wr => ∃ k : Nat, k ≤ xs.length ∧ i = .int .i64 k ∧ Own wr W0.heap.size v (onlyTo xs ys true k) ∧ Below W0.heap.size W0 wr) (fun _ i _ => xs.length - (intOf i).toNat)
  case atStart => exact ⟨0, Nat.zero_le _, rfl, own_nil _ _, Below.refl _ _⟩
  case round =>
    obtain ⟨k, hk, rfl, hown, hbel⟩ := hrel
    by_cases hlt : k < xs.length
    · obtain ⟨x, HX, hcx0⟩ := hc.at hlt
      have hcx1 : W0.cell? ⟨bx, ox + k, none⟩ = some (.int .i64 x) := (B2.out.cell (p := ⟨bx, ox + k, none⟩) hbx).trans hcx0
      have hcx : wr.cell? ⟨bx, ox + k, none⟩ = some (.int .i64 x) := (hbel.cell (p := ⟨bx, ox + k, none⟩) (Nat.lt_of_lt_of_le hbx B2.out.size)).trans hcx1
      clear hcx0 hcx1
      have HT : Hid (At wr sa S) := HA.out.below hbel (Nat.le_refl _)
      have hsz := hbel.size
      have hll := onlyTo_len xs ys true k
      go_wp2_with fail
      refine (searchI_any sa sc S x _ HT.out HL.out HS.out).mono ?_
      rintro e w' ⟨⟨n0, rfl⟩, q, rfl⟩
      rw [HM.out x]
      have hownq : Own (wr.drewN q) W0.heap.size u6 (onlyTo xs ys true k) := hown
      have hbelq : Below W0.heap.size W0 (wr.drewN q) := below_drewN hbel q
      have hszq : W0.heap.size ≤ (wr.drewN q).heap.size := hsz
      by_cases hh : hasB ys x = true
      · have HH : Hid (hasB ys x = true) := hh
        clear hown hbel hsz
        rw [hh]
        clear hh
        generalize wr.drewN q = wq at *
        go_wp2_with (at_builtin; refine wpList_append_own _ rfl _ _ 22 rfl W0.heap.size 3 i0 (.int .i64 0) 1 8 Tryd.underlying22 hi hz0 hz1 hz2 rfl (by decide) _ _ _ rfl (World.ownsRow.alloc hownq _) ⟨wq.heap.size, 0, none⟩ 1 1 [.int .i64 x] rfl rfl (cell_one_new _ _ _) (by intro u hu; simp at hu; subst hu; rfl) (by unfold maxLen; omega) (by omega) (by simp; omega) ?_)
        intro v' w1 hown' hgrow _
        obtain ⟨r1, r2, -⟩ := own_snoc hownq hbelq hszq hown' hgrow
        rw [← onlyTo_hit hlt HX HH.out] at r1
        clear hown' hgrow hownq hcx
        go_wp2
        go_roundw
        case rel => exact ⟨k + 1, by omega, by go_num, r1, r2⟩
        case measure => simp [intOf]; omega
      · have hh : hasB ys x = false := by simpa using hh
        have r1 := hownq
        rw [← onlyTo_miss (b := true) hlt HX (by rw [hh]; simp)] at r1
        rw [hh]
        clear hown hbel hsz hownq hh
        generalize wr.drewN q = wq at *
        go_wp2
        go_roundw
        case rel => exact ⟨k + 1, by omega, by go_num, r1, hbelq⟩
        case measure => simp [intOf]; omega
    · rw [onlyTo_all ys true hlt] at hown
      go_wp2
      go_ret
      exact ⟨_, rfl, Own.low hown B2.out.size, B2.out.trans (hbel.mono B2.out.size)⟩

set_option maxHeartbeats 1000000 in
theorem pSeen_nil (ax : Option Addr) (cx cy : Nat) (ay : Option Addr) (ys : List Int) (w : World) (ht : Hid (At w ay ys)) (hm : Hid (ys.length ≤ 17592186044416)) :
    Calls Tryd.prog 11 #[.slice ax 0 cx, .slice ay ys.length cy] w fun e w' => e = .returned (.slice none 0 0) ∧ Below w.heap.size w w' := by
  go_enter Tryd.func11, Tryd.ntmps11
  go_wp2_with fail
  refine (clone_any ay cy ys _ ht.out hm.out).mono ?_
  rintro e w1 ⟨sv, rfl, hs1, hb1⟩
  have S1 := Hid.of hs1
  have B1 := Hid.of hb1
  clear hs1 hb1
  go_wp2_with fail
  refine (sortI_any _ _ sv ys S1.out hm.out).mono ?_
  rintro e W0 ⟨rfl, S, hSl, hSm, hSs, hSo, hb2⟩
  have B2 : Hid (Below w.heap.size w W0) := hb2 _ _ (Nat.le_refl _) B1.out
  clear hSl hSm hSs hSo hb2 S1 B1
  go_wp2
  refine wp_loop_rounds 1 ?_
  rw [rounds_succ]
  go_wp2
  go_ret
  exact ⟨rfl, B2.out⟩

theorem pSeen_any (ax ay : Option Addr) (cx cy : Nat) (xs ys : List Int) (w : World) (hs : At w ax xs) (hl : xs.length ≤ 17592186044416) (ht : At w ay ys) (hm : ys.length ≤ 17592186044416) :
    Calls Tryd.prog 11 #[.slice ax xs.length cx, .slice ay ys.length cy] w fun e w' => ∃ v, e = .returned v ∧ Own w' w.heap.size v (seenL ys xs) ∧ Below w.heap.size w w' := by
  rcases hs with rfl | ⟨b, off, rfl, hb, hc⟩
  · refine (pSeen_nil ax cx cy ay ys w (Hid.of ht) (Hid.of hm)).mono ?_
    rintro e w' ⟨rfl, hb⟩
    exact ⟨_, rfl, own_nil _ _, hb⟩
  · exact pSeen_some b off cx cy ay xs ys w hl hb hc (Hid.of ht) (Hid.of hm)

end Go.Proofs.YtialjbdfkhfcoabDoor
namespace Go.Proofs.YtialjbdfkhfcoabDoor
open Go.RowKit
set_option linter.unusedVariables false

set_option maxRecDepth 100000 in
set_option maxHeartbeats 4000000 in
theorem leader_none (st ev : Nat) (starts ends : List Int) (l : ML) (w : World) (hst : st ≤ 256) (hev : ev ≤ 8) :
    Calls Tryd.prog 57 #[mval ⟨st, ev, starts, [], ends⟩ l] w fun e w' => e = .returned (.func (.func 83) #[] #[.pointer (some ⟨w.heap.size + 2, 0, none⟩), .pointer (some ⟨w.heap.size, 0, none⟩)]) ∧ LD w' (w.heap.size + 2) (w.heap.size + 1) w.heap.size ⟨st, ev, starts, [], ends⟩ l (st * ev) (tabS ev []) ∧ Below w.heap.size w w' := by
  obtain ⟨i0, hi, hz0, hz1, hz2⟩ := info_parts Tryd.infoSet
  have hmf : ∀ (fn : Fn) (first cap : Array Value) (w : World), (Instr.makeFunc fn first cap).run Tryd.prog w = .ok (.func fn first cap) w := fun _ _ _ _ => rfl
  have hN : st * ev ≤ 2048 := Nat.mul_le_mul hst hev
  obtain ⟨N, HN⟩ : ∃ N, Hid (N = st * ev) := ⟨_, rfl⟩
  rw [← HN.out] at hN ⊢
  have hw0 : IntKind.i64.wrap ((st : Int) * (ev : Int)) = (N : Int) := by rw [IntKind.wrap_i64, ← Int.natCast_mul, ← HN.out]; omega
  have hmk : ∀ w : World, (Instr.makeSlice 71 (.int .i64 N) (.int .i64 N)).run Tryd.prog w = .ok (.slice (some ⟨w.heap.size, 0, none⟩) N N) (w.alloc (.cells (madeCells #[.int .u64 0, .int .u64 0, .int .u64 0, .int .u64 0] (N * 4)) 46)) := fun w => by
    have := run_make (P := Tryd.prog) w 71 46 i0 (sval zeroS) Tryd.underlying71 hi hz0 .i64 .i64 N N (by omega) (by omega) (by rw [hz2]; omega) (by omega)
    rw [hz1, Int.toNat_natCast] at this
    exact this
  clear hi hz0 hz1 hz2
  go_enter Tryd.func57, Tryd.ntmps57
  go_wp2
  refine wp_loop_rounds 1 ?_
  rw [rounds_succ]
  go_wp2
  go_ret
  refine ⟨rfl, ⟨?_, TB.made ?_, ((Blk.new w _ _).alloc _).alloc _⟩, (((Below.refl _ _).alloc (Nat.le_refl _) _).alloc (by simp) _).alloc (by simp; omega) _⟩
  · have := Boxed.new ((w.alloc (.cells (mcells ⟨st, ev, starts, [], ends⟩ l) 25)).alloc (.cells (madeCells #[.int .u64 0, .int .u64 0, .int .u64 0, .int .u64 0] (N * 4)) 46)) 71 (.slice (some ⟨w.heap.size + 1, 0, none⟩) N N)
    rwa [World.size_alloc, World.size_alloc] at this
  · have := (Blk.new (w.alloc (.cells (mcells ⟨st, ev, starts, [], ends⟩ l) 25)) 46 (madeCells #[.int .u64 0, .int .u64 0, .int .u64 0, .int .u64 0] (N * 4))).alloc (.cells #[.slice (some ⟨w.heap.size + 1, 0, none⟩) N N] 71)
    rwa [World.size_alloc] at this

/-- What machine.leader answers, of what may be. -/
theorem leader_any (m : Mach) (l : ML) (w : World) (hm : mayB m = true) (h : MAt w m l) :
    Calls Tryd.prog 57 #[mval m l] w fun e w' => e = .returned (.func (.func 83) #[] #[.pointer (some ⟨w.heap.size + 2, 0, none⟩), .pointer (some ⟨w.heap.size, 0, none⟩)]) ∧ LD w' (w.heap.size + 2) (w.heap.size + 1) w.heap.size m l (m.st.toNat * m.ev.toNat) (tabS m.ev.toNat m.arrows) ∧ Below w.heap.size w w' := by
  have hz := mayB_size hm
  have ha := arrsFrom_in (mayB_arrs hm)
  obtain ⟨st, ev, starts, arrows, ends⟩ := m
  obtain ⟨z1, z2, z3, z4, z5⟩ := hz
  simp only at z1 z2 z3 z4 z5 ha
  obtain ⟨s, rfl⟩ : ∃ s : Nat, st = (s : Int) := ⟨st.toNat, by omega⟩
  obtain ⟨e, rfl⟩ : ∃ e : Nat, ev = (e : Int) := ⟨ev.toNat, by omega⟩
  obtain ⟨a1, c1, a2, c2, a3, c3⟩ := l
  simp only [Int.toNat_natCast]
  rcases h.a with h0 | ⟨b, off, h0, hb, hc⟩
  · have h0 : arrows = [] := h0
    subst h0
    exact leader_none s e starts ends _ w (by omega) (by omega)
  · have h0 : a2 = some ⟨b, off, none⟩ := h0
    subst h0
    exact leader_some s e starts arrows ends a1 c1 b off c2 a3 c3 w (by omega) (by omega) z5 hb hc ha

end Go.Proofs.YtialjbdfkhfcoabDoor
namespace Go.Proofs.YtialjbdfkhfcoabDoor
open Go.RowKit
set_option linter.unusedVariables false

set_option maxHeartbeats 400000 in
theorem isWord1_any (ev n : Int) (pf pb : Nat) (w : World) (h1 : w.cell? ⟨pf, 0, none⟩ = some (.func (.func 78) #[] #[.pointer (some ⟨pb, 0, none⟩)])) (h2 : w.cell? ⟨pb, 0, none⟩ = some (.int .i64 ev)) :
    Calls Tryd.prog 82 #[.int .i64 n, .pointer (some ⟨pf, 0, none⟩)] w fun e w' => e = .returned (.bool (!inB ev n)) ∧ w' = w := by
  go_enter Tryd.func82, Tryd.ntmps82
  go_wp2_with (go_at_call 78; refine (within1_any ev n pb _ h2).mono ?_; rintro e w1 ⟨rfl, rfl⟩)
  go_ret
  exact ⟨rfl, rfl⟩

set_option maxHeartbeats 1000000 in
theorem indexFunc_some (ev : Int) (pf pb b off cap : Nat) (xs : List Int) (w : World) (hl : xs.length ≤ 9223372036854775807) (hc : Cells w b off xs) (h1 : w.cell? ⟨pf, 0, none⟩ = some (.func (.func 78) #[] #[.pointer (some ⟨pb, 0, none⟩)])) (h2 : w.cell? ⟨pb, 0, none⟩ = some (.int .i64 ev)) :
    Calls Tryd.prog 101 #[.slice (some ⟨b, off, none⟩) xs.length cap, .func (.func 82) #[] #[.pointer (some ⟨pf, 0, none⟩)]] w fun e w' => ∃ r : Int, e = .returned (.int .i64 r) ∧ decide (0 ≤ r) = !wordB ev xs ∧ w' = w := by
  have H1 := Hid.of h1
  have H2 := Hid.of h2
  clear h1 h2
  go_enter Tryd.func101, Tryd.ntmps101
  go_wp2
  go_loop [8] (fun i => ∃ k : Nat, k ≤ xs.length ∧ i = .int .i64 k ∧ Hid (wordB ev xs = wordB ev (xs.drop k))) (fun i => xs.length - (intOf i).toNat)
  case atStart => exact ⟨0, Nat.zero_le _, rfl, rfl⟩
  case round =>
    obtain ⟨k, hk, rfl, he⟩ := hrel
    by_cases hlt : k < xs.length
    · obtain ⟨x, HX, hcx⟩ := hc.at hlt
      by_cases hi : inB ev x = true
      · have HI := Hid.of hi
        go_wp2_with (go_at_call 82; refine (isWord1_any ev x pf pb _ H1.out H2.out).mono ?_; rintro e w1 ⟨rfl, rfl⟩)
        go_round
        case rel => exact ⟨k + 1, by omega, by go_num, word_yes hlt HX he (by have := of_decide_eq_true HI.out; omega)⟩
        case measure => simp [intOf]; omega
      · have hi : inB ev x = false := by simpa using hi
        have HI := Hid.of hi
        go_wp2_with (go_at_call 82; refine (isWord1_any ev x pf pb _ H1.out H2.out).mono ?_; rintro e w1 ⟨rfl, rfl⟩)
        go_ret
        exact ⟨_, rfl, by rw [← word_no hlt HX he (by have := of_decide_eq_false HI.out; omega)]; simp, rfl⟩
    · go_wp2
      go_ret
      exact ⟨_, rfl, by rw [← word_end hlt he]; simp, rfl⟩

set_option maxHeartbeats 400000 in
theorem indexFunc_nil (ev : Int) (a : Option Addr) (cap : Nat) (f : Value) (w : World) :
    Calls Tryd.prog 101 #[.slice a 0 cap, f] w fun e w' => ∃ r : Int, e = .returned (.int .i64 r) ∧ decide (0 ≤ r) = !wordB ev [] ∧ w' = w := by
  go_enter Tryd.func101, Tryd.ntmps101
  go_wp2
  refine wp_loop_rounds 1 ?_
  rw [rounds_succ]
  go_wp2
  go_ret
  exact ⟨_, rfl, rfl, rfl⟩

theorem indexFunc_any (ev : Int) (pf pb cap : Nat) (a : Option Addr) (xs : List Int) (w : World) (hs : At w a xs) (hl : xs.length ≤ maxLen) (h1 : w.cell? ⟨pf, 0, none⟩ = some (.func (.func 78) #[] #[.pointer (some ⟨pb, 0, none⟩)])) (h2 : w.cell? ⟨pb, 0, none⟩ = some (.int .i64 ev)) :
    Calls Tryd.prog 101 #[.slice a xs.length cap, .func (.func 82) #[] #[.pointer (some ⟨pf, 0, none⟩)]] w fun e w' => ∃ r : Int, e = .returned (.int .i64 r) ∧ decide (0 ≤ r) = !wordB ev xs ∧ w' = w := by
  rcases hs with rfl | ⟨b, off, rfl, hb, hc⟩
  · exact indexFunc_nil ev a cap _ w
  · exact indexFunc_some ev pf pb b off cap xs w hl hc h1 h2

set_option maxHeartbeats 400000 in
theorem containsFunc_any (ev : Int) (pf pb cap : Nat) (a : Option Addr) (xs : List Int) (w : World) (hs : At w a xs) (hl : xs.length ≤ maxLen) (h1 : w.cell? ⟨pf, 0, none⟩ = some (.func (.func 78) #[] #[.pointer (some ⟨pb, 0, none⟩)])) (h2 : w.cell? ⟨pb, 0, none⟩ = some (.int .i64 ev)) :
    Calls Tryd.prog 81 #[.slice a xs.length cap, .func (.func 82) #[] #[.pointer (some ⟨pf, 0, none⟩)]] w fun e w' => e = .returned (.bool (!wordB ev xs)) ∧ w' = w := by
  have H := Hid.of (indexFunc_any ev pf pb cap a xs w hs hl h1 h2)
  clear h1 h2 hs hl
  go_enter Tryd.func81, Tryd.ntmps81
  go_wp2_with (go_at_call 101; refine H.out.mono ?_; rintro e w1 ⟨r, rfl, hr, rfl⟩; have HR := Hid.of hr; clear hr)
  go_ret
  exact ⟨ret_bool HR.out, rfl⟩

set_option maxHeartbeats 1000000 in
theorem isWord_any (m : Mach) (l : ML) (cap : Nat) (a : Option Addr) (xs : List Int) (w : World) (hs : At w a xs) (hl : xs.length ≤ maxLen) :
    Calls Tryd.prog 56 #[mval m l, .slice a xs.length cap] w fun e w' => e = .returned (.bool (wordB m.ev xs)) ∧ Below w.heap.size w w' := by
  have hmf : ∀ (fn : Fn) (first cap : Array Value) (w : World), (Instr.makeFunc fn first cap).run Tryd.prog w = .ok (.func fn first cap) w := fun _ _ _ _ => rfl
  have HS := Hid.of hs
  have HL := Hid.of hl
  clear hs hl
  go_enter Tryd.func56, Tryd.ntmps56
  go_wp2_with (first | (go_at_call 54; refine (within_any _ _).mono ?_; rintro e w1 ⟨rfl, rfl⟩))
  have hB : Below w.heap.size w (((w.alloc (.cells (mcells m l) 25)).alloc (.cells #[.int .i64 m.ev] 3)).alloc (.cells #[.func (.func 78) #[] #[.pointer (some ⟨w.heap.size + 1, 0, none⟩)]] 89)) := (((Below.refl _ _).alloc (Nat.le_refl _) _).alloc (by simp) _).alloc (by simp; omega) _
  have f1 : (((w.alloc (.cells (mcells m l) 25)).alloc (.cells #[.int .i64 m.ev] 3)).alloc (.cells #[.func (.func 78) #[] #[.pointer (some ⟨w.heap.size + 1, 0, none⟩)]] 89)).cell? ⟨w.heap.size + 1 + 1, 0, none⟩ = some (.func (.func 78) #[] #[.pointer (some ⟨w.heap.size + 1, 0, none⟩)]) := by
    have := (Boxed.new ((w.alloc (.cells (mcells m l) 25)).alloc (.cells #[.int .i64 m.ev] 3)) 89 (.func (.func 78) #[] #[.pointer (some ⟨w.heap.size + 1, 0, none⟩)])).cell
    rwa [World.size_alloc, World.size_alloc] at this
  have f2 : (((w.alloc (.cells (mcells m l) 25)).alloc (.cells #[.int .i64 m.ev] 3)).alloc (.cells #[.func (.func 78) #[] #[.pointer (some ⟨w.heap.size + 1, 0, none⟩)]] 89)).cell? ⟨w.heap.size + 1, 0, none⟩ = some (.int .i64 m.ev) := by
    have := ((Boxed.new (w.alloc (.cells (mcells m l) 25)) 3 (.int .i64 m.ev)).alloc (.cells #[.func (.func 78) #[] #[.pointer (some ⟨w.heap.size + 1, 0, none⟩)]] 89)).cell
    rwa [World.size_alloc] at this
  refine (containsFunc_any m.ev (w.heap.size + 1 + 1) (w.heap.size + 1) cap a xs _ (HS.out.below hB (Nat.le_refl _)) HL.out f1 f2).mono ?_
  have HB := Hid.of hB
  clear f1 f2 hB
  rintro e w1 ⟨rfl, rfl⟩
  go_wp2
  go_ret
  exact ⟨ret_bool (by simp), HB.out⟩

end Go.Proofs.YtialjbdfkhfcoabDoor
namespace Go.Proofs.YtialjbdfkhfcoabDoor
open Go.RowKit
set_option linter.unusedVariables false

/-- What is wrong (B2): 2: ErrForm, 6: ErrRange, 0: nothing. -/
def errA (m : Mach) (ss word : List Int) : Int := if mayB m = true ∧ rowB m.st ss = true then (if wordB m.ev word = true then 0 else 6) else 2

theorem results_set {fn : Func} {p u : Tmp} (h : fn.results = #[.cell p 46, .tmp u]) (tmps : Array Value) (w : World) (g : Nat) (S : Nat → Nat) (c : Int) (hp : tmps.getD p undef = .pointer (some ⟨g, 0, none⟩)) (hu : tmps.getD u undef = .int .i64 c) (hS : SB w g S) :
    (results fn tmps).run Tryd.prog w = .ok (.tuple #[sval S, .int .i64 c]) w := by
  rw [results_cell_tmp h, hp, hu]
  have := run_loadVar_row w g 46 46 (scells S) (0, 0) _ hS Tryd.underlying46 rfl (by kernel_rfl)
  simp [asAddr, this, Result.andThen]

theorem mcell_of {W : World} {b : Nat} {m : Mach} {l : ML} (h : Blk W b 25 (mcells m l)) : W.cell? ⟨b, 0, none⟩ = some (.int .i64 m.st) ∧ W.cell? ⟨b, 1, none⟩ = some (.int .i64 m.ev) ∧ W.cell? ⟨b, 2, none⟩ = some (.slice l.a1 m.starts.length l.c1) ∧ W.cell? ⟨b, 3, none⟩ = some (.slice l.a2 m.arrows.length l.c2) ∧ W.cell? ⟨b, 4, none⟩ = some (.slice l.a3 m.ends.length l.c3) :=
  ⟨h.cell 0 rfl, h.cell 1 rfl, h.cell 2 rfl, h.cell 3 rfl, h.cell 4 rfl⟩

set_option maxRecDepth 100000 in
set_option maxHeartbeats 4000000 in
theorem after_form1 (m : Mach) (l : ML) (sa wa : Option Addr) (sc wc : Nat) (ss word : List Int) (w : World) (h : MAt w m l) (hm : Hid (mayB m = false)) :
    Calls Tryd.prog 26 #[mval m l, .slice sa ss.length sc, .slice wa word.length wc] w fun e w' => e = .returned (.tuple #[sval zeroS, .int .i64 2]) ∧ Below w.heap.size w w' := by
  have b1 : SB ((w.alloc (.cells (mcells m l) 25)).alloc (.cells (scells zeroS) 46)) (w.heap.size + 1) zeroS := by
    have := Blk.new (w.alloc (.cells (mcells m l) 25)) 46 (scells zeroS)
    rwa [World.size_alloc] at this
  have b0 : Below w.heap.size w ((w.alloc (.cells (mcells m l) 25)).alloc (.cells (scells zeroS) 46)) := ((Below.refl _ _).alloc (Nat.le_refl _) _).alloc (by simp) _
  have h' := Hid.of (h.below b0 (Nat.le_refl _))
  have B1 := Hid.of b1
  have B0 := Hid.of b0
  clear b0 b1
  go_enter Tryd.func26, Tryd.ntmps26
  go_wp2_with fail
  refine (pMay_any m l _ h'.out).mono ?_
  rintro e w1 ⟨rfl, hb1⟩
  rw [hm.out]
  have s1 := B1.out.below hb1 B1.out.lt
  obtain ⟨r0, r1, r2, r3⟩ := SB.cells s1
  have fz := s1.frozen
  have S1 := Hid.of s1
  have HB := Hid.of (B0.out.trans (hb1.mono B0.out.size))
  clear hb1 s1
  go_wp2
  refine bodyPost_ret (v := .tuple #[sval zeroS, .int .i64 2]) ?_ rfl ⟨rfl, below_set4 HB.out (b' := w.heap.size + 1) (by omega) _ _ _ _⟩
  exact results_set (p := 6) (u := 7) rfl _ _ (w.heap.size + 1) zeroS 2 rfl rfl (SB.set4 S1.out zeroS)

set_option maxRecDepth 100000 in
set_option maxHeartbeats 4000000 in
theorem after_form2 (m : Mach) (l : ML) (sa wa : Option Addr) (sc wc : Nat) (ss word : List Int) (w : World) (h : MAt w m l) (hm : Hid (mayB m = true)) (hs : Hid (At w sa ss)) (hl : Hid (ss.length ≤ maxLen)) (hr : Hid (rowB m.st ss = false)) :
    Calls Tryd.prog 26 #[mval m l, .slice sa ss.length sc, .slice wa word.length wc] w fun e w' => e = .returned (.tuple #[sval zeroS, .int .i64 2]) ∧ Below w.heap.size w w' := by
  have b1 : SB ((w.alloc (.cells (mcells m l) 25)).alloc (.cells (scells zeroS) 46)) (w.heap.size + 1) zeroS := by
    have := Blk.new (w.alloc (.cells (mcells m l) 25)) 46 (scells zeroS)
    rwa [World.size_alloc] at this
  have b0 : Below w.heap.size w ((w.alloc (.cells (mcells m l) 25)).alloc (.cells (scells zeroS) 46)) := ((Below.refl _ _).alloc (Nat.le_refl _) _).alloc (by simp) _
  have h' := Hid.of (h.below b0 (Nat.le_refl _))
  have B1 := Hid.of b1
  have B0 := Hid.of b0
  have K1 := Hid.of ((Blk.new w 25 (mcells m l)).alloc (.cells (scells zeroS) 46))
  clear b0 b1
  go_enter Tryd.func26, Tryd.ntmps26
  go_wp2_with fail
  refine (pMay_any m l _ h'.out).mono ?_
  rintro e w1 ⟨rfl, hb1⟩
  rw [hm.out]
  have s1 := B1.out.below hb1 B1.out.lt
  have k1 := K1.out.below hb1 K1.out.lt
  have x0 : w1.cell? ⟨w.heap.size, 0, none⟩ = some (.int .i64 m.st) := k1.cell 0 rfl
  obtain ⟨r0, r1, r2, r3⟩ := SB.cells s1
  have fz := s1.frozen
  have S1 := Hid.of s1
  have HB := Hid.of (B0.out.trans (hb1.mono B0.out.size))
  clear hb1 s1 k1
  go_wp2_with fail
  refine (rowIs_any sa sc ss m.st _ (hs.out.below HB.out (Nat.le_refl _)) hl.out).mono ?_
  rintro e w2 ⟨rfl, rfl⟩
  rw [hr.out]
  clear x0
  go_wp2
  refine bodyPost_ret (v := .tuple #[sval zeroS, .int .i64 2]) ?_ rfl ⟨rfl, below_set4 HB.out (b' := w.heap.size + 1) (by omega) _ _ _ _⟩
  exact results_set (p := 6) (u := 7) rfl _ _ (w.heap.size + 1) zeroS 2 rfl rfl (SB.set4 S1.out zeroS)

set_option maxRecDepth 100000 in
set_option maxHeartbeats 4000000 in
theorem after_range (m : Mach) (l : ML) (sa wa : Option Addr) (sc wc : Nat) (ss word : List Int) (w : World) (h : MAt w m l) (hm : Hid (mayB m = true)) (hs : Hid (At w sa ss)) (hl : Hid (ss.length ≤ maxLen)) (hr : Hid (rowB m.st ss = true)) (hv : Hid (At w wa word)) (hwl : Hid (word.length ≤ maxLen)) (hwd : Hid (wordB m.ev word = false)) :
    Calls Tryd.prog 26 #[mval m l, .slice sa ss.length sc, .slice wa word.length wc] w fun e w' => e = .returned (.tuple #[sval zeroS, .int .i64 6]) ∧ Below w.heap.size w w' := by
  have b1 : SB ((w.alloc (.cells (mcells m l) 25)).alloc (.cells (scells zeroS) 46)) (w.heap.size + 1) zeroS := by
    have := Blk.new (w.alloc (.cells (mcells m l) 25)) 46 (scells zeroS)
    rwa [World.size_alloc] at this
  have b0 : Below w.heap.size w ((w.alloc (.cells (mcells m l) 25)).alloc (.cells (scells zeroS) 46)) := ((Below.refl _ _).alloc (Nat.le_refl _) _).alloc (by simp) _
  have h' := Hid.of (h.below b0 (Nat.le_refl _))
  have B1 := Hid.of b1
  have B0 := Hid.of b0
  have K1 := Hid.of ((Blk.new w 25 (mcells m l)).alloc (.cells (scells zeroS) 46))
  clear b0 b1
  go_enter Tryd.func26, Tryd.ntmps26
  go_wp2_with fail
  refine (pMay_any m l _ h'.out).mono ?_
  rintro e w1 ⟨rfl, hb1⟩
  rw [hm.out]
  have s1 := B1.out.below hb1 B1.out.lt
  have k1 := K1.out.below hb1 K1.out.lt
  have x0 : w1.cell? ⟨w.heap.size, 0, none⟩ = some (.int .i64 m.st) := k1.cell 0 rfl
  obtain ⟨r0, r1, r2, r3⟩ := SB.cells s1
  have fz := s1.frozen
  have S1 := Hid.of s1
  have HB := Hid.of (B0.out.trans (hb1.mono B0.out.size))
  have K2 := Hid.of k1
  clear hb1 s1 k1
  go_wp2_with fail
  refine (rowIs_any sa sc ss m.st _ (hs.out.below HB.out (Nat.le_refl _)) hl.out).mono ?_
  rintro e w2 ⟨rfl, rfl⟩
  rw [hr.out]
  obtain ⟨x0', x1, x2, x3, x4⟩ := mcell_of K2.out
  go_wp2_with fail
  refine (isWord_any m l wc wa word _ (hv.out.below HB.out (Nat.le_refl _)) hwl.out).mono ?_
  rintro e w3 ⟨rfl, hb3⟩
  rw [hwd.out]
  clear x0 x0' x1 x2 x3 x4 r0 r1 r2 r3 fz
  have s3 := S1.out.below hb3 S1.out.lt
  obtain ⟨r0, r1, r2, r3⟩ := SB.cells s3
  have fz := s3.frozen
  have S3 := Hid.of s3
  have HB3 := Hid.of (HB.out.trans (hb3.mono HB.out.size))
  clear hb3 s3
  go_wp2
  refine bodyPost_ret (v := .tuple #[sval zeroS, .int .i64 6]) ?_ rfl ⟨rfl, below_set4 HB3.out (b' := w.heap.size + 1) (by omega) _ _ _ _⟩
  exact results_set (p := 6) (u := 7) rfl _ _ (w.heap.size + 1) zeroS 6 rfl rfl (SB.set4 S3.out zeroS)

end Go.Proofs.YtialjbdfkhfcoabDoor
