/-
  The walks of machine.isWord, of its closure, and of slices.ContainsFunc and slices.IndexFunc at it.
  The walk of machine.after: where a word leads, as a set; or what is wrong.
-/
import Derived.Test.YtbdkaobbfmgnhaaDoorH09
import Derived.Test.YtbdkaobbfmgnhaaDoorH05
import Derived.Laws.ResultCell
import Derived.Test.YtbdkaobbfmgnhaaDoorH18
import Derived.Test.YtbdkaobbfmgnhaaDoorH16
namespace Go.Proofs.YtbdkaobbfmgnhaaDoor
open Go.RowKit
set_option linter.unusedVariables false

set_option maxHeartbeats 400000 in
theorem isWord1_any (ev n : Int) (pf pb : Nat) (w : World) (h1 : w.cell? ⟨pf, 0, none⟩ = some (.func (.func 121) #[] #[.pointer (some ⟨pb, 0, none⟩)])) (h2 : w.cell? ⟨pb, 0, none⟩ = some (.int .i64 ev)) :
    Calls Tryd.prog 125 #[.int .i64 n, .pointer (some ⟨pf, 0, none⟩)] w fun e w' => e = .returned (.bool (!inB ev n)) ∧ w' = w := by
  go_enter Tryd.func125, Tryd.ntmps125
  go_wp2_with (go_at_call 121; refine (within1_any ev n pb _ h2).mono ?_; rintro e w1 ⟨rfl, rfl⟩)
  go_ret
  exact ⟨rfl, rfl⟩

set_option maxHeartbeats 1000000 in
theorem indexFunc_some (ev : Int) (pf pb b off cap : Nat) (xs : List Int) (w : World) (hl : xs.length ≤ 9223372036854775807) (hc : Cells w b off xs) (h1 : w.cell? ⟨pf, 0, none⟩ = some (.func (.func 121) #[] #[.pointer (some ⟨pb, 0, none⟩)])) (h2 : w.cell? ⟨pb, 0, none⟩ = some (.int .i64 ev)) :
    Calls Tryd.prog 148 #[.slice (some ⟨b, off, none⟩) xs.length cap, .func (.func 125) #[] #[.pointer (some ⟨pf, 0, none⟩)]] w fun e w' => ∃ r : Int, e = .returned (.int .i64 r) ∧ decide (0 ≤ r) = !wordB ev xs ∧ w' = w := by
  have H1 := Hid.of h1
  have H2 := Hid.of h2
  clear h1 h2
  go_enter Tryd.func148, Tryd.ntmps148
  go_wp2
  go_loop [8] (fun i => ∃ k : Nat, k ≤ xs.length ∧ i = .int .i64 k ∧ Hid (wordB ev xs = wordB ev (xs.drop k))) (fun i => xs.length - (intOf i).toNat)
  case atStart => exact ⟨0, Nat.zero_le _, rfl, rfl⟩
  case round =>
    obtain ⟨k, hk, rfl, he⟩ := hrel
    by_cases hlt : k < xs.length
    · obtain ⟨x, HX, hcx⟩ := hc.at hlt
      by_cases hi : inB ev x = true
      · have HI := Hid.of hi
        go_wp2_with (go_at_call 125; refine (isWord1_any ev x pf pb _ H1.out H2.out).mono ?_; rintro e w1 ⟨rfl, rfl⟩)
        go_round
        case rel => exact ⟨k + 1, by omega, by go_num, word_yes hlt HX he (by have := of_decide_eq_true HI.out; omega)⟩
        case measure => simp [intOf]; omega
      · have hi : inB ev x = false := by simpa using hi
        have HI := Hid.of hi
        go_wp2_with (go_at_call 125; refine (isWord1_any ev x pf pb _ H1.out H2.out).mono ?_; rintro e w1 ⟨rfl, rfl⟩)
        go_ret
        exact ⟨_, rfl, by rw [← word_no hlt HX he (by have := of_decide_eq_false HI.out; omega)]; simp, rfl⟩
    · go_wp2
      go_ret
      exact ⟨_, rfl, by rw [← word_end hlt he]; simp, rfl⟩

set_option maxHeartbeats 400000 in
theorem indexFunc_nil (ev : Int) (a : Option Addr) (cap : Nat) (f : Value) (w : World) :
    Calls Tryd.prog 148 #[.slice a 0 cap, f] w fun e w' => ∃ r : Int, e = .returned (.int .i64 r) ∧ decide (0 ≤ r) = !wordB ev [] ∧ w' = w := by
  go_enter Tryd.func148, Tryd.ntmps148
  go_wp2
  refine wp_loop_rounds 1 ?_
  rw [rounds_succ]
  go_wp2
  go_ret
  exact ⟨_, rfl, rfl, rfl⟩

theorem indexFunc_any (ev : Int) (pf pb cap : Nat) (a : Option Addr) (xs : List Int) (w : World) (hs : At w a xs) (hl : xs.length ≤ maxLen) (h1 : w.cell? ⟨pf, 0, none⟩ = some (.func (.func 121) #[] #[.pointer (some ⟨pb, 0, none⟩)])) (h2 : w.cell? ⟨pb, 0, none⟩ = some (.int .i64 ev)) :
    Calls Tryd.prog 148 #[.slice a xs.length cap, .func (.func 125) #[] #[.pointer (some ⟨pf, 0, none⟩)]] w fun e w' => ∃ r : Int, e = .returned (.int .i64 r) ∧ decide (0 ≤ r) = !wordB ev xs ∧ w' = w := by
  rcases hs with rfl | ⟨b, off, rfl, hb, hc⟩
  · exact indexFunc_nil ev a cap _ w
  · exact indexFunc_some ev pf pb b off cap xs w hl hc h1 h2

set_option maxHeartbeats 400000 in
theorem containsFunc_any (ev : Int) (pf pb cap : Nat) (a : Option Addr) (xs : List Int) (w : World) (hs : At w a xs) (hl : xs.length ≤ maxLen) (h1 : w.cell? ⟨pf, 0, none⟩ = some (.func (.func 121) #[] #[.pointer (some ⟨pb, 0, none⟩)])) (h2 : w.cell? ⟨pb, 0, none⟩ = some (.int .i64 ev)) :
    Calls Tryd.prog 124 #[.slice a xs.length cap, .func (.func 125) #[] #[.pointer (some ⟨pf, 0, none⟩)]] w fun e w' => e = .returned (.bool (!wordB ev xs)) ∧ w' = w := by
  have H := Hid.of (indexFunc_any ev pf pb cap a xs w hs hl h1 h2)
  clear h1 h2 hs hl
  go_enter Tryd.func124, Tryd.ntmps124
  go_wp2_with (go_at_call 148; refine H.out.mono ?_; rintro e w1 ⟨r, rfl, hr, rfl⟩; have HR := Hid.of hr; clear hr)
  go_ret
  exact ⟨ret_bool HR.out, rfl⟩

set_option maxHeartbeats 1000000 in
theorem isWord_any (m : Mach) (l : ML) (cap : Nat) (a : Option Addr) (xs : List Int) (w : World) (hs : At w a xs) (hl : xs.length ≤ maxLen) :
    Calls Tryd.prog 93 #[mval m l, .slice a xs.length cap] w fun e w' => e = .returned (.bool (wordB m.ev xs)) ∧ Below w.heap.size w w' := by
  have hmf : ∀ (fn : Fn) (first cap : Array Value) (w : World), (Instr.makeFunc fn first cap).run Tryd.prog w = .ok (.func fn first cap) w := fun _ _ _ _ => rfl
  have HS := Hid.of hs
  have HL := Hid.of hl
  clear hs hl
  go_enter Tryd.func93, Tryd.ntmps93
  go_wp2_with (first | (go_at_call 91; refine (within_any _ _).mono ?_; rintro e w1 ⟨rfl, rfl⟩))
  have hB : Below w.heap.size w (((w.alloc (.cells (mcells m l) 25)).alloc (.cells #[.int .i64 m.ev] 3)).alloc (.cells #[.func (.func 121) #[] #[.pointer (some ⟨w.heap.size + 1, 0, none⟩)]] 120)) := (((Below.refl _ _).alloc (Nat.le_refl _) _).alloc (by simp) _).alloc (by simp; omega) _
  have f1 : (((w.alloc (.cells (mcells m l) 25)).alloc (.cells #[.int .i64 m.ev] 3)).alloc (.cells #[.func (.func 121) #[] #[.pointer (some ⟨w.heap.size + 1, 0, none⟩)]] 120)).cell? ⟨w.heap.size + 1 + 1, 0, none⟩ = some (.func (.func 121) #[] #[.pointer (some ⟨w.heap.size + 1, 0, none⟩)]) := by
    have := (Boxed.new ((w.alloc (.cells (mcells m l) 25)).alloc (.cells #[.int .i64 m.ev] 3)) 120 (.func (.func 121) #[] #[.pointer (some ⟨w.heap.size + 1, 0, none⟩)])).cell
    rwa [World.size_alloc, World.size_alloc] at this
  have f2 : (((w.alloc (.cells (mcells m l) 25)).alloc (.cells #[.int .i64 m.ev] 3)).alloc (.cells #[.func (.func 121) #[] #[.pointer (some ⟨w.heap.size + 1, 0, none⟩)]] 120)).cell? ⟨w.heap.size + 1, 0, none⟩ = some (.int .i64 m.ev) := by
    have := ((Boxed.new (w.alloc (.cells (mcells m l) 25)) 3 (.int .i64 m.ev)).alloc (.cells #[.func (.func 121) #[] #[.pointer (some ⟨w.heap.size + 1, 0, none⟩)]] 120)).cell
    rwa [World.size_alloc] at this
  refine (containsFunc_any m.ev (w.heap.size + 1 + 1) (w.heap.size + 1) cap a xs _ (HS.out.below hB (Nat.le_refl _)) HL.out f1 f2).mono ?_
  have HB := Hid.of hB
  clear f1 f2 hB
  rintro e w1 ⟨rfl, rfl⟩
  go_wp2
  go_ret
  exact ⟨ret_bool (by simp), HB.out⟩

end Go.Proofs.YtbdkaobbfmgnhaaDoor
namespace Go.Proofs.YtbdkaobbfmgnhaaDoor
open Go.RowKit
set_option linter.unusedVariables false

theorem results_set {fn : Func} {p u : Tmp} (h : fn.results = #[.cell p 62, .tmp u]) (tmps : Array Value) (w : World) (g : Nat) (S : Nat → Nat) (c : Int) (hp : tmps.getD p undef = .pointer (some ⟨g, 0, none⟩)) (hu : tmps.getD u undef = .int .i64 c) (hS : SB w g S) :
    (results fn tmps).run Tryd.prog w = .ok (.tuple #[sval S, .int .i64 c]) w := by
  rw [results_cell_tmp h, hp, hu]
  have := run_loadVar_row w g 62 62 (scells S) (0, 0) _ hS Tryd.underlying62 rfl (by kernel_rfl)
  simp [asAddr, this, Result.andThen]

theorem mcell_of {W : World} {b : Nat} {m : Mach} {l : ML} (h : Blk W b 25 (mcells m l)) : W.cell? ⟨b, 0, none⟩ = some (.int .i64 m.st) ∧ W.cell? ⟨b, 1, none⟩ = some (.int .i64 m.ev) ∧ W.cell? ⟨b, 2, none⟩ = some (.slice l.a1 m.starts.length l.c1) ∧ W.cell? ⟨b, 3, none⟩ = some (.slice l.a2 m.arrows.length l.c2) ∧ W.cell? ⟨b, 4, none⟩ = some (.slice l.a3 m.ends.length l.c3) :=
  ⟨h.cell 0 rfl, h.cell 1 rfl, h.cell 2 rfl, h.cell 3 rfl, h.cell 4 rfl⟩

set_option maxRecDepth 100000 in
set_option maxHeartbeats 4000000 in
theorem after_range (m : Mach) (l : ML) (sa wa : Option Addr) (sc wc : Nat) (ss word : List Int) (w : World) (h : MAt w m l) (hm : Hid (mayB m = true)) (hs : Hid (At w sa ss)) (hl : Hid (ss.length ≤ maxLen)) (hr : Hid (rowB m.st ss = true)) (hv : Hid (At w wa word)) (hwl : Hid (word.length ≤ maxLen)) (hwd : Hid (wordB m.ev word = false)) :
    Calls Tryd.prog 49 #[mval m l, .slice sa ss.length sc, .slice wa word.length wc] w fun e w' => e = .returned (.tuple #[sval zeroS, .int .i64 6]) ∧ Below w.heap.size w w' := by
  have b1 : SB ((w.alloc (.cells (mcells m l) 25)).alloc (.cells (scells zeroS) 62)) (w.heap.size + 1) zeroS := by
    have := Blk.new (w.alloc (.cells (mcells m l) 25)) 62 (scells zeroS)
    rwa [World.size_alloc] at this
  have b0 : Below w.heap.size w ((w.alloc (.cells (mcells m l) 25)).alloc (.cells (scells zeroS) 62)) := ((Below.refl _ _).alloc (Nat.le_refl _) _).alloc (by simp) _
  have h' := Hid.of (h.below b0 (Nat.le_refl _))
  have B1 := Hid.of b1
  have B0 := Hid.of b0
  have K1 := Hid.of ((Blk.new w 25 (mcells m l)).alloc (.cells (scells zeroS) 62))
  clear b0 b1
  go_enter Tryd.func49, Tryd.ntmps49
  go_wp2_with fail
  refine (pMay_any m l _ h'.out).mono ?_
  rintro e w1 ⟨rfl, hb1⟩
  rw [hm.out]
  have s1 := B1.out.below hb1 B1.out.lt
  have k1 := K1.out.below hb1 K1.out.lt
  have x0 : w1.cell? ⟨w.heap.size, 0, none⟩ = some (.int .i64 m.st) := k1.cell 0 rfl
  obtain ⟨r0, r1, r2, r3⟩ := SB.cells s1
  have fz := s1.frozen
  have S1 := Hid.of s1
  have HB := Hid.of (B0.out.trans (hb1.mono B0.out.size))
  have K2 := Hid.of k1
  clear hb1 s1 k1
  go_wp2_with fail
  refine (rowIs_any sa sc ss m.st _ (hs.out.below HB.out (Nat.le_refl _)) hl.out).mono ?_
  rintro e w2 ⟨rfl, rfl⟩
  rw [hr.out]
  obtain ⟨x0', x1, x2, x3, x4⟩ := mcell_of K2.out
  go_wp2_with fail
  refine (isWord_any m l wc wa word _ (hv.out.below HB.out (Nat.le_refl _)) hwl.out).mono ?_
  rintro e w3 ⟨rfl, hb3⟩
  rw [hwd.out]
  clear x0 x0' x1 x2 x3 x4 r0 r1 r2 r3 fz
  have s3 := S1.out.below hb3 S1.out.lt
  obtain ⟨r0, r1, r2, r3⟩ := SB.cells s3
  have fz := s3.frozen
  have S3 := Hid.of s3
  have HB3 := Hid.of (HB.out.trans (hb3.mono HB.out.size))
  clear hb3 s3
  go_wp2
  refine bodyPost_ret (v := .tuple #[sval zeroS, .int .i64 6]) ?_ rfl ⟨rfl, below_set4 HB3.out (b' := w.heap.size + 1) (by omega) _ _ _ _⟩
  exact results_set (p := 6) (u := 7) rfl _ _ (w.heap.size + 1) zeroS 6 rfl rfl (SB.set4 S3.out zeroS)

end Go.Proofs.YtbdkaobbfmgnhaaDoor
