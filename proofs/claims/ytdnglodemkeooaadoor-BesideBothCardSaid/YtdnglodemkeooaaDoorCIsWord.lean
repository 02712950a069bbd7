/-
  The walks of machine.isWord, of its closure, and of slices.ContainsFunc and slices.IndexFunc at it.
-/
import Derived.Test.YtdnglodemkeooaaDoorG07
import Derived.Test.YtdnglodemkeooaaDoorG04
namespace Go.Proofs.YtdnglodemkeooaaDoor
open Go.RowKit
set_option linter.unusedVariables false

set_option maxHeartbeats 400000 in
theorem isWord1_any (ev n : Int) (pf pb : Nat) (w : World) (h1 : w.cell? ⟨pf, 0, none⟩ = some (.func (.func 117) #[] #[.pointer (some ⟨pb, 0, none⟩)])) (h2 : w.cell? ⟨pb, 0, none⟩ = some (.int .i64 ev)) :
    Calls Tryd.prog 121 #[.int .i64 n, .pointer (some ⟨pf, 0, none⟩)] w fun e w' => e = .returned (.bool (!inB ev n)) ∧ w' = w := by
  go_enter Tryd.func121, Tryd.ntmps121
  go_wp2_with (go_at_call 117; refine (within1_any ev n pb _ h2).mono ?_; rintro e w1 ⟨rfl, rfl⟩)
  go_ret
  exact ⟨rfl, rfl⟩

set_option maxHeartbeats 1000000 in
theorem indexFunc_some (ev : Int) (pf pb b off cap : Nat) (xs : List Int) (w : World) (hl : xs.length ≤ 9223372036854775807) (hc : Cells w b off xs) (h1 : w.cell? ⟨pf, 0, none⟩ = some (.func (.func 117) #[] #[.pointer (some ⟨pb, 0, none⟩)])) (h2 : w.cell? ⟨pb, 0, none⟩ = some (.int .i64 ev)) :
    Calls Tryd.prog 145 #[.slice (some ⟨b, off, none⟩) xs.length cap, .func (.func 121) #[] #[.pointer (some ⟨pf, 0, none⟩)]] w fun e w' => ∃ r : Int, e = .returned (.int .i64 r) ∧ decide (0 ≤ r) = !wordB ev xs ∧ w' = w := by
  have H1 := Hid.of h1
  have H2 := Hid.of h2
  clear h1 h2
  go_enter Tryd.func145, Tryd.ntmps145
  go_wp2
  go_loop [8] (fun i => ∃ k : Nat, k ≤ xs.length ∧ i = .int .i64 k ∧ Hid (wordB ev xs = wordB ev (xs.drop k))) (fun i => xs.length - (intOf i).toNat)
  case atStart => exact ⟨0, Nat.zero_le _, rfl, rfl⟩
  case round =>
    obtain ⟨k, hk, rfl, he⟩ := hrel
    by_cases hlt : k < xs.length
    · obtain ⟨x, HX, hcx⟩ := hc.at hlt
      by_cases hi : inB ev x = true
      · have HI := Hid.of hi
        go_wp2_with (go_at_call 121; refine (isWord1_any ev x pf pb _ H1.out H2.out).mono ?_; rintro e w1 ⟨rfl, rfl⟩)
        go_round
        case rel => exact ⟨k + 1, by omega, by go_num, word_yes hlt HX he (by have := of_decide_eq_true HI.out; omega)⟩
        case measure => simp [intOf]; omega
      · have hi : inB ev x = false := by simpa using hi
        have HI := Hid.of hi
        go_wp2_with (go_at_call 121; refine (isWord1_any ev x pf pb _ H1.out H2.out).mono ?_; rintro e w1 ⟨rfl, rfl⟩)
        go_ret
        exact ⟨_, rfl, by rw [← word_no hlt HX he (by have := of_decide_eq_false HI.out; omega)]; simp, rfl⟩
    · go_wp2
      go_ret
      exact ⟨_, rfl, by rw [← word_end hlt he]; simp, rfl⟩

set_option maxHeartbeats 400000 in
theorem indexFunc_nil (ev : Int) (a : Option Addr) (cap : Nat) (f : Value) (w : World) :
    Calls Tryd.prog 145 #[.slice a 0 cap, f] w fun e w' => ∃ r : Int, e = .returned (.int .i64 r) ∧ decide (0 ≤ r) = !wordB ev [] ∧ w' = w := by
  go_enter Tryd.func145, Tryd.ntmps145
  go_wp2
  refine wp_loop_rounds 1 ?_
  rw [rounds_succ]
  go_wp2
  go_ret
  exact ⟨_, rfl, rfl, rfl⟩

theorem indexFunc_any (ev : Int) (pf pb cap : Nat) (a : Option Addr) (xs : List Int) (w : World) (hs : At w a xs) (hl : xs.length ≤ maxLen) (h1 : w.cell? ⟨pf, 0, none⟩ = some (.func (.func 117) #[] #[.pointer (some ⟨pb, 0, none⟩)])) (h2 : w.cell? ⟨pb, 0, none⟩ = some (.int .i64 ev)) :
    Calls Tryd.prog 145 #[.slice a xs.length cap, .func (.func 121) #[] #[.pointer (some ⟨pf, 0, none⟩)]] w fun e w' => ∃ r : Int, e = .returned (.int .i64 r) ∧ decide (0 ≤ r) = !wordB ev xs ∧ w' = w := by
  rcases hs with rfl | ⟨b, off, rfl, hb, hc⟩
  · exact indexFunc_nil ev a cap _ w
  · exact indexFunc_some ev pf pb b off cap xs w hl hc h1 h2

set_option maxHeartbeats 400000 in
theorem containsFunc_any (ev : Int) (pf pb cap : Nat) (a : Option Addr) (xs : List Int) (w : World) (hs : At w a xs) (hl : xs.length ≤ maxLen) (h1 : w.cell? ⟨pf, 0, none⟩ = some (.func (.func 117) #[] #[.pointer (some ⟨pb, 0, none⟩)])) (h2 : w.cell? ⟨pb, 0, none⟩ = some (.int .i64 ev)) :
    Calls Tryd.prog 120 #[.slice a xs.length cap, .func (.func 121) #[] #[.pointer (some ⟨pf, 0, none⟩)]] w fun e w' => e = .returned (.bool (!wordB ev xs)) ∧ w' = w := by
  have H := Hid.of (indexFunc_any ev pf pb cap a xs w hs hl h1 h2)
  clear h1 h2 hs hl
  go_enter Tryd.func120, Tryd.ntmps120
  go_wp2_with (go_at_call 145; refine H.out.mono ?_; rintro e w1 ⟨r, rfl, hr, rfl⟩; have HR := Hid.of hr; clear hr)
  go_ret
  exact ⟨ret_bool HR.out, rfl⟩

set_option maxHeartbeats 1000000 in
theorem isWord_any (m : Mach) (l : ML) (cap : Nat) (a : Option Addr) (xs : List Int) (w : World) (hs : At w a xs) (hl : xs.length ≤ maxLen) :
    Calls Tryd.prog 93 #[mval m l, .slice a xs.length cap] w fun e w' => e = .returned (.bool (wordB m.ev xs)) ∧ Below w.heap.size w w' := by
  have hmf : ∀ (fn : Fn) (first cap : Array Value) (w : World), (Instr.makeFunc fn first cap).run Tryd.prog w = .ok (.func fn first cap) w := fun _ _ _ _ => rfl
  have HS := Hid.of hs
  have HL := Hid.of hl
  clear hs hl
  go_enter Tryd.func93, Tryd.ntmps93
  go_wp2_with (first | (go_at_call 91; refine (within_any _ _).mono ?_; rintro e w1 ⟨rfl, rfl⟩))
  have hB : Below w.heap.size w (((w.alloc (.cells (mcells m l) 25)).alloc (.cells #[.int .i64 m.ev] 3)).alloc (.cells #[.func (.func 117) #[] #[.pointer (some ⟨w.heap.size + 1, 0, none⟩)]] 114)) := (((Below.refl _ _).alloc (Nat.le_refl _) _).alloc (by simp) _).alloc (by simp; omega) _
  have f1 : (((w.alloc (.cells (mcells m l) 25)).alloc (.cells #[.int .i64 m.ev] 3)).alloc (.cells #[.func (.func 117) #[] #[.pointer (some ⟨w.heap.size + 1, 0, none⟩)]] 114)).cell? ⟨w.heap.size + 1 + 1, 0, none⟩ = some (.func (.func 117) #[] #[.pointer (some ⟨w.heap.size + 1, 0, none⟩)]) := by
    have := (Boxed.new ((w.alloc (.cells (mcells m l) 25)).alloc (.cells #[.int .i64 m.ev] 3)) 114 (.func (.func 117) #[] #[.pointer (some ⟨w.heap.size + 1, 0, none⟩)])).cell
    rwa [World.size_alloc, World.size_alloc] at this
  have f2 : (((w.alloc (.cells (mcells m l) 25)).alloc (.cells #[.int .i64 m.ev] 3)).alloc (.cells #[.func (.func 117) #[] #[.pointer (some ⟨w.heap.size + 1, 0, none⟩)]] 114)).cell? ⟨w.heap.size + 1, 0, none⟩ = some (.int .i64 m.ev) := by
    have := ((Boxed.new (w.alloc (.cells (mcells m l) 25)) 3 (.int .i64 m.ev)).alloc (.cells #[.func (.func 117) #[] #[.pointer (some ⟨w.heap.size + 1, 0, none⟩)]] 114)).cell
    rwa [World.size_alloc] at this
  refine (containsFunc_any m.ev (w.heap.size + 1 + 1) (w.heap.size + 1) cap a xs _ (HS.out.below hB (Nat.le_refl _)) HL.out f1 f2).mono ?_
  have HB := Hid.of hB
  clear f1 f2 hB
  rintro e w1 ⟨rfl, rfl⟩
  go_wp2
  go_ret
  exact ⟨ret_bool (by simp), HB.out⟩

end Go.Proofs.YtdnglodemkeooaaDoor
