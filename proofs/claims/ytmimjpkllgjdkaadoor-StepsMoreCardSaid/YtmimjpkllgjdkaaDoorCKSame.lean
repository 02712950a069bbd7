/-
  The walk of jalousiekeep.same.
-/
import Derived.Test.YtmimjpkllgjdkaaDoorG11
namespace Go.Proofs.YtmimjpkllgjdkaaDoor
open Go.RowKit
set_option linter.unusedVariables false

set_option maxHeartbeats 400000 in
theorem ksame_ne (a b : Option Addr) (ca cb : Nat) (xs ys : List Int) (w : World) (hne : ¬ xs.length = ys.length) (hl : xs.length ≤ 9223372036854775807) (hm : ys.length ≤ 9223372036854775807) :
    Calls Tryd.prog 49 #[.slice a xs.length ca, .slice b ys.length cb] w fun e w' => e = .returned (.bool (sameB xs ys)) ∧ ∃ q, w' = w.drewN q := by
  have hb : ((xs.length : Int) != (ys.length : Int)) = true := by rw [bne_iff_ne]; omega
  go_enter Tryd.func49, Tryd.ntmps49
  go_wp2
  go_ret
  exact ⟨ret_bool (same_len hne), 0, rfl⟩

set_option maxHeartbeats 1000000 in
theorem ksame_eq (ba oa ca bb ob cb : Nat) (xs ys : List Int) (w : World) (hlen : Hid (xs.length = ys.length)) (hl : xs.length ≤ 9223372036854775807) (hca : Cells w ba oa xs) (hcb : Cells w bb ob ys) :
    Calls Tryd.prog 49 #[.slice (some ⟨ba, oa, none⟩) xs.length ca, .slice (some ⟨bb, ob, none⟩) ys.length cb] w fun e w' => e = .returned (.bool (sameB xs ys)) ∧ ∃ q, w' = w.drewN q := by
  have hm : ys.length ≤ 9223372036854775807 := by have := hlen.out; omega
  have hb : ((xs.length : Int) != (ys.length : Int)) = false := by have := hlen.out; simp; omega
  go_enter Tryd.func49, Tryd.ntmps49
  go_wp2
  go_loopw [5] (fun i wr => ∃ k q : Nat, k ≤ xs.length ∧ i = .int .i64 k ∧ wr = w.drewN q ∧ Hid (xs.take k = ys.take k)) (fun i _ => xs.length - (intOf i).toNat)
  case atStart => exact ⟨0, 0, Nat.zero_le _, rfl, rfl, rfl⟩
  case round =>
    obtain ⟨k, q, hk, rfl, rfl, he⟩ := hrel
    by_cases hlt : k < xs.length
    · have hlt2 : k < ys.length := by have := hlen.out; omega
      obtain ⟨x, HX, hcx⟩ := hca.at hlt
      obtain ⟨y, HY, hcy⟩ := hcb.at hlt2
      by_cases hxy : x = y
      · have HXY : Hid (x = y) := hxy
        have d : (x != y) = false := by simp [hxy]
        clear hxy
        go_wp2
        go_quiet (fail)
        go_wp2
        go_roundw
        case rel => exact ⟨k + 1, _, by omega, by go_num, rfl, same_yes hlt hlt2 HX HY HXY.out he⟩
        case measure => simp [intOf]; omega
      · have d : (x != y) = true := by simp [hxy]
        go_wp2
        go_quiet (fail)
        go_wp2
        go_ret
        exact ⟨ret_bool (same_no HX HY hxy), _, World.drewN_drewN _ _ _⟩
    · go_wp2
      go_ret
      exact ⟨ret_bool (same_end hlen.out hlt he), q, rfl⟩

set_option maxHeartbeats 400000 in
theorem ksame_nil (a b : Option Addr) (ca cb : Nat) (w : World) :
    Calls Tryd.prog 49 #[.slice a 0 ca, .slice b 0 cb] w fun e w' => e = .returned (.bool true) ∧ ∃ q, w' = w.drewN q := by
  go_enter Tryd.func49, Tryd.ntmps49
  go_wp2
  refine wp_loop_rounds 1 ?_
  rw [rounds_succ]
  go_wp2
  go_ret
  exact ⟨rfl, 0, rfl⟩

theorem ksame_any (a b : Option Addr) (ca cb : Nat) (xs ys : List Int) (w : World) (hs : At w a xs) (ht : At w b ys) (hl : xs.length ≤ maxLen) (hm : ys.length ≤ maxLen) :
    Calls Tryd.prog 49 #[.slice a xs.length ca, .slice b ys.length cb] w fun e w' => e = .returned (.bool (sameB xs ys)) ∧ ∃ q, w' = w.drewN q := by
  by_cases hne : xs.length = ys.length
  · rcases hs with rfl | ⟨ba, oa, rfl, -, hca⟩
    · have : ys = [] := List.eq_nil_of_length_eq_zero (by simpa using hne.symm)
      subst this
      exact ksame_nil a b ca cb w
    · rcases ht with rfl | ⟨bb, ob, rfl, -, hcb⟩
      · have : xs = [] := List.eq_nil_of_length_eq_zero (by simpa using hne)
        subst this
        exact ksame_nil _ b ca cb w
      · exact ksame_eq ba oa ca bb ob cb xs ys w hne hl hca hcb
  · exact ksame_ne a b ca cb xs ys w hne hl hm

end Go.Proofs.YtmimjpkllgjdkaaDoor
