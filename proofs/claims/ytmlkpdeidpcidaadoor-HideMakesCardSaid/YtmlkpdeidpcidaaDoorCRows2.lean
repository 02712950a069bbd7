/-
  The walk of jalousielaw.rows: are two lists of lists one?
-/
import Derived.Test.YtmlkpdeidpcidaaDoorG20
import Derived.Test.YtmlkpdeidpcidaaDoorG16
namespace Go.Proofs.YtmlkpdeidpcidaaDoor
open Go.RowKit
set_option linter.unusedVariables false

/-- Are two lists of lists one? -/
def sameL : List (List Int) → List (List Int) → Bool
  | [], [] => true
  | x :: r, y :: s => if sameB x y = true then sameL r s else false
  | _, _ => false
theorem sameL_iff : ∀ (p q : List (List Int)), sameL p q = true ↔ p = q
  | [], [] => by simp [sameL]
  | [], _ :: _ => by simp [sameL]
  | _ :: _, [] => by simp [sameL]
  | x :: r, y :: s => by
    unfold sameL
    by_cases h : sameB x y = true
    · rw [if_pos h, sameL_iff r s]
      have : x = y := by simpa [sameB] using h
      simp [this]
    · rw [if_neg h]
      have : ¬ x = y := fun e => h (by simp [sameB, e])
      simp [this]
theorem sameL_len {p q : List (List Int)} (h : ¬ p.length = q.length) : false = sameL p q := by
  cases e : sameL p q with
  | false => rfl
  | true => exact absurd (by rw [(sameL_iff p q).1 e]) h
theorem dropL {p : List (List Int)} {k : Nat} {x : List Int} (h : p[k]? = some x) : p.drop k = x :: p.drop (k + 1) := by
  obtain ⟨h1, h2⟩ := List.getElem?_eq_some_iff.1 h
  rw [List.drop_eq_getElem_cons h1, h2]
theorem sameL_no {k : Nat} {p q : List (List Int)} {x y : List Int} {t : Bool} (hx : Hid (p[k]? = some x)) (hy : Hid (q[k]? = some y)) (e : Hid (t = sameL (p.drop k) (q.drop k))) (hn : Hid (sameB x y = false)) : false = t := by
  rw [e.out, dropL hx.out, dropL hy.out, sameL, if_neg (by rw [hn.out]; simp)]
theorem sameL_yes {k : Nat} {p q : List (List Int)} {x y : List Int} {t : Bool} (hx : Hid (p[k]? = some x)) (hy : Hid (q[k]? = some y)) (e : Hid (t = sameL (p.drop k) (q.drop k))) (hn : Hid (sameB x y = true)) : Hid (t = sameL (p.drop (k + 1)) (q.drop (k + 1))) := by
  show t = _
  rw [e.out, dropL hx.out, dropL hy.out, sameL, if_pos hn.out]
theorem sameL_end {k : Nat} {p q : List (List Int)} {t : Bool} (h : ¬ k < p.length) (hl : p.length = q.length) (e : Hid (t = sameL (p.drop k) (q.drop k))) : true = t := by
  rw [e.out, List.drop_eq_nil_of_le (by omega), List.drop_eq_nil_of_le (by omega)]; rfl

set_option maxHeartbeats 400000 in
theorem rows_ne (a b : Option Addr) (ca cb : Nat) (xs ys : List (List Int)) (w : World) (hne : ¬ xs.length = ys.length) (hl : xs.length ≤ 9223372036854775807) (hm : ys.length ≤ 9223372036854775807) :
    Calls Tryd.prog 52 #[.slice a xs.length ca, .slice b ys.length cb] w fun e w' => e = .returned (.bool (sameL xs ys)) ∧ ∃ q, w' = w.drewN q := by
  have hb : ((xs.length : Int) != (ys.length : Int)) = true := by rw [bne_iff_ne]; omega
  go_enter Tryd.func52, Tryd.ntmps52
  go_wp2
  go_ret
  exact ⟨ret_bool (sameL_len hne), 0, rfl⟩

/-- What a slice of slices has in a place. -/
def CellsL (w : World) (b off : Nat) (LL : List (List Int)) : Prop := ∀ (k : Nat) (xs : List Int), LL[k]? = some xs → ∃ a' c', w.cell? ⟨b, off + k, none⟩ = some (.slice a' xs.length c') ∧ At w a' xs ∧ xs.length ≤ maxLen

set_option maxHeartbeats 2000000 in
theorem rows_eq (ba oa ca bb ob cb : Nat) (xs ys : List (List Int)) (w : World) (hlen : Hid (xs.length = ys.length)) (hl : xs.length ≤ 9223372036854775807) (hca : Hid (CellsL w ba oa xs)) (hcb : Hid (CellsL w bb ob ys)) :
    Calls Tryd.prog 52 #[.slice (some ⟨ba, oa, none⟩) xs.length ca, .slice (some ⟨bb, ob, none⟩) ys.length cb] w fun e w' => e = .returned (.bool (sameL xs ys)) ∧ ∃ q, w' = w.drewN q := by
  have hm : ys.length ≤ 9223372036854775807 := by have := hlen.out; omega
  have hb : ((xs.length : Int) != (ys.length : Int)) = false := by have := hlen.out; simp; omega
  go_enter Tryd.func52, Tryd.ntmps52
  go_wp2
  go_loopw [5] (fun i wr => ∃ k q : Nat, k ≤ xs.length ∧ i = .int .i64 k ∧ wr = w.drewN q ∧ Hid (sameL xs ys = sameL (xs.drop k) (ys.drop k))) (fun i _ => xs.length - (intOf i).toNat)
  case atStart => exact ⟨0, 0, Nat.zero_le _, rfl, rfl, by show _ = _; simp⟩
  case round =>
    obtain ⟨k, q, hk, rfl, rfl, he⟩ := hrel
    by_cases hlt : k < xs.length
    · have hlt2 : k < ys.length := by have := hlen.out; omega
      obtain ⟨x, HX⟩ : ∃ x, Hid (xs[k]? = some x) := ⟨_, List.getElem?_eq_getElem hlt⟩
      obtain ⟨y, HY⟩ : ∃ y, Hid (ys[k]? = some y) := ⟨_, List.getElem?_eq_getElem hlt2⟩
      obtain ⟨xa, xc, cx, ax, lx⟩ := hca.out k x HX.out
      obtain ⟨ya, yc, cy, ay, ly⟩ := hcb.out k y HY.out
      obtain ⟨V, HV⟩ : ∃ V, Hid (V = w.drewN q) := ⟨_, rfl⟩
      replace cx : V.cell? ⟨ba, oa + k, none⟩ = some (.slice xa x.length xc) := by rw [HV.out]; exact cx
      replace cy : V.cell? ⟨bb, ob + k, none⟩ = some (.slice ya y.length yc) := by rw [HV.out]; exact cy
      replace ax : At V xa x := by rw [HV.out]; exact At.drewN ax q
      replace ay : At V ya y := by rw [HV.out]; exact At.drewN ay q
      rw [← HV.out]
      have KEY : Hid (∀ n, Calls Tryd.prog 19 #[.slice xa x.length xc, .slice ya y.length yc] (V.drewN n) fun e w' => e = .returned (.bool (sameB x y)) ∧ ∃ r, w' = (V.drewN n).drewN r) := fun n => same_any xa ya xc yc x y _ (At.drewN ax n) (At.drewN ay n) lx ly
      clear ax ay lx ly
      by_cases hxy : sameB x y = true
      · have HXY : Hid (sameB x y = true) := hxy
        rw [hxy] at KEY
        clear hxy
        go_wp2_with fail
        go_quiet (first | (go_at_call 19; exact Calls.quiet_of (KEY.out _)))
        go_wp2
        go_roundw
        case rel => exact ⟨k + 1, _, by omega, by go_num, by rw [HV.out, World.drewN_drewN], sameL_yes HX HY he HXY⟩
        case measure => simp [intOf]; omega
      · have hxy : sameB x y = false := by simpa using hxy
        have HXY : Hid (sameB x y = false) := hxy
        rw [hxy] at KEY
        clear hxy
        go_wp2_with fail
        go_quiet (first | (go_at_call 19; exact Calls.quiet_of (KEY.out _)))
        go_wp2
        go_ret
        exact ⟨ret_bool (sameL_no HX HY he HXY), _, by rw [HV.out, World.drewN_drewN]⟩
    · go_wp2
      go_ret
      exact ⟨ret_bool (sameL_end hlt hlen.out he), q, rfl⟩

set_option maxHeartbeats 400000 in
theorem rows_nil (a b : Option Addr) (ca cb : Nat) (w : World) :
    Calls Tryd.prog 52 #[.slice a 0 ca, .slice b 0 cb] w fun e w' => e = .returned (.bool true) ∧ ∃ q, w' = w.drewN q := by
  go_enter Tryd.func52, Tryd.ntmps52
  go_wp2
  refine wp_loop_rounds 1 ?_
  rw [rounds_succ]
  go_wp2
  go_ret
  exact ⟨rfl, 0, rfl⟩

theorem rows_any (a b : Option Addr) (ca cb : Nat) (xs ys : List (List Int)) (w : World) (hs : At2 w a xs) (ht : At2 w b ys) (hl : xs.length ≤ maxLen) (hm : ys.length ≤ maxLen) :
    Calls Tryd.prog 52 #[.slice a xs.length ca, .slice b ys.length cb] w fun e w' => e = .returned (.bool (sameL xs ys)) ∧ ∃ q, w' = w.drewN q := by
  by_cases hne : xs.length = ys.length
  · rcases hs with rfl | ⟨ba, oa, rfl, -, hca⟩
    · have : ys = [] := List.eq_nil_of_length_eq_zero (by simpa using hne.symm)
      subst this
      exact rows_nil a b ca cb w
    · rcases ht with rfl | ⟨bb, ob, rfl, -, hcb⟩
      · have : xs = [] := List.eq_nil_of_length_eq_zero (by simpa using hne)
        subst this
        exact rows_nil _ b ca cb w
      · exact rows_eq ba oa ca bb ob cb xs ys w hne hl (Hid.of hca) (Hid.of hcb)
  · exact rows_ne a b ca cb xs ys w hne hl hm

end Go.Proofs.YtmlkpdeidpcidaaDoor
