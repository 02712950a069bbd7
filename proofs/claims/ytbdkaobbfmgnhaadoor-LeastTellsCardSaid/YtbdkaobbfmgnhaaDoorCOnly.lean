/-
  The walk of jalousieref1.Only: the numbers of a list that are (or are not) in another one.
-/
import Derived.Test.YtbdkaobbfmgnhaaDoorG04
import Derived.Test.YtbdkaobbfmgnhaaDoorG05
namespace Go.Proofs.YtbdkaobbfmgnhaaDoor
open Go.RowKit
set_option linter.unusedVariables false

/-- Of the first k numbers those that are (b = true) or are not in ys. -/
def onlyTo (xs ys : List Int) (b : Bool) (k : Nat) : List Int := (xs.take k).filter (fun n => hasB ys n == b)

theorem onlyTo_len (xs ys : List Int) (b : Bool) (k : Nat) : (onlyTo xs ys b k).length ≤ k := Nat.le_trans (List.length_filter_le _ _) (List.length_take_le _ _)
theorem onlyTo_all {xs : List Int} (ys : List Int) (b : Bool) {k : Nat} (h : ¬ k < xs.length) : onlyTo xs ys b k = xs.filter (fun n => hasB ys n == b) := by
  rw [onlyTo, List.take_of_length_le (by omega)]
theorem onlyTo_hit {xs ys : List Int} {b : Bool} {k : Nat} {x : Int} (h : k < xs.length) (hx : Hid (x = xs[k]?.getD 0)) (hb : hasB ys x = b) : onlyTo xs ys b (k + 1) = onlyTo xs ys b k ++ [x] := by
  have hx := hx.out
  rw [List.getElem?_eq_getElem h] at hx
  simp only [Option.getD_some] at hx
  rw [onlyTo, onlyTo, List.take_add_one, List.getElem?_eq_getElem h, List.filter_append]
  simp [← hx, hb]
theorem onlyTo_miss {xs ys : List Int} {b : Bool} {k : Nat} {x : Int} (h : k < xs.length) (hx : Hid (x = xs[k]?.getD 0)) (hb : ¬ hasB ys x = b) : onlyTo xs ys b (k + 1) = onlyTo xs ys b k := by
  have hx := hx.out
  rw [List.getElem?_eq_getElem h] at hx
  simp only [Option.getD_some] at hx
  rw [onlyTo, onlyTo, List.take_add_one, List.getElem?_eq_getElem h, List.filter_append]
  simp [← hx, hb]

set_option maxHeartbeats 1600000 in
set_option maxRecDepth 100000 in
theorem only_some (bx ox cx cy : Nat) (ay : Option Addr) (xs ys : List Int) (bb : Bool) (w : World) (hl : xs.length ≤ 17592186044416) (hbx : bx < w.heap.size) (hc : Cells w bx ox xs) (ht : At w ay ys) (hm : ys.length ≤ maxLen) :
    Calls Tryd.prog 54 #[.slice (some ⟨bx, ox, none⟩) xs.length cx, .slice ay ys.length cy, .bool bb] w fun e w' => ∃ v, e = .returned v ∧ Own w' w.heap.size v (xs.filter (fun n => hasB ys n == bb)) ∧ Below w.heap.size w w' := by
  obtain ⟨i0, hi, hz0, hz1, hz2⟩ := info_parts Tryd.infoInt
  go_enter Tryd.func54, Tryd.ntmps54
  go_wp2
  go_loopw [7, 8] (fun v i wr => ∃ k : Nat, k ≤ xs.length ∧ i = .int .i64 k ∧ Own wr w.heap.size v (onlyTo xs ys bb k) ∧ Below w.heap.size w wr) (fun _ i _ => xs.length - (intOf i).toNat)
  case atStart => exact ⟨0, Nat.zero_le _, rfl, own_nil _ _, Below.refl _ _⟩
  case round =>
    obtain ⟨k, hk, rfl, hown, hbel⟩ := hrel
    by_cases hlt : k < xs.length
    · obtain ⟨x, HX, hcx0⟩ := hc.at hlt
      have hcx : wr.cell? ⟨bx, ox + k, none⟩ = some (.int .i64 x) := (hbel.cell (p := ⟨bx, ox + k, none⟩) hbx).trans hcx0
      clear hcx0
      have htr : At wr ay ys := ht.below hbel (Nat.le_refl _)
      have hsz := hbel.size
      have hll := onlyTo_len xs ys bb k
      go_wp2_with fail
      refine (refHas_any ay cy ys x _ htr hm).mono ?_
      rintro e w' ⟨rfl, rfl⟩
      by_cases hh : hasB ys x = bb
      · have HH : Hid (hasB ys x = bb) := hh
        have d : (hasB ys x == bb) = true := by simp [hh]
        clear hh
        go_wp2_with (at_builtin; refine wpList_append_own _ rfl _ _ 22 rfl w.heap.size 3 i0 (.int .i64 0) 1 8 Tryd.underlying22 hi hz0 hz1 hz2 rfl (by decide) _ _ _ rfl (World.ownsRow.alloc hown _) ⟨w'.heap.size, 0, none⟩ 1 1 [.int .i64 x] rfl rfl (cell_one_new _ _ _) (by intro u hu; simp at hu; subst hu; rfl) (by unfold maxLen; omega) (by omega) (by simp; omega) ?_)
        intro v' w1 hown' hgrow _
        obtain ⟨r1, r2, -⟩ := own_snoc hown hbel hsz hown' hgrow
        rw [← onlyTo_hit hlt HX HH.out] at r1
        clear hown' hgrow hown hcx htr
        go_wp2
        go_roundw
        case rel => exact ⟨k + 1, by omega, by go_num, r1, r2⟩
        case measure => simp [intOf]; omega
      · have d : (hasB ys x == bb) = false := by simp [hh]
        have r1 := hown
        rw [← onlyTo_miss hlt HX hh] at r1
        go_wp2
        go_roundw
        case rel => exact ⟨k + 1, by omega, by go_num, r1, hbel⟩
        case measure => simp [intOf]; omega
    · rw [onlyTo_all ys bb hlt] at hown
      go_wp2
      go_ret
      exact ⟨_, rfl, hown, hbel⟩

set_option maxHeartbeats 400000 in
theorem only_nil (a ay : Option Addr) (cx cy : Nat) (ys : List Int) (bb : Bool) (w : World) :
    Calls Tryd.prog 54 #[.slice a 0 cx, .slice ay ys.length cy, .bool bb] w fun e w' => e = .returned (.slice none 0 0) ∧ w' = w := by
  go_enter Tryd.func54, Tryd.ntmps54
  go_wp2
  refine wp_loop_rounds 1 ?_
  rw [rounds_succ]
  go_wp2
  go_ret
  exact ⟨rfl, rfl⟩

theorem only_any (a ay : Option Addr) (cx cy : Nat) (xs ys : List Int) (bb : Bool) (w : World) (hs : At w a xs) (hl : xs.length ≤ 17592186044416) (ht : At w ay ys) (hm : ys.length ≤ maxLen) :
    Calls Tryd.prog 54 #[.slice a xs.length cx, .slice ay ys.length cy, .bool bb] w fun e w' => Gives w (xs.filter (fun n => hasB ys n == bb)) e w' := by
  rcases hs with rfl | ⟨b, off, rfl, hb, hc⟩
  · refine (only_nil a ay cx cy ys bb w).mono ?_
    rintro e w' ⟨rfl, rfl⟩
    exact gives_of_own (B := w'.heap.size) (own_nil _ _) (Below.refl _ _)
  · refine (only_some b off cx cy ay xs ys bb w hl hb hc ht hm).mono ?_
    rintro e w' ⟨v, rfl, h1, h2⟩
    exact gives_of_own h1 h2

end Go.Proofs.YtbdkaobbfmgnhaaDoor
