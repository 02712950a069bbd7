/-
  The walk of jalousieref1.Only: the numbers of a list that are (or are not) in another one.
  The walk of jalousieref1.Sorted: insertion, one number after the other: it answers 'srt xs'.
  jalousieref1.Sorted hands back a slice of its own.
  The walk of hide.Seen: what is seen of a word.
-/
import Derived.Test.YtcjcjaeaoianfaaDoorG04
import Derived.Test.YtcjcjaeaoianfaaDoorG15
import Derived.Deep.QuietTactic
import Derived.BigQuiet
import Derived.Test.YtcjcjaeaoianfaaDoorG14
import Derived.Test.YtcjcjaeaoianfaaDoorG21
import Derived.Test.YtcjcjaeaoianfaaDoorG05
import Derived.Test.YtcjcjaeaoianfaaDoorG12
namespace Go.Proofs.YtcjcjaeaoianfaaDoor
open Go.RowKit
set_option linter.unusedVariables false

/-- Of the first k numbers those that are (b = true) or are not in ys. -/
def onlyTo (xs ys : List Int) (b : Bool) (k : Nat) : List Int := (xs.take k).filter (fun n => hasB ys n == b)

theorem onlyTo_len (xs ys : List Int) (b : Bool) (k : Nat) : (onlyTo xs ys b k).length ≤ k := Nat.le_trans (List.length_filter_le _ _) (List.length_take_le _ _)
theorem onlyTo_all {xs : List Int} (ys : List Int) (b : Bool) {k : Nat} (h : ¬ k < xs.length) : onlyTo xs ys b k = xs.filter (fun n => hasB ys n == b) := by
  rw [onlyTo, List.take_of_length_le (by omega)]
theorem onlyTo_hit {xs ys : List Int} {b : Bool} {k : Nat} {x : Int} (h : k < xs.length) (hx : Hid (x = xs[k]?.getD 0)) (hb : hasB ys x = b) : onlyTo xs ys b (k + 1) = onlyTo xs ys b k ++ [x] := by
  have hx := hx.out
  rw [List.getElem?_eq_getElem h] at hx
  simp only [Option.getD_some] at hx
  rw [onlyTo, onlyTo, List.take_add_one, List.getElem?_eq_getElem h, List.filter_append]
  simp [← hx, hb]
theorem onlyTo_miss {xs ys : List Int} {b : Bool} {k : Nat} {x : Int} (h : k < xs.length) (hx : Hid (x = xs[k]?.getD 0)) (hb : ¬ hasB ys x = b) : onlyTo xs ys b (k + 1) = onlyTo xs ys b k := by
  have hx := hx.out
  rw [List.getElem?_eq_getElem h] at hx
  simp only [Option.getD_some] at hx
  rw [onlyTo, onlyTo, List.take_add_one, List.getElem?_eq_getElem h, List.filter_append]
  simp [← hx, hb]

set_option maxHeartbeats 1600000 in
set_option maxRecDepth 100000 in
theorem only_some (bx ox cx cy : Nat) (ay : Option Addr) (xs ys : List Int) (bb : Bool) (w : World) (hl : xs.length ≤ 17592186044416) (hbx : bx < w.heap.size) (hc : Cells w bx ox xs) (ht : At w ay ys) (hm : ys.length ≤ maxLen) :
    Calls Tryd.prog 43 #[.slice (some ⟨bx, ox, none⟩) xs.length cx, .slice ay ys.length cy, .bool bb] w fun e w' => ∃ v, e = .returned v ∧ Own w' w.heap.size v (xs.filter (fun n => hasB ys n == bb)) ∧ Below w.heap.size w w' := by
  obtain ⟨i0, hi, hz0, hz1, hz2⟩ := info_parts Tryd.infoInt
  go_enter Tryd.func43, Tryd.ntmps43
  go_wp2
  go_loopw [7, 8] (fun v i wr => ∃ k : Nat, k ≤ xs.length ∧ i = .int .i64 k ∧ Own wr w.heap.size v (onlyTo xs ys bb k) ∧ Below w.heap.size w wr) (fun _ i _ => xs.length - (intOf i).toNat)
  case atStart => exact ⟨0, Nat.zero_le _, rfl, own_nil _ _, Below.refl _ _⟩
  case round =>
    obtain ⟨k, hk, rfl, hown, hbel⟩ := hrel
    by_cases hlt : k < xs.length
    · obtain ⟨x, HX, hcx0⟩ := hc.at hlt
      have hcx : wr.cell? ⟨bx, ox + k, none⟩ = some (.int .i64 x) := (hbel.cell (p := ⟨bx, ox + k, none⟩) hbx).trans hcx0
      clear hcx0
      have htr : At wr ay ys := ht.below hbel (Nat.le_refl _)
      have hsz := hbel.size
      have hll := onlyTo_len xs ys bb k
      go_wp2_with fail
      refine (refHas_any ay cy ys x _ htr hm).mono ?_
      rintro e w' ⟨rfl, rfl⟩
      by_cases hh : hasB ys x = bb
      · have HH : Hid (hasB ys x = bb) := hh
        have d : (hasB ys x == bb) = true := by simp [hh]
        clear hh
        go_wp2_with (at_builtin; refine wpList_append_own _ rfl _ _ 22 rfl w.heap.size 3 i0 (.int .i64 0) 1 8 Tryd.underlying22 hi hz0 hz1 hz2 rfl (by decide) _ _ _ rfl (World.ownsRow.alloc hown _) ⟨w'.heap.size, 0, none⟩ 1 1 [.int .i64 x] rfl rfl (cell_one_new _ _ _) (by intro u hu; simp at hu; subst hu; rfl) (by unfold maxLen; omega) (by omega) (by simp; omega) ?_)
        intro v' w1 hown' hgrow _
        obtain ⟨r1, r2, -⟩ := own_snoc hown hbel hsz hown' hgrow
        rw [← onlyTo_hit hlt HX HH.out] at r1
        clear hown' hgrow hown hcx htr
        go_wp2
        go_roundw
        case rel => exact ⟨k + 1, by omega, by go_num, r1, r2⟩
        case measure => simp [intOf]; omega
      · have d : (hasB ys x == bb) = false := by simp [hh]
        have r1 := hown
        rw [← onlyTo_miss hlt HX hh] at r1
        go_wp2
        go_roundw
        case rel => exact ⟨k + 1, by omega, by go_num, r1, hbel⟩
        case measure => simp [intOf]; omega
    · rw [onlyTo_all ys bb hlt] at hown
      go_wp2
      go_ret
      exact ⟨_, rfl, hown, hbel⟩

set_option maxHeartbeats 400000 in
theorem only_nil (a ay : Option Addr) (cx cy : Nat) (ys : List Int) (bb : Bool) (w : World) :
    Calls Tryd.prog 43 #[.slice a 0 cx, .slice ay ys.length cy, .bool bb] w fun e w' => e = .returned (.slice none 0 0) ∧ w' = w := by
  go_enter Tryd.func43, Tryd.ntmps43
  go_wp2
  refine wp_loop_rounds 1 ?_
  rw [rounds_succ]
  go_wp2
  go_ret
  exact ⟨rfl, rfl⟩

theorem only_any (a ay : Option Addr) (cx cy : Nat) (xs ys : List Int) (bb : Bool) (w : World) (hs : At w a xs) (hl : xs.length ≤ 17592186044416) (ht : At w ay ys) (hm : ys.length ≤ maxLen) :
    Calls Tryd.prog 43 #[.slice a xs.length cx, .slice ay ys.length cy, .bool bb] w fun e w' => Gives w (xs.filter (fun n => hasB ys n == bb)) e w' := by
  rcases hs with rfl | ⟨b, off, rfl, hb, hc⟩
  · refine (only_nil a ay cx cy ys bb w).mono ?_
    rintro e w' ⟨rfl, rfl⟩
    exact gives_of_own (B := w'.heap.size) (own_nil _ _) (Below.refl _ _)
  · refine (only_some b off cx cy ay xs ys bb w hl hb hc ht hm).mono ?_
    rintro e w' ⟨v, rfl, h1, h2⟩
    exact gives_of_own h1 h2

end Go.Proofs.YtcjcjaeaoianfaaDoor
namespace Go.Proofs.YtcjcjaeaoianfaaDoor
open Go.RowKit
set_option linter.unusedVariables false

theorem getD_cons_succ' (y : Int) (r : List Int) (j : Nat) : (y :: r)[j + 1]?.getD 0 = r[j]?.getD 0 := by simp

theorem ins_put {x : Int} : ∀ {L : List Int} {p : Nat}, p ≤ L.length → (∀ j, j < p → L[j]?.getD 0 < x) → (p = L.length ∨ x < L[p]?.getD 0) → ins x L = L.take p ++ x :: L.drop p
  | [], p, hp, _, _ => by have : p = 0 := by simpa using hp
                          subst this; simp [ins]
  | y :: r, 0, _, _, h => by
    rcases h with h | h
    · simp at h
    · have h : x < y := by simpa using h
      simp only [ins, List.take_zero, List.drop_zero, List.nil_append]
      rw [if_neg (by omega), if_neg (by omega)]
  | y :: r, p + 1, hp, hl, h => by
    have h0 : y < x := by simpa using hl 0 (by omega)
    have := ins_put (x := x) (L := r) (p := p) (by simpa using hp) (fun j hj => by have := hl (j + 1) (by omega); rwa [getD_cons_succ'] at this) (by rcases h with h | h; left; simpa using h; right; rwa [getD_cons_succ'] at h)
    simp only [ins]
    rw [if_pos h0, this]
    simp
theorem ins_same {x : Int} : ∀ {L : List Int} {p : Nat}, p < L.length → (∀ j, j < p → L[j]?.getD 0 < x) → L[p]?.getD 0 = x → ins x L = L
  | [], p, hp, _, _ => by simp at hp
  | y :: r, 0, _, _, h => by
    have h : y = x := by simpa using h
    simp only [ins]
    rw [if_neg (by omega), if_pos h]
  | y :: r, p + 1, hp, hl, h => by
    have h0 : y < x := by simpa using hl 0 (by omega)
    have := ins_same (x := x) (L := r) (p := p) (by simpa using hp) (fun j hj => by have := hl (j + 1) (by omega); rwa [getD_cons_succ'] at this) (by rwa [getD_cons_succ'] at h)
    simp only [ins]
    rw [if_pos h0, this]

/-- The list with one place more, at c. -/
def gap (L : List Int) (c : Nat) (y : Int) : List Int := L.take c ++ y :: L.drop c

theorem gap_len {L : List Int} {c : Nat} {y : Int} (h : c ≤ L.length) : (gap L c y).length = L.length + 1 := by simp [gap]; omega
theorem gap_end (L : List Int) : L ++ [0] = gap L L.length 0 := by simp [gap]
theorem gap_at {L : List Int} {c : Nat} {y : Int} (h : c < L.length) : (gap L (c + 1) y)[c]?.getD 0 = L[c]?.getD 0 := by
  rw [gap, List.getElem?_append_left (by simp; omega), List.getElem?_take_of_lt (by omega)]
theorem gap_set {L : List Int} {c : Nat} {y x : Int} (h : c ≤ L.length) : (gap L c y).set c x = gap L c x := by
  rw [gap, gap, List.set_append_right _ _ (by simp; omega)]
  simp only [List.length_take]
  rw [show c - min c L.length = 0 by omega]; rfl
theorem gap_move {L : List Int} {c : Nat} {y : Int} (h : c < L.length) : (gap L (c + 1) y).set (c + 1) (L[c]?.getD 0) = gap L c (L[c]?.getD 0) := by
  rw [gap_set (by omega), gap, gap, List.take_add_one, List.getElem?_eq_getElem h]
  conv => rhs; rw [List.drop_eq_getElem_cons h]
  simp only [Option.toList_some, Option.getD_some, List.append_assoc, List.singleton_append]

theorem Own.cellAt {w : World} {B g n cap : Nat} {M : List Int} (h : Own w B (.slice (some ⟨g, 0, none⟩) n cap) M) {j : Nat} (hj : j < M.length) : w.cell? ⟨g, j, none⟩ = some (.int .i64 (M[j]?.getD 0)) ∧ w.frozen? ⟨g, j, none⟩ = false ∧ B ≤ g := by
  rcases h.cells_of with ⟨h0, _⟩ | ⟨g', cap', h0, hb, hg, hc, hf⟩
  · simp at h0
  · simp only [Value.slice.injEq, Option.some.injEq, Addr.mk.injEq, and_true] at h0
    obtain ⟨rfl, rfl, rfl⟩ := h0
    have := hc j hj
    rw [Nat.zero_add, List.getD_eq_getElem?_getD] at this
    exact ⟨this, hf j, hb⟩
theorem Own.stored {w : World} {B g n cap : Nat} {M : List Int} (h : Own w B (.slice (some ⟨g, 0, none⟩) n cap) M) (j : Nat) (x : Int) : Own (w.setCell ⟨g, j, none⟩ (.int .i64 x)) B (.slice (some ⟨g, 0, none⟩) n cap) (M.set j x) := by
  have hn : n = M.length := by
    rcases h.2 with ⟨h0, _⟩ | ⟨g', cap', cur, h0, _⟩
    · simp at h0
    · simp only [Value.slice.injEq] at h0; exact h0.2.1
  subst hn
  have := (World.ownsRow.stored h j (.int .i64 x)).1
  unfold Own
  rw [List.length_set, List.map_set]
  exact this
theorem Own.shape {w : World} {B : Nat} {v : Value} {M : List Int} (h : Own w B v M) (hp : 0 < M.length) : ∃ g cap, v = .slice (some ⟨g, 0, none⟩) M.length cap := by
  rcases h.cells_of with ⟨_, h0⟩ | ⟨g', cap', h0, _⟩
  · subst h0; simp at hp
  · exact ⟨g', cap', h0⟩

theorem srt_take {xs : List Int} {k : Nat} {x : Int} (h : k < xs.length) (hx : Hid (x = xs[k]?.getD 0)) : srt (xs.take (k + 1)) = ins x (srt (xs.take k)) := by
  have hx := hx.out
  rw [List.getElem?_eq_getElem h, Option.getD_some] at hx
  rw [List.take_add_one, List.getElem?_eq_getElem h, Option.toList_some, srt_snoc, hx]

set_option maxHeartbeats 2000000 in
set_option maxRecDepth 100000 in
theorem sorted_some (bx ox cx : Nat) (xs : List Int) (w : World) (hl : xs.length ≤ 17592186044416) (hbx : bx < w.heap.size) (hc : Cells w bx ox xs) :
    Calls Tryd.prog 76 #[.slice (some ⟨bx, ox, none⟩) xs.length cx] w fun e w' => ∃ v, e = .returned v ∧ Own w' w.heap.size v (srt xs) ∧ Below w.heap.size w w' := by
  obtain ⟨i0, hi, hz0, hz1, hz2⟩ := info_parts Tryd.infoInt
  go_enter Tryd.func76, Tryd.ntmps76
  go_wp2
  go_loopw [3, 4] (fun v i wr => ∃ k : Nat, k ≤ xs.length ∧ i = .int .i64 k ∧ Own wr w.heap.size v (srt (xs.take k)) ∧ Below w.heap.size w wr) (fun _ i _ => xs.length - (intOf i).toNat)
  case atStart => exact ⟨0, Nat.zero_le _, rfl, own_nil _ _, Below.refl _ _⟩
  case round =>
    obtain ⟨k, hk, rfl, hown, hbel⟩ := hrel
    by_cases hlt : k < xs.length
    · obtain ⟨x, HX, hcx0⟩ := hc.at hlt
      obtain ⟨wo, hwo⟩ : ∃ wo : World, wo = wr := ⟨_, rfl⟩
      subst hwo
      have hcx : wo.cell? ⟨bx, ox + k, none⟩ = some (.int .i64 x) := (hbel.cell (p := ⟨bx, ox + k, none⟩) hbx).trans hcx0
      have hcx00 := hcx0
      clear hcx0
      have hnext : Hid (srt (xs.take (k + 1)) = ins x (srt (xs.take k))) := srt_take hlt HX
      have hll : (srt (xs.take k)).length ≤ k := Nat.le_trans (srt_len _) (List.length_take_le _ _)
      generalize srt (xs.take k) = L at *
      obtain ⟨a, cap, rfl, hat, hlm⟩ := hown.at
      unfold maxLen at hlm
      go_wp2
      go_loopw [5] (fun i wr' => ∃ p q : Nat, p ≤ L.length ∧ i = .int .i64 p ∧ wr' = wo.drewN q ∧ Hid (∀ j, j < p → L[j]?.getD 0 < x)) (fun i _ => L.length - (intOf i).toNat)
      case atStart => exact ⟨0, 0, Nat.zero_le _, rfl, rfl, fun j hj => by omega⟩
      case round =>
        obtain ⟨p, q, hp, rfl, rfl, hlow⟩ := hrel
        by_cases hpl : p < L.length
        · rcases hat with h0 | ⟨b, off, rfl, hb, hca⟩
          · subst h0; simp at hpl
          · obtain ⟨y, HY, hcy⟩ := hca.at hpl
            by_cases c1 : y < x
            · have d : decide (y < x) = true := by simpa using c1
              go_wp2
              go_quiet (fail)
              go_wp2
              go_roundw
              case rel => exact ⟨p + 1, _, by omega, by go_num, rfl, fun j hj => by
                by_cases e : j = p
                · subst e; have := HY.out; omega
                · exact hlow.out j (by omega)⟩
              case measure => simp [intOf]; omega
            · have d : decide (y < x) = false := by simpa using c1
              go_wp2
              go_quiet (fail)
              go_wp2
              obtain ⟨Q, hQ⟩ : ∃ Q, (wo.drewN q).drewN nq = wo.drewN Q := ⟨_, World.drewN_drewN _ _ _⟩
              rw [hQ]
              clear hQ
              by_cases c2 : y = x
              · have HC : Hid (y = x) := c2
                have d2 : (y == x) = true := by simp [c2]
                clear c2
                have E2 : Hid (srt (xs.take (k + 1)) = L) := by show _ = _; rw [hnext.out]; exact ins_same hpl hlow.out (by rw [← HY.out]; exact HC.out)
                go_quiet (fail)
                go_wp2
                go_roundw
                case rel => exact ⟨k + 1, by omega, by go_num, by rw [E2.out]; exact hown.drewN _, below_drewN hbel _⟩
                case measure => simp [intOf]; omega
              · have d2 : (y == x) = false := by simp [c2]
                go_quiet (fail)
                obtain ⟨Q', hQ'⟩ : ∃ Q', (wo.drewN Q).drewN nq = wo.drewN Q' := ⟨_, World.drewN_drewN _ _ _⟩
                rw [hQ']
                clear hQ'
                have HE : Hid (p = L.length ∨ x < L[p]?.getD 0) := .inr (by have := HY.out; omega)
                obtain ⟨wq, hwq⟩ : ∃ wq : World, wq = wo.drewN Q' := ⟨_, rfl⟩
                have hown0 : Own wq w.heap.size (.slice (some ⟨b, off, none⟩) L.length cap) L := by rw [hwq]; exact hown.drewN Q'
                have hbelo : Below w.heap.size w wq := by rw [hwq]; exact below_drewN hbel _
                have hcxq : wq.cell? ⟨bx, ox + k, none⟩ = some (.int .i64 x) := by rw [hwq]; exact hcx
                rw [← hwq]
                clear hwq hown hbel hcx
                have hszo : w.heap.size ≤ wq.heap.size := hbelo.size
                have hbxq : bx < wq.heap.size := by omega
                go_wp2_with (at_builtin; refine wpList_append_own _ rfl _ _ 22 rfl w.heap.size 3 i0 (.int .i64 0) 1 8 Tryd.underlying22 hi hz0 hz1 hz2 rfl (by decide) _ _ _ rfl (World.ownsRow.alloc hown0 _) ⟨wq.heap.size, 0, none⟩ 1 1 [.int .i64 0] rfl rfl (cell_one_new _ _ _) (by intro u hu; simp at hu; subst hu; rfl) (by unfold maxLen; omega) (by omega) (by simp; omega) ?_)
                intro v' w1 hown' hgrow _
                obtain ⟨o1, o2, -⟩ := own_snoc hown0 hbelo hszo hown' hgrow
                clear hown' hgrow hown0 hcxq
                obtain ⟨g, cap', rfl⟩ := o1.shape (by simp)
                rw [List.length_append, List.length_singleton] at o1 ⊢
                rw [gap_end] at o1
                go_wp2
                go_loopw [6] (fun i wr' => ∃ (c : Nat) (z : Int), p ≤ c ∧ c ≤ L.length ∧ i = .int .i64 c ∧ Own wr' w.heap.size (.slice (some ⟨g, 0, none⟩) (L.length + 1) cap') (gap L c z) ∧ Below w.heap.size w wr') (fun i _ => (intOf i).toNat)
                case atStart => exact ⟨L.length, 0, hp, Nat.le_refl _, by go_num, o1, o2⟩
                case round =>
                  obtain ⟨c, z, hc1, hc2, rfl, ow, bw⟩ := hrel
                  clear o1 o2
                  by_cases hcp : p < c
                  · obtain ⟨e, rfl⟩ : ∃ e, c = e + 1 := ⟨c - 1, by omega⟩
                    have hgl := gap_len (y := z) hc2
                    obtain ⟨f1, f2, f3⟩ := ow.cellAt (j := e) (by omega)
                    obtain ⟨f4, f5, -⟩ := ow.cellAt (j := e + 1) (by omega)
                    rw [gap_at (by omega)] at f1
                    have ow' := ow.stored (e + 1) (L[e]?.getD 0)
                    rw [gap_move (by omega)] at ow'
                    have bw' := bw.setCell (p := ⟨g, e + 1, none⟩) f3 (.int .i64 (L[e]?.getD 0))
                    generalize L[e]?.getD 0 = u at *
                    generalize (gap L (e + 1) z)[e + 1]?.getD 0 = u' at *
                    clear ow
                    go_wp2
                    go_roundw
                    case rel => exact ⟨e, u, by omega, by omega, by go_num, ow', bw'⟩
                    case measure => simp [intOf]
                  · have hcp' : c = p := by omega
                    subst hcp'
                    have hgl := gap_len (y := z) hc2
                    obtain ⟨f1, f2, f3⟩ := ow.cellAt (j := c) (by omega)
                    have hcx2 : wr.cell? ⟨bx, ox + k, none⟩ = some (.int .i64 x) := (bw.cell (p := ⟨bx, ox + k, none⟩) hbx).trans hcx00
                    have ow' := ow.stored c x
                    rw [gap_set hc2, gap, ← ins_put hc2 hlow.out HE.out, ← hnext.out] at ow'
                    have bw' := bw.setCell (p := ⟨g, c, none⟩) f3 (.int .i64 x)
                    generalize (gap L c z)[c]?.getD 0 = u' at *
                    clear ow
                    go_wp2
                    go_roundw
                    case rel => exact ⟨k + 1, by omega, by go_num, ow', bw'⟩
                    case measure => simp [intOf]; omega
        · go_wp2
          go_quiet (fail)
          go_wp2
          obtain ⟨Q, hQ⟩ : ∃ Q, (wo.drewN q).drewN nq = wo.drewN Q := ⟨_, World.drewN_drewN _ _ _⟩
          rw [hQ]
          clear hQ
          go_quiet (fail)
          obtain ⟨Q', hQ'⟩ : ∃ Q', (wo.drewN Q).drewN nq = wo.drewN Q' := ⟨_, World.drewN_drewN _ _ _⟩
          rw [hQ']
          clear hQ'
          have HE : Hid (p = L.length ∨ x < L[p]?.getD 0) := .inl (by omega)
          obtain ⟨wq, hwq⟩ : ∃ wq : World, wq = wo.drewN Q' := ⟨_, rfl⟩
          have hown0 : Own wq w.heap.size (.slice a L.length cap) L := by rw [hwq]; exact hown.drewN Q'
          have hbelo : Below w.heap.size w wq := by rw [hwq]; exact below_drewN hbel _
          have hcxq : wq.cell? ⟨bx, ox + k, none⟩ = some (.int .i64 x) := by rw [hwq]; exact hcx
          rw [← hwq]
          clear hwq hown hbel hcx hat
          have hszo : w.heap.size ≤ wq.heap.size := hbelo.size
          have hbxq : bx < wq.heap.size := by omega
          go_wp2_with (at_builtin; refine wpList_append_own _ rfl _ _ 22 rfl w.heap.size 3 i0 (.int .i64 0) 1 8 Tryd.underlying22 hi hz0 hz1 hz2 rfl (by decide) _ _ _ rfl (World.ownsRow.alloc hown0 _) ⟨wq.heap.size, 0, none⟩ 1 1 [.int .i64 0] rfl rfl (cell_one_new _ _ _) (by intro u hu; simp at hu; subst hu; rfl) (by unfold maxLen; omega) (by omega) (by simp; omega) ?_)
          intro v' w1 hown' hgrow _
          obtain ⟨o1, o2, -⟩ := own_snoc hown0 hbelo hszo hown' hgrow
          clear hown' hgrow hown0 hcxq
          obtain ⟨g, cap', rfl⟩ := o1.shape (by simp)
          rw [List.length_append, List.length_singleton] at o1 ⊢
          rw [gap_end] at o1
          go_wp2
          go_loopw [6] (fun i wr' => ∃ (c : Nat) (z : Int), p ≤ c ∧ c ≤ L.length ∧ i = .int .i64 c ∧ Own wr' w.heap.size (.slice (some ⟨g, 0, none⟩) (L.length + 1) cap') (gap L c z) ∧ Below w.heap.size w wr') (fun i _ => (intOf i).toNat)
          case atStart => exact ⟨L.length, 0, hp, Nat.le_refl _, by go_num, o1, o2⟩
          case round =>
            obtain ⟨c, z, hc1, hc2, rfl, ow, bw⟩ := hrel
            clear o1 o2
            by_cases hcp : p < c
            · omega
            · have hcp' : c = p := by omega
              subst hcp'
              have hgl := gap_len (y := z) hc2
              obtain ⟨f1, f2, f3⟩ := ow.cellAt (j := c) (by omega)
              have hcx2 : wr.cell? ⟨bx, ox + k, none⟩ = some (.int .i64 x) := (bw.cell (p := ⟨bx, ox + k, none⟩) hbx).trans hcx00
              have ow' := ow.stored c x
              rw [gap_set hc2, gap, ← ins_put hc2 hlow.out HE.out, ← hnext.out] at ow'
              have bw' := bw.setCell (p := ⟨g, c, none⟩) f3 (.int .i64 x)
              generalize (gap L c z)[c]?.getD 0 = u' at *
              clear ow
              go_wp2
              go_roundw
              case rel => exact ⟨k + 1, by omega, by go_num, ow', bw'⟩
              case measure => simp [intOf]; omega
    · rw [List.take_of_length_le (by omega)] at hown
      go_wp2
      go_ret
      exact ⟨_, rfl, hown, hbel⟩

set_option maxHeartbeats 400000 in
theorem sorted_nil (a : Option Addr) (cx : Nat) (w : World) :
    Calls Tryd.prog 76 #[.slice a 0 cx] w fun e w' => e = .returned (.slice none 0 0) ∧ w' = w := by
  go_enter Tryd.func76, Tryd.ntmps76
  go_wp2
  refine wp_loop_rounds 1 ?_
  rw [rounds_succ]
  go_wp2
  go_ret
  exact ⟨rfl, rfl⟩

theorem sorted_any (a : Option Addr) (cx : Nat) (xs : List Int) (w : World) (hs : At w a xs) (hl : xs.length ≤ 17592186044416) :
    Calls Tryd.prog 76 #[.slice a xs.length cx] w fun e w' => Gives w (srt xs) e w' := by
  rcases hs with rfl | ⟨b, off, rfl, hb, hc⟩
  · refine (sorted_nil a cx w).mono ?_
    rintro e w' ⟨rfl, rfl⟩
    exact gives_of_own (B := w'.heap.size) (own_nil _ _) (Below.refl _ _)
  · refine (sorted_some b off cx xs w hl hb hc).mono ?_
    rintro e w' ⟨v, rfl, h1, h2⟩
    exact gives_of_own h1 h2

end Go.Proofs.YtcjcjaeaoianfaaDoor
namespace Go.Proofs.YtcjcjaeaoianfaaDoor
open Go.RowKit

theorem Own.low {w : World} {B B' : Nat} {v : Value} {xs : List Int} (h : Own w B v xs) (hB : B' ≤ B) : Own w B' v xs := by
  refine ⟨h.1, ?_⟩
  rcases h.2 with hn | ⟨g, cap, cur, e, hg, rest⟩
  · exact .inl hn
  · exact .inr ⟨g, cap, cur, e, Nat.le_trans hB hg, rest⟩
theorem GivesO.gives {w : World} {xs : List Int} {e : Ending} {w' : World} (h : GivesO w xs e w') : Gives w xs e w' := by
  obtain ⟨v, rfl, h1, h2⟩ := h
  exact gives_of_own h1 h2
theorem sorted_own (a : Option Addr) (cx : Nat) (xs : List Int) (w : World) (hs : At w a xs) (hl : xs.length ≤ 17592186044416) :
    Calls Tryd.prog 76 #[.slice a xs.length cx] w fun e w' => GivesO w (srt xs) e w' := by
  rcases hs with rfl | ⟨b, off, rfl, hb, hc⟩
  · refine (sorted_nil a cx w).mono ?_
    rintro e w' ⟨rfl, rfl⟩
    exact ⟨_, rfl, own_nil _ _, Below.refl _ _⟩
  · refine (sorted_some b off cx xs w hl hb hc).mono ?_
    rintro e w' ⟨v, rfl, h1, h2⟩
    exact ⟨v, rfl, h1, h2⟩

end Go.Proofs.YtcjcjaeaoianfaaDoor
namespace Go.Proofs.YtcjcjaeaoianfaaDoor
open Go.RowKit
set_option linter.unusedVariables false

theorem hasB_perm {S xs : List Int} (h : ∀ x, x ∈ S ↔ x ∈ xs) (x : Int) : hasB S x = hasB xs x := by
  have := h x
  cases h1 : hasB S x <;> cases h2 : hasB xs x <;> simp_all [hasB]

set_option maxHeartbeats 2000000 in
set_option maxRecDepth 100000 in
theorem pSeen_some (bx ox cx cy : Nat) (ay : Option Addr) (xs ys : List Int) (w : World) (hl : xs.length ≤ 17592186044416) (hbx : bx < w.heap.size) (hc : Cells w bx ox xs) (ht : Hid (At w ay ys)) (hm : Hid (ys.length ≤ 17592186044416)) :
    Calls Tryd.prog 24 #[.slice (some ⟨bx, ox, none⟩) xs.length cx, .slice ay ys.length cy] w fun e w' => ∃ v, e = .returned v ∧ Own w' w.heap.size v (seenL ys xs) ∧ Below w.heap.size w w' := by
  obtain ⟨i0, hi, hz0, hz1, hz2⟩ := info_parts Tryd.infoInt
  go_enter Tryd.func24, Tryd.ntmps24
  go_wp2_with fail
  refine (clone_any ay cy ys _ ht.out hm.out).mono ?_
  rintro e w1 ⟨sv, rfl, hs1, hb1⟩
  have S1 := Hid.of hs1
  have B1 := Hid.of hb1
  clear hs1 hb1
  go_wp2_with fail
  refine (sortI_any _ _ sv ys S1.out hm.out).mono ?_
  rintro e W0 ⟨rfl, S, hSl, hSm, hSs, hSo, hb2⟩
  have B2 : Hid (Below w.heap.size w W0) := hb2 _ _ (Nat.le_refl _) B1.out
  have HM : Hid (∀ x, hasB S x = hasB ys x) := fun x => hasB_perm hSm x
  have HS := Hid.of hSs
  have HL : Hid (S.length ≤ 17592186044416) := by show _ ≤ _; rw [hSl]; exact hm.out
  obtain ⟨sa, sc, rfl, hat, -⟩ := hSo.at
  have HA := Hid.of hat
  clear hSl hSm hSs hSo hb2 hat S1 B1
  go_wp2
  go_loopw [6, 17] (fun v i wr => ∃ k : Nat, k ≤ xs.length ∧ i = .int .i64 k ∧ Own wr W0.heap.size v (onlyTo xs ys true k) ∧ Below W0.heap.size W0 wr) (fun _ i _ => xs.length - (intOf i).toNat)
  case atStart => exact ⟨0, Nat.zero_le _, rfl, own_nil _ _, Below.refl _ _⟩
  case round =>
    obtain ⟨k, hk, rfl, hown, hbel⟩ := hrel
    by_cases hlt : k < xs.length
    · obtain ⟨x, HX, hcx0⟩ := hc.at hlt
      have hcx1 : W0.cell? ⟨bx, ox + k, none⟩ = some (.int .i64 x) := (B2.out.cell (p := ⟨bx, ox + k, none⟩) hbx).trans hcx0
      have hcx : wr.cell? ⟨bx, ox + k, none⟩ = some (.int .i64 x) := (hbel.cell (p := ⟨bx, ox + k, none⟩) (Nat.lt_of_lt_of_le hbx B2.out.size)).trans hcx1
      clear hcx0 hcx1
      have HT : Hid (At wr sa S) := HA.out.below hbel (Nat.le_refl _)
      have hsz := hbel.size
      have hll := onlyTo_len xs ys true k
      go_wp2_with fail
      refine (searchI_any sa sc S x _ HT.out HL.out HS.out).mono ?_
      rintro e w' ⟨⟨n0, rfl⟩, q, rfl⟩
      rw [HM.out x]
      have hownq : Own (wr.drewN q) W0.heap.size u6 (onlyTo xs ys true k) := hown
      have hbelq : Below W0.heap.size W0 (wr.drewN q) := below_drewN hbel q
      have hszq : W0.heap.size ≤ (wr.drewN q).heap.size := hsz
      by_cases hh : hasB ys x = true
      · have HH : Hid (hasB ys x = true) := hh
        clear hown hbel hsz
        rw [hh]
        clear hh
        generalize wr.drewN q = wq at *
        go_wp2_with (at_builtin; refine wpList_append_own _ rfl _ _ 22 rfl W0.heap.size 3 i0 (.int .i64 0) 1 8 Tryd.underlying22 hi hz0 hz1 hz2 rfl (by decide) _ _ _ rfl (World.ownsRow.alloc hownq _) ⟨wq.heap.size, 0, none⟩ 1 1 [.int .i64 x] rfl rfl (cell_one_new _ _ _) (by intro u hu; simp at hu; subst hu; rfl) (by unfold maxLen; omega) (by omega) (by simp; omega) ?_)
        intro v' w1 hown' hgrow _
        obtain ⟨r1, r2, -⟩ := own_snoc hownq hbelq hszq hown' hgrow
        rw [← onlyTo_hit hlt HX HH.out] at r1
        clear hown' hgrow hownq hcx
        go_wp2
        go_roundw
        case rel => exact ⟨k + 1, by omega, by go_num, r1, r2⟩
        case measure => simp [intOf]; omega
      · have hh : hasB ys x = false := by simpa using hh
        have r1 := hownq
        rw [← onlyTo_miss (b := true) hlt HX (by rw [hh]; simp)] at r1
        rw [hh]
        clear hown hbel hsz hownq hh
        generalize wr.drewN q = wq at *
        go_wp2
        go_roundw
        case rel => exact ⟨k + 1, by omega, by go_num, r1, hbelq⟩
        case measure => simp [intOf]; omega
    · rw [onlyTo_all ys true hlt] at hown
      go_wp2
      go_ret
      exact ⟨_, rfl, Own.low hown B2.out.size, B2.out.trans (hbel.mono B2.out.size)⟩

set_option maxHeartbeats 1000000 in
theorem pSeen_nil (ax : Option Addr) (cx cy : Nat) (ay : Option Addr) (ys : List Int) (w : World) (ht : Hid (At w ay ys)) (hm : Hid (ys.length ≤ 17592186044416)) :
    Calls Tryd.prog 24 #[.slice ax 0 cx, .slice ay ys.length cy] w fun e w' => e = .returned (.slice none 0 0) ∧ Below w.heap.size w w' := by
  go_enter Tryd.func24, Tryd.ntmps24
  go_wp2_with fail
  refine (clone_any ay cy ys _ ht.out hm.out).mono ?_
  rintro e w1 ⟨sv, rfl, hs1, hb1⟩
  have S1 := Hid.of hs1
  have B1 := Hid.of hb1
  clear hs1 hb1
  go_wp2_with fail
  refine (sortI_any _ _ sv ys S1.out hm.out).mono ?_
  rintro e W0 ⟨rfl, S, hSl, hSm, hSs, hSo, hb2⟩
  have B2 : Hid (Below w.heap.size w W0) := hb2 _ _ (Nat.le_refl _) B1.out
  clear hSl hSm hSs hSo hb2 S1 B1
  go_wp2
  refine wp_loop_rounds 1 ?_
  rw [rounds_succ]
  go_wp2
  go_ret
  exact ⟨rfl, B2.out⟩

theorem pSeen_any (ax ay : Option Addr) (cx cy : Nat) (xs ys : List Int) (w : World) (hs : At w ax xs) (hl : xs.length ≤ 17592186044416) (ht : At w ay ys) (hm : ys.length ≤ 17592186044416) :
    Calls Tryd.prog 24 #[.slice ax xs.length cx, .slice ay ys.length cy] w fun e w' => ∃ v, e = .returned v ∧ Own w' w.heap.size v (seenL ys xs) ∧ Below w.heap.size w w' := by
  rcases hs with rfl | ⟨b, off, rfl, hb, hc⟩
  · refine (pSeen_nil ax cx cy ay ys w (Hid.of ht) (Hid.of hm)).mono ?_
    rintro e w' ⟨rfl, hb⟩
    exact ⟨_, rfl, own_nil _ _, hb⟩
  · exact pSeen_some b off cx cy ay xs ys w hl hb hc (Hid.of ht) (Hid.of hm)

end Go.Proofs.YtcjcjaeaoianfaaDoor
