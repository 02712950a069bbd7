/-
  The walk of jalousieref1.Sorted: insertion, one number after the other: it answers 'srt xs'.
  jalousieref1.Sorted hands back a slice of its own.
  append(v, y...) of integers: v a row of the call's own, y any slice; and the empty literal slice.
  The walk of jalousieref5.Wide: states, and where unseen events lead to from them.
  The walk of jalousieref2.Step.
-/
import Derived.Test.YtdhgabpoaicjoaaDoorG07
import Derived.Deep.QuietTactic
import Derived.BigQuiet
import Derived.Test.YtdhgabpoaicjoaaDoorG14
import Derived.Test.YtdhgabpoaicjoaaDoorG06
import Derived.Test.YtdhgabpoaicjoaaDoorG03
import Derived.Test.YtdhgabpoaicjoaaDoorG16
import Derived.Test.YtdhgabpoaicjoaaDoorG04
import Derived.Deep.RegionWith
import Derived.Deep.RegionHeld3
namespace Go.Proofs.YtdhgabpoaicjoaaDoor
open Go.RowKit
set_option linter.unusedVariables false

theorem getD_cons_succ' (y : Int) (r : List Int) (j : Nat) : (y :: r)[j + 1]?.getD 0 = r[j]?.getD 0 := by simp

theorem ins_put {x : Int} : ∀ {L : List Int} {p : Nat}, p ≤ L.length → (∀ j, j < p → L[j]?.getD 0 < x) → (p = L.length ∨ x < L[p]?.getD 0) → ins x L = L.take p ++ x :: L.drop p
  | [], p, hp, _, _ => by have : p = 0 := by simpa using hp
                          subst this; simp [ins]
  | y :: r, 0, _, _, h => by
    rcases h with h | h
    · simp at h
    · have h : x < y := by simpa using h
      simp only [ins, List.take_zero, List.drop_zero, List.nil_append]
      rw [if_neg (by omega), if_neg (by omega)]
  | y :: r, p + 1, hp, hl, h => by
    have h0 : y < x := by simpa using hl 0 (by omega)
    have := ins_put (x := x) (L := r) (p := p) (by simpa using hp) (fun j hj => by have := hl (j + 1) (by omega); rwa [getD_cons_succ'] at this) (by rcases h with h | h; left; simpa using h; right; rwa [getD_cons_succ'] at h)
    simp only [ins]
    rw [if_pos h0, this]
    simp
theorem ins_same {x : Int} : ∀ {L : List Int} {p : Nat}, p < L.length → (∀ j, j < p → L[j]?.getD 0 < x) → L[p]?.getD 0 = x → ins x L = L
  | [], p, hp, _, _ => by simp at hp
  | y :: r, 0, _, _, h => by
    have h : y = x := by simpa using h
    simp only [ins]
    rw [if_neg (by omega), if_pos h]
  | y :: r, p + 1, hp, hl, h => by
    have h0 : y < x := by simpa using hl 0 (by omega)
    have := ins_same (x := x) (L := r) (p := p) (by simpa using hp) (fun j hj => by have := hl (j + 1) (by omega); rwa [getD_cons_succ'] at this) (by rwa [getD_cons_succ'] at h)
    simp only [ins]
    rw [if_pos h0, this]

/-- The list with one place more, at c. -/
def gap (L : List Int) (c : Nat) (y : Int) : List Int := L.take c ++ y :: L.drop c

theorem gap_len {L : List Int} {c : Nat} {y : Int} (h : c ≤ L.length) : (gap L c y).length = L.length + 1 := by simp [gap]; omega
theorem gap_end (L : List Int) : L ++ [0] = gap L L.length 0 := by simp [gap]
theorem gap_at {L : List Int} {c : Nat} {y : Int} (h : c < L.length) : (gap L (c + 1) y)[c]?.getD 0 = L[c]?.getD 0 := by
  rw [gap, List.getElem?_append_left (by simp; omega), List.getElem?_take_of_lt (by omega)]
theorem gap_set {L : List Int} {c : Nat} {y x : Int} (h : c ≤ L.length) : (gap L c y).set c x = gap L c x := by
  rw [gap, gap, List.set_append_right _ _ (by simp; omega)]
  simp only [List.length_take]
  rw [show c - min c L.length = 0 by omega]; rfl
theorem gap_move {L : List Int} {c : Nat} {y : Int} (h : c < L.length) : (gap L (c + 1) y).set (c + 1) (L[c]?.getD 0) = gap L c (L[c]?.getD 0) := by
  rw [gap_set (by omega), gap, gap, List.take_add_one, List.getElem?_eq_getElem h]
  conv => rhs; rw [List.drop_eq_getElem_cons h]
  simp only [Option.toList_some, Option.getD_some, List.append_assoc, List.singleton_append]

theorem Own.cellAt {w : World} {B g n cap : Nat} {M : List Int} (h : Own w B (.slice (some ⟨g, 0, none⟩) n cap) M) {j : Nat} (hj : j < M.length) : w.cell? ⟨g, j, none⟩ = some (.int .i64 (M[j]?.getD 0)) ∧ w.frozen? ⟨g, j, none⟩ = false ∧ B ≤ g := by
  rcases h.cells_of with ⟨h0, _⟩ | ⟨g', cap', h0, hb, hg, hc, hf⟩
  · simp at h0
  · simp only [Value.slice.injEq, Option.some.injEq, Addr.mk.injEq, and_true] at h0
    obtain ⟨rfl, rfl, rfl⟩ := h0
    have := hc j hj
    rw [Nat.zero_add, List.getD_eq_getElem?_getD] at this
    exact ⟨this, hf j, hb⟩
theorem Own.stored {w : World} {B g n cap : Nat} {M : List Int} (h : Own w B (.slice (some ⟨g, 0, none⟩) n cap) M) (j : Nat) (x : Int) : Own (w.setCell ⟨g, j, none⟩ (.int .i64 x)) B (.slice (some ⟨g, 0, none⟩) n cap) (M.set j x) := by
  have hn : n = M.length := by
    rcases h.2 with ⟨h0, _⟩ | ⟨g', cap', cur, h0, _⟩
    · simp at h0
    · simp only [Value.slice.injEq] at h0; exact h0.2.1
  subst hn
  have := (World.ownsRow.stored h j (.int .i64 x)).1
  unfold Own
  rw [List.length_set, List.map_set]
  exact this
theorem Own.shape {w : World} {B : Nat} {v : Value} {M : List Int} (h : Own w B v M) (hp : 0 < M.length) : ∃ g cap, v = .slice (some ⟨g, 0, none⟩) M.length cap := by
  rcases h.cells_of with ⟨_, h0⟩ | ⟨g', cap', h0, _⟩
  · subst h0; simp at hp
  · exact ⟨g', cap', h0⟩

theorem srt_take {xs : List Int} {k : Nat} {x : Int} (h : k < xs.length) (hx : Hid (x = xs[k]?.getD 0)) : srt (xs.take (k + 1)) = ins x (srt (xs.take k)) := by
  have hx := hx.out
  rw [List.getElem?_eq_getElem h, Option.getD_some] at hx
  rw [List.take_add_one, List.getElem?_eq_getElem h, Option.toList_some, srt_snoc, hx]

set_option maxHeartbeats 2000000 in
set_option maxRecDepth 100000 in
theorem sorted_some (bx ox cx : Nat) (xs : List Int) (w : World) (hl : xs.length ≤ 17592186044416) (hbx : bx < w.heap.size) (hc : Cells w bx ox xs) :
    Calls Tryd.prog 103 #[.slice (some ⟨bx, ox, none⟩) xs.length cx] w fun e w' => ∃ v, e = .returned v ∧ Own w' w.heap.size v (srt xs) ∧ Below w.heap.size w w' := by
  obtain ⟨i0, hi, hz0, hz1, hz2⟩ := info_parts Tryd.infoInt
  go_enter Tryd.func103, Tryd.ntmps103
  go_wp2
  go_loopw [3, 4] (fun v i wr => ∃ k : Nat, k ≤ xs.length ∧ i = .int .i64 k ∧ Own wr w.heap.size v (srt (xs.take k)) ∧ Below w.heap.size w wr) (fun _ i _ => xs.length - (intOf i).toNat)
  case atStart => exact ⟨0, Nat.zero_le _, rfl, own_nil _ _, Below.refl _ _⟩
  case round =>
    obtain ⟨k, hk, rfl, hown, hbel⟩ := hrel
    by_cases hlt : k < xs.length
    · obtain ⟨x, HX, hcx0⟩ := hc.at hlt
      obtain ⟨wo, hwo⟩ : ∃ wo : World, wo = wr := ⟨_, rfl⟩
      subst hwo
      have hcx : wo.cell? ⟨bx, ox + k, none⟩ = some (.int .i64 x) := (hbel.cell (p := ⟨bx, ox + k, none⟩) hbx).trans hcx0
      have hcx00 := hcx0
      clear hcx0
      have hnext : Hid (srt (xs.take (k + 1)) = ins x (srt (xs.take k))) := srt_take hlt HX
      have hll : (srt (xs.take k)).length ≤ k := Nat.le_trans (srt_len _) (List.length_take_le _ _)
      generalize srt (xs.take k) = L at *
      obtain ⟨a, cap, rfl, hat, hlm⟩ := hown.at
      unfold maxLen at hlm
      go_wp2
      go_loopw [5] (fun i wr' => ∃ p q : Nat, p ≤ L.length ∧ i = .int .i64 p ∧ wr' = wo.drewN q ∧ Hid (∀ j, j < p → L[j]?.getD 0 < x)) (fun i _ => L.length - (intOf i).toNat)
      case atStart => exact ⟨0, 0, Nat.zero_le _, rfl, rfl, fun j hj => by omega⟩
      case round =>
        obtain ⟨p, q, hp, rfl, rfl, hlow⟩ := hrel
        by_cases hpl : p < L.length
        · rcases hat with h0 | ⟨b, off, rfl, hb, hca⟩
          · subst h0; simp at hpl
          · obtain ⟨y, HY, hcy⟩ := hca.at hpl
            by_cases c1 : y < x
            · have d : decide (y < x) = true := by simpa using c1
              go_wp2
              go_quiet (fail)
              go_wp2
              go_roundw
              case rel => exact ⟨p + 1, _, by omega, by go_num, rfl, fun j hj => by
                by_cases e : j = p
                · subst e; have := HY.out; omega
                · exact hlow.out j (by omega)⟩
              case measure => simp [intOf]; omega
            · have d : decide (y < x) = false := by simpa using c1
              go_wp2
              go_quiet (fail)
              go_wp2
              obtain ⟨Q, hQ⟩ : ∃ Q, (wo.drewN q).drewN nq = wo.drewN Q := ⟨_, World.drewN_drewN _ _ _⟩
              rw [hQ]
              clear hQ
              by_cases c2 : y = x
              · have HC : Hid (y = x) := c2
                have d2 : (y == x) = true := by simp [c2]
                clear c2
                have E2 : Hid (srt (xs.take (k + 1)) = L) := by show _ = _; rw [hnext.out]; exact ins_same hpl hlow.out (by rw [← HY.out]; exact HC.out)
                go_quiet (fail)
                go_wp2
                go_roundw
                case rel => exact ⟨k + 1, by omega, by go_num, by rw [E2.out]; exact hown.drewN _, below_drewN hbel _⟩
                case measure => simp [intOf]; omega
              · have d2 : (y == x) = false := by simp [c2]
                go_quiet (fail)
                obtain ⟨Q', hQ'⟩ : ∃ Q', (wo.drewN Q).drewN nq = wo.drewN Q' := ⟨_, World.drewN_drewN _ _ _⟩
                rw [hQ']
                clear hQ'
                have HE : Hid (p = L.length ∨ x < L[p]?.getD 0) := .inr (by have := HY.out; omega)
                obtain ⟨wq, hwq⟩ : ∃ wq : World, wq = wo.drewN Q' := ⟨_, rfl⟩
                have hown0 : Own wq w.heap.size (.slice (some ⟨b, off, none⟩) L.length cap) L := by rw [hwq]; exact hown.drewN Q'
                have hbelo : Below w.heap.size w wq := by rw [hwq]; exact below_drewN hbel _
                have hcxq : wq.cell? ⟨bx, ox + k, none⟩ = some (.int .i64 x) := by rw [hwq]; exact hcx
                rw [← hwq]
                clear hwq hown hbel hcx
                have hszo : w.heap.size ≤ wq.heap.size := hbelo.size
                have hbxq : bx < wq.heap.size := by omega
                go_wp2_with (at_builtin; refine wpList_append_own _ rfl _ _ 22 rfl w.heap.size 3 i0 (.int .i64 0) 1 8 Tryd.underlying22 hi hz0 hz1 hz2 rfl (by decide) _ _ _ rfl (World.ownsRow.alloc hown0 _) ⟨wq.heap.size, 0, none⟩ 1 1 [.int .i64 0] rfl rfl (cell_one_new _ _ _) (by intro u hu; simp at hu; subst hu; rfl) (by unfold maxLen; omega) (by omega) (by simp; omega) ?_)
                intro v' w1 hown' hgrow _
                obtain ⟨o1, o2, -⟩ := own_snoc hown0 hbelo hszo hown' hgrow
                clear hown' hgrow hown0 hcxq
                obtain ⟨g, cap', rfl⟩ := o1.shape (by simp)
                rw [List.length_append, List.length_singleton] at o1 ⊢
                rw [gap_end] at o1
                go_wp2
                go_loopw [6] (fun i wr' => ∃ (c : Nat) (z : Int), p ≤ c ∧ c ≤ L.length ∧ i = .int .i64 c ∧ Own wr' w.heap.size (.slice (some ⟨g, 0, none⟩) (L.length + 1) cap') (gap L c z) ∧ Below w.heap.size w wr') (fun i _ => (intOf i).toNat)
                case atStart => exact ⟨L.length, 0, hp, Nat.le_refl _, by go_num, o1, o2⟩
                case round =>
                  obtain ⟨c, z, hc1, hc2, rfl, ow, bw⟩ := hrel
                  clear o1 o2
                  by_cases hcp : p < c
                  · obtain ⟨e, rfl⟩ : ∃ e, c = e + 1 := ⟨c - 1, by omega⟩
                    have hgl := gap_len (y := z) hc2
                    obtain ⟨f1, f2, f3⟩ := ow.cellAt (j := e) (by omega)
                    obtain ⟨f4, f5, -⟩ := ow.cellAt (j := e + 1) (by omega)
                    rw [gap_at (by omega)] at f1
                    have ow' := ow.stored (e + 1) (L[e]?.getD 0)
                    rw [gap_move (by omega)] at ow'
                    have bw' := bw.setCell (p := ⟨g, e + 1, none⟩) f3 (.int .i64 (L[e]?.getD 0))
                    generalize L[e]?.getD 0 = u at *
                    generalize (gap L (e + 1) z)[e + 1]?.getD 0 = u' at *
                    clear ow
                    go_wp2
                    go_roundw
                    case rel => exact ⟨e, u, by omega, by omega, by go_num, ow', bw'⟩
                    case measure => simp [intOf]
                  · have hcp' : c = p := by omega
                    subst hcp'
                    have hgl := gap_len (y := z) hc2
                    obtain ⟨f1, f2, f3⟩ := ow.cellAt (j := c) (by omega)
                    have hcx2 : wr.cell? ⟨bx, ox + k, none⟩ = some (.int .i64 x) := (bw.cell (p := ⟨bx, ox + k, none⟩) hbx).trans hcx00
                    have ow' := ow.stored c x
                    rw [gap_set hc2, gap, ← ins_put hc2 hlow.out HE.out, ← hnext.out] at ow'
                    have bw' := bw.setCell (p := ⟨g, c, none⟩) f3 (.int .i64 x)
                    generalize (gap L c z)[c]?.getD 0 = u' at *
                    clear ow
                    go_wp2
                    go_roundw
                    case rel => exact ⟨k + 1, by omega, by go_num, ow', bw'⟩
                    case measure => simp [intOf]; omega
        · go_wp2
          go_quiet (fail)
          go_wp2
          obtain ⟨Q, hQ⟩ : ∃ Q, (wo.drewN q).drewN nq = wo.drewN Q := ⟨_, World.drewN_drewN _ _ _⟩
          rw [hQ]
          clear hQ
          go_quiet (fail)
          obtain ⟨Q', hQ'⟩ : ∃ Q', (wo.drewN Q).drewN nq = wo.drewN Q' := ⟨_, World.drewN_drewN _ _ _⟩
          rw [hQ']
          clear hQ'
          have HE : Hid (p = L.length ∨ x < L[p]?.getD 0) := .inl (by omega)
          obtain ⟨wq, hwq⟩ : ∃ wq : World, wq = wo.drewN Q' := ⟨_, rfl⟩
          have hown0 : Own wq w.heap.size (.slice a L.length cap) L := by rw [hwq]; exact hown.drewN Q'
          have hbelo : Below w.heap.size w wq := by rw [hwq]; exact below_drewN hbel _
          have hcxq : wq.cell? ⟨bx, ox + k, none⟩ = some (.int .i64 x) := by rw [hwq]; exact hcx
          rw [← hwq]
          clear hwq hown hbel hcx hat
          have hszo : w.heap.size ≤ wq.heap.size := hbelo.size
          have hbxq : bx < wq.heap.size := by omega
          go_wp2_with (at_builtin; refine wpList_append_own _ rfl _ _ 22 rfl w.heap.size 3 i0 (.int .i64 0) 1 8 Tryd.underlying22 hi hz0 hz1 hz2 rfl (by decide) _ _ _ rfl (World.ownsRow.alloc hown0 _) ⟨wq.heap.size, 0, none⟩ 1 1 [.int .i64 0] rfl rfl (cell_one_new _ _ _) (by intro u hu; simp at hu; subst hu; rfl) (by unfold maxLen; omega) (by omega) (by simp; omega) ?_)
          intro v' w1 hown' hgrow _
          obtain ⟨o1, o2, -⟩ := own_snoc hown0 hbelo hszo hown' hgrow
          clear hown' hgrow hown0 hcxq
          obtain ⟨g, cap', rfl⟩ := o1.shape (by simp)
          rw [List.length_append, List.length_singleton] at o1 ⊢
          rw [gap_end] at o1
          go_wp2
          go_loopw [6] (fun i wr' => ∃ (c : Nat) (z : Int), p ≤ c ∧ c ≤ L.length ∧ i = .int .i64 c ∧ Own wr' w.heap.size (.slice (some ⟨g, 0, none⟩) (L.length + 1) cap') (gap L c z) ∧ Below w.heap.size w wr') (fun i _ => (intOf i).toNat)
          case atStart => exact ⟨L.length, 0, hp, Nat.le_refl _, by go_num, o1, o2⟩
          case round =>
            obtain ⟨c, z, hc1, hc2, rfl, ow, bw⟩ := hrel
            clear o1 o2
            by_cases hcp : p < c
            · omega
            · have hcp' : c = p := by omega
              subst hcp'
              have hgl := gap_len (y := z) hc2
              obtain ⟨f1, f2, f3⟩ := ow.cellAt (j := c) (by omega)
              have hcx2 : wr.cell? ⟨bx, ox + k, none⟩ = some (.int .i64 x) := (bw.cell (p := ⟨bx, ox + k, none⟩) hbx).trans hcx00
              have ow' := ow.stored c x
              rw [gap_set hc2, gap, ← ins_put hc2 hlow.out HE.out, ← hnext.out] at ow'
              have bw' := bw.setCell (p := ⟨g, c, none⟩) f3 (.int .i64 x)
              generalize (gap L c z)[c]?.getD 0 = u' at *
              clear ow
              go_wp2
              go_roundw
              case rel => exact ⟨k + 1, by omega, by go_num, ow', bw'⟩
              case measure => simp [intOf]; omega
    · rw [List.take_of_length_le (by omega)] at hown
      go_wp2
      go_ret
      exact ⟨_, rfl, hown, hbel⟩

set_option maxHeartbeats 400000 in
theorem sorted_nil (a : Option Addr) (cx : Nat) (w : World) :
    Calls Tryd.prog 103 #[.slice a 0 cx] w fun e w' => e = .returned (.slice none 0 0) ∧ w' = w := by
  go_enter Tryd.func103, Tryd.ntmps103
  go_wp2
  refine wp_loop_rounds 1 ?_
  rw [rounds_succ]
  go_wp2
  go_ret
  exact ⟨rfl, rfl⟩

theorem sorted_any (a : Option Addr) (cx : Nat) (xs : List Int) (w : World) (hs : At w a xs) (hl : xs.length ≤ 17592186044416) :
    Calls Tryd.prog 103 #[.slice a xs.length cx] w fun e w' => Gives w (srt xs) e w' := by
  rcases hs with rfl | ⟨b, off, rfl, hb, hc⟩
  · refine (sorted_nil a cx w).mono ?_
    rintro e w' ⟨rfl, rfl⟩
    exact gives_of_own (B := w'.heap.size) (own_nil _ _) (Below.refl _ _)
  · refine (sorted_some b off cx xs w hl hb hc).mono ?_
    rintro e w' ⟨v, rfl, h1, h2⟩
    exact gives_of_own h1 h2

end Go.Proofs.YtdhgabpoaicjoaaDoor
namespace Go.Proofs.YtdhgabpoaicjoaaDoor
open Go.RowKit

theorem Own.low {w : World} {B B' : Nat} {v : Value} {xs : List Int} (h : Own w B v xs) (hB : B' ≤ B) : Own w B' v xs := by
  refine ⟨h.1, ?_⟩
  rcases h.2 with hn | ⟨g, cap, cur, e, hg, rest⟩
  · exact .inl hn
  · exact .inr ⟨g, cap, cur, e, Nat.le_trans hB hg, rest⟩
theorem GivesO.gives {w : World} {xs : List Int} {e : Ending} {w' : World} (h : GivesO w xs e w') : Gives w xs e w' := by
  obtain ⟨v, rfl, h1, h2⟩ := h
  exact gives_of_own h1 h2
theorem sorted_own (a : Option Addr) (cx : Nat) (xs : List Int) (w : World) (hs : At w a xs) (hl : xs.length ≤ 17592186044416) :
    Calls Tryd.prog 103 #[.slice a xs.length cx] w fun e w' => GivesO w (srt xs) e w' := by
  rcases hs with rfl | ⟨b, off, rfl, hb, hc⟩
  · refine (sorted_nil a cx w).mono ?_
    rintro e w' ⟨rfl, rfl⟩
    exact ⟨_, rfl, own_nil _ _, Below.refl _ _⟩
  · refine (sorted_some b off cx xs w hl hb hc).mono ?_
    rintro e w' ⟨v, rfl, h1, h2⟩
    exact ⟨v, rfl, h1, h2⟩

end Go.Proofs.YtdhgabpoaicjoaaDoor
namespace Go.Proofs.YtdhgabpoaicjoaaDoor
open Go.RowKit
set_option linter.unusedVariables false

section
variable {P : Program} (w : World)
theorem wp_append_nil {o : Oper} {a : Act} {K : Act → World → Prop} {Q : Exit → Act → World → Prop} (s x : Operand) (t : TypeId)
    (ho : o.op = .call { callee := .builtin .append, args := #[s, x], argTypes := #[t, t] })
    (base : Nat) (e : TypeId) (i : TypeInfo) (size : Nat) (ht : P.underlying t = some (.slice e)) (hi : P.info? e = some i)
    (v : Value) (n : Nat) (xs : List Value) (hs : a.eval s = v) (hown : w.ownsRow base e size v n xs) (hx : a.eval x = .slice none 0 0)
    (h : K (a.put o.dst v) w) : o.wp P a w K Q := by
  have hr := run_append_owned_none (P := P) w base t o.type e i size ht hi v n xs hown
  unfold Oper.wp execOp
  simp only [ho, resolve, invoke, builtin, Sem.run_bind, Sem.run_pure, Result.andThen_ok, List.map_toArray, List.map_cons, List.map_nil, hs, hx, hr]
  exact h

/-- append(v, y...): v is a row of integers of the call's own, y any slice of integers (nil among them). -/
theorem wpList_append_ints {ops : Array Oper} {rest : List Oper} {o : Oper} {a : Act} {Q : Exit → Act → World → Prop} (hgd : o.guard = none) (s x : Operand) (t : TypeId)
    (ho : o.op = .call { callee := .builtin .append, args := #[s, x], argTypes := #[t, t] })
    (B : Nat) (i : TypeInfo) (ht : P.underlying t = some (.slice 3)) (hi : P.info? 3 = some i) (hz : i.zero = some (.int .i64 0)) (hsize : i.size = 1) (hby : i.bytes = 8)
    (v : Value) (L : List Int) (hs : a.eval s = v) (hown : Own w B v L)
    (ad : Option Addr) (c : Nat) (ys : List Int) (hx : a.eval x = .slice ad ys.length c) (hat : At w ad ys) (hnil : ad = none → c = 0)
    (hroom : (L.length + ys.length) * 8 ≤ 140737488355328) (hbase : B ≤ w.heap.size)
    (h : ∀ v' w', Own w' B v' (L ++ ys) → Below B w w' → B ≤ w'.heap.size → wpList P ops Q rest (a.put o.dst v') w') : wpList P ops Q (o :: rest) a w := by
  cases ad with
  | none =>
    have hy : ys = [] := by
      rcases hat with h | ⟨b, off, h, _⟩
      · exact h
      · cases h
    subst hy
    rw [hnil rfl] at hx
    refine wpList_plain hgd fun _ hK => wp_append_nil w s x t ho B 3 i 1 ht hi v _ _ hs hown hx (hK _ _ (h v w ?_ (Below.refl _ _) hbase))
    rw [List.append_nil]; exact hown
  | some ad =>
    refine wpList_append_own w hgd s x t ho B 3 i (.int .i64 0) 1 8 ht hi hz hsize hby rfl (by decide) v _ _ hs hown ad ys.length c (ys.map (Value.int .i64)) hx (by simp) ?_ ?_ (by unfold maxLen; omega) hroom hbase ?_
    · intro j u hu
      rw [List.getElem?_map] at hu
      rcases hat with h0 | ⟨b, off, h0, _, hc⟩
      · subst h0; simp at hu
      · cases h0
        cases hj : ys[j]? with
        | none => rw [hj] at hu; simp at hu
        | some y =>
          rw [hj] at hu
          simp only [Option.map_some, Option.some.injEq] at hu
          subst hu
          have := hc j (List.getElem?_eq_some_iff.1 hj).1
          rw [List.getD_eq_getElem?_getD, hj, Option.getD_some] at this
          rw [show (⟨b, off, none⟩ : Addr).add j = ⟨b, off + j, none⟩ from by simp [Addr.add]]
          exact this
    · intro u hu
      obtain ⟨y, _, rfl⟩ := List.mem_map.1 hu
      rfl
    · intro v' w' ho' hg _
      refine h v' w' ?_ ((Below.refl _ _).grown hg hbase (fun j hj => (hown.lt j hj).1)) (Nat.le_trans hbase hg.size)
      unfold Own
      rw [List.length_append, List.map_append]
      exact ho'
end

theorem own_empty (w : World) : Own (w.alloc (.cells #[] 3)) w.heap.size (.slice (some ⟨w.heap.size, 0, none⟩) 0 0) [] :=
  World.ownsRow_lit w #[] 0 (Nat.le_refl _) (Nat.zero_le _) rfl

end Go.Proofs.YtdhgabpoaicjoaaDoor
namespace Go.Proofs.YtdhgabpoaicjoaaDoor
open Go.RowKit
set_option linter.unusedVariables false

set_option maxHeartbeats 4000000 in
set_option maxRecDepth 100000 in
theorem refWide_some (st ev : Int) (starts : List Int) (ars : List Arr) (ends : List Int) (a1 : Option Addr) (c1 b off c2 : Nat) (a3 : Option Addr) (c3 : Nat) (sa na : Option Addr) (sc nc : Nat) (ss seen : List Int) (w : World) (hlen : ars.length ≤ 4096) (hb : b < w.heap.size) (hca : CellsA w b off ars) (hin : Hid (∀ a ∈ ars, 0 ≤ a.t ∧ a.t < (256 : Nat))) (hs : At w sa ss) (hsl : ss.length ≤ 4096) (hn : Hid (sa = none → sc = 0)) (hq : Hid (At w na seen)) (hql : Hid (seen.length ≤ maxLen)) :
    Calls Tryd.prog 70 #[mval ⟨st, ev, starts, ars, ends⟩ ⟨a1, c1, some ⟨b, off, none⟩, c2, a3, c3⟩, .slice sa ss.length sc, .slice na seen.length nc] w fun e w' => GivesO w (wideL ars seen ss) e w' := by
  obtain ⟨i0, hi, hz0, hz1, hz2⟩ := info_parts Tryd.infoInt
  have o0 : Own ((w.alloc (.cells (mcells ⟨st, ev, starts, ars, ends⟩ ⟨a1, c1, some ⟨b, off, none⟩, c2, a3, c3⟩) 25)).alloc (.cells #[] 3)) (w.heap.size + 1) (.slice (some ⟨w.heap.size + 1, 0, none⟩) 0 0) [] := by
    have := own_empty (w.alloc (.cells (mcells ⟨st, ev, starts, ars, ends⟩ ⟨a1, c1, some ⟨b, off, none⟩, c2, a3, c3⟩) 25))
    rwa [World.size_alloc] at this
  have b0 : Below w.heap.size w ((w.alloc (.cells (mcells ⟨st, ev, starts, ars, ends⟩ ⟨a1, c1, some ⟨b, off, none⟩, c2, a3, c3⟩) 25)).alloc (.cells #[] 3)) := ((Below.refl _ _).alloc (Nat.le_refl _) _).alloc (by simp) _
  have bb0 : Below (w.heap.size + 1) (w.alloc (.cells (mcells ⟨st, ev, starts, ars, ends⟩ ⟨a1, c1, some ⟨b, off, none⟩, c2, a3, c3⟩) 25)) ((w.alloc (.cells (mcells ⟨st, ev, starts, ars, ends⟩ ⟨a1, c1, some ⟨b, off, none⟩, c2, a3, c3⟩) 25)).alloc (.cells #[] 3)) := (Below.refl _ _).alloc (by simp) _
  have s0 := hs.below b0 (Nat.le_refl _)
  go_enter Tryd.func70, Tryd.ntmps70
  go_wp2_with (at_builtin; refine wpList_append_ints _ rfl _ _ 22 rfl (w.heap.size + 1) i0 Tryd.underlying22 hi hz0 hz1 hz2 _ [] rfl o0 sa sc ss rfl s0 hn.out (by simp only [List.length_nil]; omega) (by simp) ?_)
  intro v0 w0 o1 b1 z1
  have B1 : Hid (Below (w.heap.size + 1) (w.alloc (.cells (mcells ⟨st, ev, starts, ars, ends⟩ ⟨a1, c1, some ⟨b, off, none⟩, c2, a3, c3⟩) 25)) w0) := bb0.trans b1
  have O1 : Hid (Own w0 (w.heap.size + 1) v0 ss) := o1
  clear o0 b0 bb0 s0 o1 b1
  go_wp2
  go_loopw [7, 8] (fun v i wr => ∃ (k : Nat) (L : List Int), k ≤ L.length ∧ i = .int .i64 k ∧ Hid (Own wr (w.heap.size + 1) v L) ∧ Hid (Below (w.heap.size + 1) (w.alloc (.cells (mcells ⟨st, ev, starts, ars, ends⟩ ⟨a1, c1, some ⟨b, off, none⟩, c2, a3, c3⟩) 25)) wr) ∧ Hid (wGo ars seen (ss.length + 256) 0 ss = wGo ars seen (ss.length + 256 - k) k L) ∧ Hid (WB ss L)) (fun _ i _ => ss.length + 256 - (intOf i).toNat)
  case atStart => exact ⟨0, ss, by omega, rfl, O1, B1, rfl, WB.refl _⟩
  case round =>
    clear O1 B1
    obtain ⟨k, L, hk, rfl, hown, hbel, hc, hwb⟩ := hrel
    have hold := Hid.of (below_box hbel.out)
    have hsz := hbel.out.size
    rw [World.size_alloc] at hsz
    have hbx : w.heap.size < wr.heap.size := by omega
    obtain ⟨-, -, -, x3, -⟩ := box_cells hbel.out
    dsimp only at x3
    have hll := hwb.out.len
    obtain ⟨la, lc, rfl, hat, hln⟩ := hown.out.at
    by_cases hks : k < L.length
    · go_wp2
      obtain ⟨x, HX⟩ : ∃ x, Hid (x = L[k]?.getD 0) := ⟨_, rfl⟩
      go_loopw [7, 9] (fun v i wr' => ∃ (j : Nat), j ≤ ars.length ∧ i = .int .i64 j ∧ Hid (Own wr' (w.heap.size + 1) v (wRow (ars.take j) seen x L)) ∧ Hid (Below (w.heap.size + 1) (w.alloc (.cells (mcells ⟨st, ev, starts, ars, ends⟩ ⟨a1, c1, some ⟨b, off, none⟩, c2, a3, c3⟩) 25)) wr') ∧ Hid (WB ss (wRow (ars.take j) seen x L))) (fun _ i _ => ars.length - (intOf i).toNat)
      case atStart => exact ⟨0, Nat.zero_le _, rfl, hown, hbel, hwb⟩
      case round =>
        clear hown hbel hold hat x3 hsz hbx hln hwb
        obtain ⟨j, hj, rfl, hown, hbel, hwb⟩ := hrel
        have hold := Hid.of (below_box hbel.out)
        have hsz := hbel.out.size
        rw [World.size_alloc] at hsz
        have hbx : w.heap.size < wr.heap.size := by omega
        obtain ⟨-, -, -, x3, -⟩ := box_cells hbel.out
        dsimp only at x3
        by_cases hlt : j < ars.length
        · obtain ⟨a, HA, y0, y1, y2⟩ := hca.at hlt
          have y0' := (hold.out.cell (p := ⟨b, off + j * 3, none⟩) hb).trans y0
          have y1' := (hold.out.cell (p := ⟨b, off + j * 3 + 1, none⟩) hb).trans y1
          have y2' := (hold.out.cell (p := ⟨b, off + j * 3 + 2, none⟩) hb).trans y2
          clear y0 y1 y2
          have HN := Hid.of (wRow_take (seen := seen) (x := x) (l := L) hlt HA)
          have HK := Hid.of (wRow_nth (ars := ars.take j) (seen := seen) (x := x) hks)
          obtain ⟨T, hT⟩ : ∃ T, T = wRow (ars.take j) seen x L := ⟨_, rfl⟩
          rw [← hT] at hown hwb HN HK
          clear hT
          have hlT := hwb.out.len
          have hkT := HK.out.1
          have hmem : a ∈ ars := by have := HA.out; rw [List.getElem?_eq_getElem hlt, Option.getD_some] at this; rw [this]; exact List.getElem_mem _
          have hta := Hid.of (hin.out a hmem)
          have HW : Hid (WB ss (wAdd seen x T a)) := hwb.out.add hta.out
          clear hmem
          obtain ⟨la', lc', rfl, hat, hln⟩ := hown.out.at
          rcases hat with h0 | ⟨lb, lo, rfl, hlb, hcl⟩
          · exact absurd (by rw [h0]; rfl) (show ¬ T.length = 0 by omega)
          obtain ⟨x', HX', hcx⟩ := hcl.at hkT
          have hxx : Hid (x' = x) := by show _ = _; rw [HX'.out, HK.out.2, ← HX.out]
          have OV : Hid (Own (wr.alloc (Obj.cells #[.int .i64 a.f, .int .i64 a.e, .int .i64 a.t] 61)) (w.heap.size + 1) (.slice (some ⟨lb, lo, none⟩) T.length lc') T) := World.ownsRow.alloc hown.out _
          have BV : Hid (Below (w.heap.size + 1) (w.alloc (.cells (mcells ⟨st, ev, starts, ars, ends⟩ ⟨a1, c1, some ⟨b, off, none⟩, c2, a3, c3⟩) 25)) (wr.alloc (Obj.cells #[.int .i64 a.f, .int .i64 a.e, .int .i64 a.t] 61))) := hbel.out.alloc (by omega) _
          have B9 : Below w.heap.size w (wr.alloc (Obj.cells #[.int .i64 a.f, .int .i64 a.e, .int .i64 a.t] 61)) := hold.out.alloc (by omega) _
          have KV : Hid (Blk (wr.alloc (Obj.cells #[.int .i64 a.f, .int .i64 a.e, .int .i64 a.t] 61)) wr.heap.size 61 #[.int .i64 a.f, .int .i64 a.e, .int .i64 a.t]) := Blk.new wr _ _
          have cV : (wr.alloc (Obj.cells #[.int .i64 a.f, .int .i64 a.e, .int .i64 a.t] 61)).cell? ⟨lb, lo + k, none⟩ = some (.int .i64 x') := (((Below.refl wr.heap.size wr).alloc (Nat.le_refl _) _).cell (p := ⟨lb, lo + k, none⟩) hlb).trans hcx
          have qV : Hid (At (wr.alloc (Obj.cells #[.int .i64 a.f, .int .i64 a.e, .int .i64 a.t] 61)) na seen) := hq.out.below B9 (Nat.le_refl _)
          have f0 := KV.out.cell 0 rfl
          have f1 := KV.out.cell 1 rfl
          have f2 := KV.out.cell 2 rfl
          go_wp2_with fail
          clear B9 hcx hlb hcl y0' y1' y2' x3 hown hbel hold hsz
          have hVs : Hid (wr.heap.size < (wr.alloc (Obj.cells #[.int .i64 a.f, .int .i64 a.e, .int .i64 a.t] 61)).heap.size) := by show _ < _; rw [World.size_alloc]; omega
          revert OV BV KV cV qV f0 f1 f2 hVs
          generalize wr.alloc (Obj.cells #[.int .i64 a.f, .int .i64 a.e, .int .i64 a.t] 61) = V
          generalize wr.heap.size = N at *
          intro OV BV KV cV qV f0 f1 f2 hVs
          obtain ⟨la2, lc2, e2, aT, lT⟩ := OV.out.at
          cases e2
          have KEY1 : Hid (∀ n, Calls Tryd.prog 102 #[.slice na seen.length nc, .int .i64 a.e] (V.drewN n) fun e w' => e = .returned (.bool (hasB seen a.e)) ∧ w' = V.drewN n) := fun n => refHas_any na nc seen a.e _ (At.drewN qV.out n) hql.out
          have KEY2 : Hid (∀ n, Calls Tryd.prog 102 #[.slice (some ⟨lb, lo, none⟩) T.length lc', .int .i64 a.t] (V.drewN n) fun e w' => e = .returned (.bool (hasB T a.t)) ∧ w' = V.drewN n) := fun n => refHas_any _ lc' T a.t _ (At.drewN aT n) lT
          clear aT lT qV KV
          by_cases d1 : a.f = x'
          · have g1 : (a.f == x') = true := by simp [d1]
            have D1 : Hid (a.f = x) := by show _ = _; rw [d1, hxx.out]
            clear d1
            by_cases d2 : hasB seen a.e = true
            · rw [d2] at KEY1
              have HR : Hid (wAdd seen x T a = T) := by show _ = _; unfold wAdd; rw [if_neg (by rw [d2]; simp)]
              clear d2
              go_quiet (first | (go_at_call_of 102 (Value.slice na seen.length nc); exact Calls.quiet_of_same (KEY1.out _)) | (go_at_call_of 102 (Value.slice (some ⟨lb, lo, none⟩) T.length lc'); exact Calls.quiet_of_same (KEY2.out _)))
              obtain ⟨V2, HV2⟩ : ∃ V2, Hid (V2 = V.drewN nq) := ⟨_, rfl⟩
              have OV2 : Hid (Own V2 (w.heap.size + 1) (.slice (some ⟨lb, lo, none⟩) T.length lc') T) := by show Own _ _ _ _; rw [HV2.out]; exact OV.out
              have BV2 : Hid (Below (w.heap.size + 1) (w.alloc (.cells (mcells ⟨st, ev, starts, ars, ends⟩ ⟨a1, c1, some ⟨b, off, none⟩, c2, a3, c3⟩) 25)) V2) := by show Below _ _ _; rw [HV2.out]; exact below_drewN BV.out nq
              rw [← HV2.out]
              clear OV BV KEY1 KEY2 cV f0 f1 f2
              go_wp2
              go_roundw
              case rel => exact ⟨j + 1, by omega, by go_num, by rw [HN.out, HR.out]; exact OV2, BV2, by rw [HN.out]; exact HW⟩
              case measure => simp [intOf]; omega
            · have d2 : hasB seen a.e = false := by simpa using d2
              rw [d2] at KEY1
              by_cases d3 : hasB T a.t = true
              · rw [d3] at KEY2
                have HR : Hid (wAdd seen x T a = T) := by show _ = _; unfold wAdd; rw [if_neg (by rw [d3]; simp)]
                clear d2 d3
                go_quiet (first | (go_at_call_of 102 (Value.slice na seen.length nc); exact Calls.quiet_of_same (KEY1.out _)) | (go_at_call_of 102 (Value.slice (some ⟨lb, lo, none⟩) T.length lc'); exact Calls.quiet_of_same (KEY2.out _)))
                obtain ⟨V2, HV2⟩ : ∃ V2, Hid (V2 = V.drewN nq) := ⟨_, rfl⟩
                have OV2 : Hid (Own V2 (w.heap.size + 1) (.slice (some ⟨lb, lo, none⟩) T.length lc') T) := by show Own _ _ _ _; rw [HV2.out]; exact OV.out
                have BV2 : Hid (Below (w.heap.size + 1) (w.alloc (.cells (mcells ⟨st, ev, starts, ars, ends⟩ ⟨a1, c1, some ⟨b, off, none⟩, c2, a3, c3⟩) 25)) V2) := by show Below _ _ _; rw [HV2.out]; exact below_drewN BV.out nq
                rw [← HV2.out]
                clear OV BV KEY1 KEY2 cV f0 f1 f2
                go_wp2
                go_roundw
                case rel => exact ⟨j + 1, by omega, by go_num, by rw [HN.out, HR.out]; exact OV2, BV2, by rw [HN.out]; exact HW⟩
                case measure => simp [intOf]; omega
              · have d3 : hasB T a.t = false := by simpa using d3
                rw [d3] at KEY2
                have HR : Hid (wAdd seen x T a = T ++ [a.t]) := by show _ = _; unfold wAdd; rw [if_pos (by rw [D1.out, d2, d3]; simp)]
                clear d2 d3
                go_quiet (first | (go_at_call_of 102 (Value.slice na seen.length nc); exact Calls.quiet_of_same (KEY1.out _)) | (go_at_call_of 102 (Value.slice (some ⟨lb, lo, none⟩) T.length lc'); exact Calls.quiet_of_same (KEY2.out _)))
                obtain ⟨V2, HV2⟩ : ∃ V2, Hid (V2 = V.drewN nq) := ⟨_, rfl⟩
                have OV2 : Hid (Own V2 (w.heap.size + 1) (.slice (some ⟨lb, lo, none⟩) T.length lc') T) := by show Own _ _ _ _; rw [HV2.out]; exact OV.out
                have BV2 : Hid (Below (w.heap.size + 1) (w.alloc (.cells (mcells ⟨st, ev, starts, ars, ends⟩ ⟨a1, c1, some ⟨b, off, none⟩, c2, a3, c3⟩) 25)) V2) := by show Below _ _ _; rw [HV2.out]; exact below_drewN BV.out nq
                have f2' : V2.cell? ⟨N, 2, none⟩ = some (.int .i64 a.t) := by rw [HV2.out]; exact f2
                have hVs2 := BV2.out.size
                rw [World.size_alloc] at hVs2
                rw [← HV2.out]
                clear OV BV KEY1 KEY2 cV f0 f1 f2
                go_wp2_with (at_builtin; refine wpList_append_own _ rfl _ _ 22 rfl (w.heap.size + 1) 3 i0 (.int .i64 0) 1 8 Tryd.underlying22 hi hz0 hz1 hz2 rfl (by decide) _ _ _ rfl (World.ownsRow.alloc OV2.out _) ⟨V2.heap.size, 0, none⟩ 1 1 [.int .i64 a.t] rfl rfl (cell_one_new _ _ _) (by intro u hu; simp at hu; subst hu; rfl) (by unfold maxLen; omega) (by omega) (by simp; omega) ?_)
                intro v' w2 hown' hgrow _
                obtain ⟨r1, r2, -⟩ := own_snoc OV2.out BV2.out (by omega) hown' hgrow
                have R1 := Hid.of r1
                have R2 := Hid.of r2
                clear hown' hgrow r1 r2
                go_wp2
                go_roundw
                case rel => exact ⟨j + 1, by omega, by go_num, by rw [HN.out, HR.out]; exact R1, R2, by rw [HN.out]; exact HW⟩
                case measure => simp [intOf]; omega
          · have g1 : (a.f == x') = false := by simp [d1]
            have HR : Hid (wAdd seen x T a = T) := by show _ = _; unfold wAdd; rw [if_neg (by rw [← hxx.out]; simp [d1])]
            clear d1
            go_quiet (first | (go_at_call_of 102 (Value.slice na seen.length nc); exact Calls.quiet_of_same (KEY1.out _)) | (go_at_call_of 102 (Value.slice (some ⟨lb, lo, none⟩) T.length lc'); exact Calls.quiet_of_same (KEY2.out _)))
            obtain ⟨V2, HV2⟩ : ∃ V2, Hid (V2 = V.drewN nq) := ⟨_, rfl⟩
            have OV2 : Hid (Own V2 (w.heap.size + 1) (.slice (some ⟨lb, lo, none⟩) T.length lc') T) := by show Own _ _ _ _; rw [HV2.out]; exact OV.out
            have BV2 : Hid (Below (w.heap.size + 1) (w.alloc (.cells (mcells ⟨st, ev, starts, ars, ends⟩ ⟨a1, c1, some ⟨b, off, none⟩, c2, a3, c3⟩) 25)) V2) := by show Below _ _ _; rw [HV2.out]; exact below_drewN BV.out nq
            rw [← HV2.out]
            clear OV BV KEY1 KEY2 cV f0 f1 f2
            go_wp2
            go_roundw
            case rel => exact ⟨j + 1, by omega, by go_num, by rw [HN.out, HR.out]; exact OV2, BV2, by rw [HN.out]; exact HW⟩
            case measure => simp [intOf]; omega
        · have htk : ars.take j = ars := List.take_of_length_le (by omega)
          rw [htk] at hown hwb
          clear htk
          obtain ⟨T, hT⟩ : ∃ T, T = wRow ars seen x L := ⟨_, rfl⟩
          have HT := Hid.of hT
          have HK := Hid.of (wRow_nth (ars := ars) (seen := seen) (x := x) hks)
          rw [← hT] at hown hwb HK
          clear hT
          have HC : Hid (wGo ars seen (ss.length + 256) 0 ss = wGo ars seen (ss.length + 256 - (k + 1)) (k + 1) T) := by
            show _ = _
            rw [hc.out, wGo_next hks (by omega), ← HX.out, ← HT.out, Nat.sub_sub]
          have hkT := HK.out.1
          go_wp2
          exact ⟨⟨k + 1, T, by omega, by go_num, hown, hbel, HC, hwb⟩, by simp [intOf]; omega⟩
    · have HC : Hid (wGo ars seen (ss.length + 256) 0 ss = L) := by
        show _ = _
        rw [hc.out, wGo_end hks]
      have HAT := Hid.of hat
      clear hat
      go_wp2_with (go_at_call 103; refine (sorted_own la lc L _ HAT.out (by omega)).mono ?_; rintro e w1 ⟨v4, rfl, h4, b4⟩; have H4 := Hid.of h4; have B4 := Hid.of b4; clear h4 b4)
      go_ret
      exact ⟨v4, rfl, by unfold wideL; rw [HC.out]; exact H4.out.low (by omega), hold.out.trans (B4.out.mono (by omega))⟩

end Go.Proofs.YtdhgabpoaicjoaaDoor
namespace Go.Proofs.YtdhgabpoaicjoaaDoor
open Go.RowKit
set_option linter.unusedVariables false

set_option maxHeartbeats 2000000 in
set_option maxRecDepth 100000 in
theorem refStep_some (st ev : Int) (starts : List Int) (ars : List Arr) (ends : List Int) (a1 : Option Addr) (c1 b off c2 : Nat) (a3 : Option Addr) (c3 : Nat) (sa : Option Addr) (sc : Nat) (ss : List Int) (x : Int) (w : World) (hlen : ars.length ≤ 17592186044416) (hb : b < w.heap.size) (hca : CellsA w b off ars) (hs : At w sa ss) (hl : ss.length ≤ maxLen) :
    Calls Tryd.prog 57 #[mval ⟨st, ev, starts, ars, ends⟩ ⟨a1, c1, some ⟨b, off, none⟩, c2, a3, c3⟩, .slice sa ss.length sc, .int .i64 x] w fun e w' => GivesO w (stepL ars ss x) e w' := by
  obtain ⟨i0, hi, hz0, hz1, hz2⟩ := info_parts Tryd.infoInt
  go_enter Tryd.func57, Tryd.ntmps57
  go_wp2
  go_loopw [7, 8] (fun v i wr => ∃ k : Nat, k ≤ ars.length ∧ i = .int .i64 k ∧ Own wr (w.heap.size + 1) v (stepTo (ars.take k) ss x) ∧ Below (w.heap.size + 1) (w.alloc (.cells (mcells ⟨st, ev, starts, ars, ends⟩ ⟨a1, c1, some ⟨b, off, none⟩, c2, a3, c3⟩) 25)) wr) (fun _ i _ => ars.length - (intOf i).toNat)
  case atStart => exact ⟨0, Nat.zero_le _, rfl, own_nil _ _, Below.refl _ _⟩
  case round =>
    obtain ⟨k, hk, rfl, hown, hbel⟩ := hrel
    have hold := below_box hbel
    have hsz := hbel.size
    rw [World.size_alloc] at hsz
    have hbx : w.heap.size < wr.heap.size := by omega
    have hbr : b < wr.heap.size := by omega
    have hbox := (box_cells hbel).2.2.2.1
    dsimp only at hbox
    by_cases hlt : k < ars.length
    · obtain ⟨a, HA, y0, y1, y2⟩ := hca.at hlt
      have y0' := (hold.cell (p := ⟨b, off + k * 3, none⟩) hb).trans y0
      have y1' := (hold.cell (p := ⟨b, off + k * 3 + 1, none⟩) hb).trans y1
      have y2' := (hold.cell (p := ⟨b, off + k * 3 + 2, none⟩) hb).trans y2
      clear y0 y1 y2
      have hsr := hs.below hold (Nat.le_refl _)
      have hll := stepTo_len (ars.take k) ss x
      rw [List.length_take] at hll
      have HN := stepTo_take (ss := ss) (e := x) hlt HA
      by_cases c1' : a.e = x
      · have g1 : (a.e == x) = true := by simp [c1']
        have HC : Hid (a.e = x) := c1'
        clear c1'
        go_wp2_with fail
        refine (refHas_any sa sc ss a.f _ hsr hl).mono ?_
        rintro e w1 ⟨rfl, rfl⟩
        by_cases c2' : hasB ss a.f = true
        · rw [if_pos (by rw [g1, c2']; rfl)] at HN
          have HN' : Hid (stepTo (ars.take (k + 1)) ss x = stepTo (ars.take k) ss x ++ [a.t]) := HN
          clear HN
          go_wp2_with (at_builtin; refine wpList_append_own _ rfl _ _ 22 rfl (w.heap.size + 1) 3 i0 (.int .i64 0) 1 8 Tryd.underlying22 hi hz0 hz1 hz2 rfl (by decide) _ _ _ rfl (World.ownsRow.alloc hown _) ⟨w1.heap.size, 0, none⟩ 1 1 [.int .i64 a.t] rfl rfl (cell_one_new _ _ _) (by intro u hu; simp at hu; subst hu; rfl) (by unfold maxLen; omega) (by omega) (by simp; omega) ?_)
          intro v' w2 hown' hgrow _
          obtain ⟨r1, r2, -⟩ := own_snoc hown hbel (by omega) hown' hgrow
          rw [← HN'.out] at r1
          clear hown' hgrow hown
          go_wp2
          go_roundw
          case rel => exact ⟨k + 1, by omega, by go_num, r1, r2⟩
          case measure => simp [intOf]; omega
        · have c3' : hasB ss a.f = false := by simpa using c2'
          rw [if_neg (by rw [c3']; simp)] at HN
          have r1 := hown
          rw [← HN] at r1
          clear HN c2'
          go_wp2
          go_roundw
          case rel => exact ⟨k + 1, by omega, by go_num, r1, hbel⟩
          case measure => simp [intOf]; omega
      · have g1 : (a.e == x) = false := by simp [c1']
        rw [if_neg (by rw [g1]; simp)] at HN
        have r1 := hown
        rw [← HN] at r1
        clear HN
        go_wp2
        go_roundw
        case rel => exact ⟨k + 1, by omega, by go_num, r1, hbel⟩
        case measure => simp [intOf]; omega
    · have htk : Hid (ars.take k = ars) := List.take_of_length_le (by omega)
      rw [htk.out] at hown
      have hl2 := stepTo_len ars ss x
      obtain ⟨a', c', rfl, h3, l3⟩ := hown.at
      go_wp2_with fail
      refine (sorted_own a' c' (stepTo ars ss x) _ h3 (by omega)).mono ?_
      rintro e w1 ⟨v4, rfl, o4, b4⟩
      have bb : Below w.heap.size w w1 := hold.trans (b4.mono (by omega))
      go_wp2
      go_ret
      exact ⟨v4, rfl, o4.low (by omega), bb⟩

set_option maxHeartbeats 400000 in
theorem refStep_nil (st ev : Int) (starts : List Int) (ends : List Int) (l : ML) (sa : Option Addr) (sc : Nat) (ss : List Int) (x : Int) (w : World) :
    Calls Tryd.prog 57 #[mval ⟨st, ev, starts, [], ends⟩ l, .slice sa ss.length sc, .int .i64 x] w fun e w' => GivesO w [] e w' := by
  go_enter Tryd.func57, Tryd.ntmps57
  go_wp2_with fail
  refine wp_loop_rounds 1 ?_
  rw [rounds_succ]
  go_wp2_with fail
  refine (sorted_nil none 0 _).mono ?_
  rintro e w1 ⟨rfl, rfl⟩
  go_wp2
  go_ret
  exact ⟨_, rfl, own_nil _ _, (Below.refl _ _).alloc (Nat.le_refl _) _⟩

theorem refStep_own (m : Mach) (l : ML) (sa : Option Addr) (sc : Nat) (ss : List Int) (x : Int) (w : World) (ha : AtA w l.a2 m.arrows) (hlen : m.arrows.length ≤ 17592186044416) (hs : At w sa ss) (hl : ss.length ≤ maxLen) :
    Calls Tryd.prog 57 #[mval m l, .slice sa ss.length sc, .int .i64 x] w fun e w' => GivesO w (stepL m.arrows ss x) e w' := by
  obtain ⟨st, ev, starts, ars, ends⟩ := m
  obtain ⟨a1, c1, a2, c2, a3, c3⟩ := l
  rcases ha with h0 | ⟨b, off, h0, hb, hc⟩
  · have h0 : ars = [] := h0
    subst h0
    exact refStep_nil st ev starts ends _ sa sc ss x w
  · have h0 : a2 = some ⟨b, off, none⟩ := h0
    subst h0
    exact refStep_some st ev starts ars ends a1 c1 b off c2 a3 c3 sa sc ss x w hlen hb hc hs hl

theorem refStep_any (m : Mach) (l : ML) (sa : Option Addr) (sc : Nat) (ss : List Int) (x : Int) (w : World) (ha : AtA w l.a2 m.arrows) (hlen : m.arrows.length ≤ 17592186044416) (hs : At w sa ss) (hl : ss.length ≤ maxLen) :
    Calls Tryd.prog 57 #[mval m l, .slice sa ss.length sc, .int .i64 x] w fun e w' => Gives w (stepL m.arrows ss x) e w' :=
  (refStep_own m l sa sc ss x w ha hlen hs hl).mono fun _ _ h => h.gives

end Go.Proofs.YtdhgabpoaicjoaaDoor
