/-
  The walk of jalousieref1.Sorted: insertion, one number after the other: it answers 'srt xs'.
  append(v, y...) of integers: v a row of the call's own, y any slice; and the empty literal slice.
  The walk of jalousieref1.Has: whether a list has a number.
  The walks of jalousieref3.Reach and Live.
  The walks of jalousieref3.place and places.
-/
import Derived.Test.YtkofobefbjljfaaDoorG06
import Derived.Deep.QuietTactic
import Derived.BigQuiet
import Derived.Test.YtkofobefbjljfaaDoorG03
import Derived.Test.YtkofobefbjljfaaDoorG04
namespace Go.Proofs.YtkofobefbjljfaaDoor
open Go.RowKit
set_option linter.unusedVariables false

theorem getD_cons_succ' (y : Int) (r : List Int) (j : Nat) : (y :: r)[j + 1]?.getD 0 = r[j]?.getD 0 := by simp

theorem ins_put {x : Int} : ∀ {L : List Int} {p : Nat}, p ≤ L.length → (∀ j, j < p → L[j]?.getD 0 < x) → (p = L.length ∨ x < L[p]?.getD 0) → ins x L = L.take p ++ x :: L.drop p
  | [], p, hp, _, _ => by have : p = 0 := by simpa using hp
                          subst this; simp [ins]
  | y :: r, 0, _, _, h => by
    rcases h with h | h
    · simp at h
    · have h : x < y := by simpa using h
      simp only [ins, List.take_zero, List.drop_zero, List.nil_append]
      rw [if_neg (by omega), if_neg (by omega)]
  | y :: r, p + 1, hp, hl, h => by
    have h0 : y < x := by simpa using hl 0 (by omega)
    have := ins_put (x := x) (L := r) (p := p) (by simpa using hp) (fun j hj => by have := hl (j + 1) (by omega); rwa [getD_cons_succ'] at this) (by rcases h with h | h; left; simpa using h; right; rwa [getD_cons_succ'] at h)
    simp only [ins]
    rw [if_pos h0, this]
    simp
theorem ins_same {x : Int} : ∀ {L : List Int} {p : Nat}, p < L.length → (∀ j, j < p → L[j]?.getD 0 < x) → L[p]?.getD 0 = x → ins x L = L
  | [], p, hp, _, _ => by simp at hp
  | y :: r, 0, _, _, h => by
    have h : y = x := by simpa using h
    simp only [ins]
    rw [if_neg (by omega), if_pos h]
  | y :: r, p + 1, hp, hl, h => by
    have h0 : y < x := by simpa using hl 0 (by omega)
    have := ins_same (x := x) (L := r) (p := p) (by simpa using hp) (fun j hj => by have := hl (j + 1) (by omega); rwa [getD_cons_succ'] at this) (by rwa [getD_cons_succ'] at h)
    simp only [ins]
    rw [if_pos h0, this]

/-- The list with one place more, at c. -/
def gap (L : List Int) (c : Nat) (y : Int) : List Int := L.take c ++ y :: L.drop c

theorem gap_len {L : List Int} {c : Nat} {y : Int} (h : c ≤ L.length) : (gap L c y).length = L.length + 1 := by simp [gap]; omega
theorem gap_end (L : List Int) : L ++ [0] = gap L L.length 0 := by simp [gap]
theorem gap_at {L : List Int} {c : Nat} {y : Int} (h : c < L.length) : (gap L (c + 1) y)[c]?.getD 0 = L[c]?.getD 0 := by
  rw [gap, List.getElem?_append_left (by simp; omega), List.getElem?_take_of_lt (by omega)]
theorem gap_set {L : List Int} {c : Nat} {y x : Int} (h : c ≤ L.length) : (gap L c y).set c x = gap L c x := by
  rw [gap, gap, List.set_append_right _ _ (by simp; omega)]
  simp only [List.length_take]
  rw [show c - min c L.length = 0 by omega]; rfl
theorem gap_move {L : List Int} {c : Nat} {y : Int} (h : c < L.length) : (gap L (c + 1) y).set (c + 1) (L[c]?.getD 0) = gap L c (L[c]?.getD 0) := by
  rw [gap_set (by omega), gap, gap, List.take_add_one, List.getElem?_eq_getElem h]
  conv => rhs; rw [List.drop_eq_getElem_cons h]
  simp only [Option.toList_some, Option.getD_some, List.append_assoc, List.singleton_append]

theorem Own.cellAt {w : World} {B g n cap : Nat} {M : List Int} (h : Own w B (.slice (some ⟨g, 0, none⟩) n cap) M) {j : Nat} (hj : j < M.length) : w.cell? ⟨g, j, none⟩ = some (.int .i64 (M[j]?.getD 0)) ∧ w.frozen? ⟨g, j, none⟩ = false ∧ B ≤ g := by
  rcases h.cells_of with ⟨h0, _⟩ | ⟨g', cap', h0, hb, hg, hc, hf⟩
  · simp at h0
  · simp only [Value.slice.injEq, Option.some.injEq, Addr.mk.injEq, and_true] at h0
    obtain ⟨rfl, rfl, rfl⟩ := h0
    have := hc j hj
    rw [Nat.zero_add, List.getD_eq_getElem?_getD] at this
    exact ⟨this, hf j, hb⟩
theorem Own.stored {w : World} {B g n cap : Nat} {M : List Int} (h : Own w B (.slice (some ⟨g, 0, none⟩) n cap) M) (j : Nat) (x : Int) : Own (w.setCell ⟨g, j, none⟩ (.int .i64 x)) B (.slice (some ⟨g, 0, none⟩) n cap) (M.set j x) := by
  have hn : n = M.length := by
    rcases h.2 with ⟨h0, _⟩ | ⟨g', cap', cur, h0, _⟩
    · simp at h0
    · simp only [Value.slice.injEq] at h0; exact h0.2.1
  subst hn
  have := (World.ownsRow.stored h j (.int .i64 x)).1
  unfold Own
  rw [List.length_set, List.map_set]
  exact this
theorem Own.shape {w : World} {B : Nat} {v : Value} {M : List Int} (h : Own w B v M) (hp : 0 < M.length) : ∃ g cap, v = .slice (some ⟨g, 0, none⟩) M.length cap := by
  rcases h.cells_of with ⟨_, h0⟩ | ⟨g', cap', h0, _⟩
  · subst h0; simp at hp
  · exact ⟨g', cap', h0⟩

theorem srt_take {xs : List Int} {k : Nat} {x : Int} (h : k < xs.length) (hx : Hid (x = xs[k]?.getD 0)) : srt (xs.take (k + 1)) = ins x (srt (xs.take k)) := by
  have hx := hx.out
  rw [List.getElem?_eq_getElem h, Option.getD_some] at hx
  rw [List.take_add_one, List.getElem?_eq_getElem h, Option.toList_some, srt_snoc, hx]

set_option maxHeartbeats 2000000 in
set_option maxRecDepth 100000 in
theorem sorted_some (bx ox cx : Nat) (xs : List Int) (w : World) (hl : xs.length ≤ 17592186044416) (hbx : bx < w.heap.size) (hc : Cells w bx ox xs) :
    Calls Tryd.prog 39 #[.slice (some ⟨bx, ox, none⟩) xs.length cx] w fun e w' => ∃ v, e = .returned v ∧ Own w' w.heap.size v (srt xs) ∧ Below w.heap.size w w' := by
  obtain ⟨i0, hi, hz0, hz1, hz2⟩ := info_parts Tryd.infoInt
  go_enter Tryd.func39, Tryd.ntmps39
  go_wp2
  go_loopw [3, 4] (fun v i wr => ∃ k : Nat, k ≤ xs.length ∧ i = .int .i64 k ∧ Own wr w.heap.size v (srt (xs.take k)) ∧ Below w.heap.size w wr) (fun _ i _ => xs.length - (intOf i).toNat)
  case atStart => exact ⟨0, Nat.zero_le _, rfl, own_nil _ _, Below.refl _ _⟩
  case round =>
    obtain ⟨k, hk, rfl, hown, hbel⟩ := hrel
    by_cases hlt : k < xs.length
    · obtain ⟨x, HX, hcx0⟩ := hc.at hlt
      obtain ⟨wo, hwo⟩ : ∃ wo : World, wo = wr := ⟨_, rfl⟩
      subst hwo
      have hcx : wo.cell? ⟨bx, ox + k, none⟩ = some (.int .i64 x) := (hbel.cell (p := ⟨bx, ox + k, none⟩) hbx).trans hcx0
      have hcx00 := hcx0
      clear hcx0
      have hnext : Hid (srt (xs.take (k + 1)) = ins x (srt (xs.take k))) := srt_take hlt HX
      have hll : (srt (xs.take k)).length ≤ k := Nat.le_trans (srt_len _) (List.length_take_le _ _)
      generalize srt (xs.take k) = L at *
      obtain ⟨a, cap, rfl, hat, hlm⟩ := hown.at
      unfold maxLen at hlm
      go_wp2
      go_loopw [5] (fun i wr' => ∃ p q : Nat, p ≤ L.length ∧ i = .int .i64 p ∧ wr' = wo.drewN q ∧ Hid (∀ j, j < p → L[j]?.getD 0 < x)) (fun i _ => L.length - (intOf i).toNat)
      case atStart => exact ⟨0, 0, Nat.zero_le _, rfl, rfl, fun j hj => by omega⟩
      case round =>
        obtain ⟨p, q, hp, rfl, rfl, hlow⟩ := hrel
        by_cases hpl : p < L.length
        · rcases hat with h0 | ⟨b, off, rfl, hb, hca⟩
          · subst h0; simp at hpl
          · obtain ⟨y, HY, hcy⟩ := hca.at hpl
            by_cases c1 : y < x
            · have d : decide (y < x) = true := by simpa using c1
              go_wp2
              go_quiet (fail)
              go_wp2
              go_roundw
              case rel => exact ⟨p + 1, _, by omega, by go_num, rfl, fun j hj => by
                by_cases e : j = p
                · subst e; have := HY.out; omega
                · exact hlow.out j (by omega)⟩
              case measure => simp [intOf]; omega
            · have d : decide (y < x) = false := by simpa using c1
              go_wp2
              go_quiet (fail)
              go_wp2
              obtain ⟨Q, hQ⟩ : ∃ Q, (wo.drewN q).drewN nq = wo.drewN Q := ⟨_, World.drewN_drewN _ _ _⟩
              rw [hQ]
              clear hQ
              by_cases c2 : y = x
              · have HC : Hid (y = x) := c2
                have d2 : (y == x) = true := by simp [c2]
                clear c2
                have E2 : Hid (srt (xs.take (k + 1)) = L) := by show _ = _; rw [hnext.out]; exact ins_same hpl hlow.out (by rw [← HY.out]; exact HC.out)
                go_quiet (fail)
                go_wp2
                go_roundw
                case rel => exact ⟨k + 1, by omega, by go_num, by rw [E2.out]; exact hown.drewN _, below_drewN hbel _⟩
                case measure => simp [intOf]; omega
              · have d2 : (y == x) = false := by simp [c2]
                go_quiet (fail)
                obtain ⟨Q', hQ'⟩ : ∃ Q', (wo.drewN Q).drewN nq = wo.drewN Q' := ⟨_, World.drewN_drewN _ _ _⟩
                rw [hQ']
                clear hQ'
                have HE : Hid (p = L.length ∨ x < L[p]?.getD 0) := .inr (by have := HY.out; omega)
                obtain ⟨wq, hwq⟩ : ∃ wq : World, wq = wo.drewN Q' := ⟨_, rfl⟩
                have hown0 : Own wq w.heap.size (.slice (some ⟨b, off, none⟩) L.length cap) L := by rw [hwq]; exact hown.drewN Q'
                have hbelo : Below w.heap.size w wq := by rw [hwq]; exact below_drewN hbel _
                have hcxq : wq.cell? ⟨bx, ox + k, none⟩ = some (.int .i64 x) := by rw [hwq]; exact hcx
                rw [← hwq]
                clear hwq hown hbel hcx
                have hszo : w.heap.size ≤ wq.heap.size := hbelo.size
                have hbxq : bx < wq.heap.size := by omega
                go_wp2_with (at_builtin; refine wpList_append_own _ rfl _ _ 22 rfl w.heap.size 3 i0 (.int .i64 0) 1 8 Tryd.underlying22 hi hz0 hz1 hz2 rfl (by decide) _ _ _ rfl (World.ownsRow.alloc hown0 _) ⟨wq.heap.size, 0, none⟩ 1 1 [.int .i64 0] rfl rfl (cell_one_new _ _ _) (by intro u hu; simp at hu; subst hu; rfl) (by unfold maxLen; omega) (by omega) (by simp; omega) ?_)
                intro v' w1 hown' hgrow _
                obtain ⟨o1, o2, -⟩ := own_snoc hown0 hbelo hszo hown' hgrow
                clear hown' hgrow hown0 hcxq
                obtain ⟨g, cap', rfl⟩ := o1.shape (by simp)
                rw [List.length_append, List.length_singleton] at o1 ⊢
                rw [gap_end] at o1
                go_wp2
                go_loopw [6] (fun i wr' => ∃ (c : Nat) (z : Int), p ≤ c ∧ c ≤ L.length ∧ i = .int .i64 c ∧ Own wr' w.heap.size (.slice (some ⟨g, 0, none⟩) (L.length + 1) cap') (gap L c z) ∧ Below w.heap.size w wr') (fun i _ => (intOf i).toNat)
                case atStart => exact ⟨L.length, 0, hp, Nat.le_refl _, by go_num, o1, o2⟩
                case round =>
                  obtain ⟨c, z, hc1, hc2, rfl, ow, bw⟩ := hrel
                  clear o1 o2
                  by_cases hcp : p < c
                  · obtain ⟨e, rfl⟩ : ∃ e, c = e + 1 := ⟨c - 1, by omega⟩
                    have hgl := gap_len (y := z) hc2
                    obtain ⟨f1, f2, f3⟩ := ow.cellAt (j := e) (by omega)
                    obtain ⟨f4, f5, -⟩ := ow.cellAt (j := e + 1) (by omega)
                    rw [gap_at (by omega)] at f1
                    have ow' := ow.stored (e + 1) (L[e]?.getD 0)
                    rw [gap_move (by omega)] at ow'
                    have bw' := bw.setCell (p := ⟨g, e + 1, none⟩) f3 (.int .i64 (L[e]?.getD 0))
                    generalize L[e]?.getD 0 = u at *
                    generalize (gap L (e + 1) z)[e + 1]?.getD 0 = u' at *
                    clear ow
                    go_wp2
                    go_roundw
                    case rel => exact ⟨e, u, by omega, by omega, by go_num, ow', bw'⟩
                    case measure => simp [intOf]
                  · have hcp' : c = p := by omega
                    subst hcp'
                    have hgl := gap_len (y := z) hc2
                    obtain ⟨f1, f2, f3⟩ := ow.cellAt (j := c) (by omega)
                    have hcx2 : wr.cell? ⟨bx, ox + k, none⟩ = some (.int .i64 x) := (bw.cell (p := ⟨bx, ox + k, none⟩) hbx).trans hcx00
                    have ow' := ow.stored c x
                    rw [gap_set hc2, gap, ← ins_put hc2 hlow.out HE.out, ← hnext.out] at ow'
                    have bw' := bw.setCell (p := ⟨g, c, none⟩) f3 (.int .i64 x)
                    generalize (gap L c z)[c]?.getD 0 = u' at *
                    clear ow
                    go_wp2
                    go_roundw
                    case rel => exact ⟨k + 1, by omega, by go_num, ow', bw'⟩
                    case measure => simp [intOf]; omega
        · go_wp2
          go_quiet (fail)
          go_wp2
          obtain ⟨Q, hQ⟩ : ∃ Q, (wo.drewN q).drewN nq = wo.drewN Q := ⟨_, World.drewN_drewN _ _ _⟩
          rw [hQ]
          clear hQ
          go_quiet (fail)
          obtain ⟨Q', hQ'⟩ : ∃ Q', (wo.drewN Q).drewN nq = wo.drewN Q' := ⟨_, World.drewN_drewN _ _ _⟩
          rw [hQ']
          clear hQ'
          have HE : Hid (p = L.length ∨ x < L[p]?.getD 0) := .inl (by omega)
          obtain ⟨wq, hwq⟩ : ∃ wq : World, wq = wo.drewN Q' := ⟨_, rfl⟩
          have hown0 : Own wq w.heap.size (.slice a L.length cap) L := by rw [hwq]; exact hown.drewN Q'
          have hbelo : Below w.heap.size w wq := by rw [hwq]; exact below_drewN hbel _
          have hcxq : wq.cell? ⟨bx, ox + k, none⟩ = some (.int .i64 x) := by rw [hwq]; exact hcx
          rw [← hwq]
          clear hwq hown hbel hcx hat
          have hszo : w.heap.size ≤ wq.heap.size := hbelo.size
          have hbxq : bx < wq.heap.size := by omega
          go_wp2_with (at_builtin; refine wpList_append_own _ rfl _ _ 22 rfl w.heap.size 3 i0 (.int .i64 0) 1 8 Tryd.underlying22 hi hz0 hz1 hz2 rfl (by decide) _ _ _ rfl (World.ownsRow.alloc hown0 _) ⟨wq.heap.size, 0, none⟩ 1 1 [.int .i64 0] rfl rfl (cell_one_new _ _ _) (by intro u hu; simp at hu; subst hu; rfl) (by unfold maxLen; omega) (by omega) (by simp; omega) ?_)
          intro v' w1 hown' hgrow _
          obtain ⟨o1, o2, -⟩ := own_snoc hown0 hbelo hszo hown' hgrow
          clear hown' hgrow hown0 hcxq
          obtain ⟨g, cap', rfl⟩ := o1.shape (by simp)
          rw [List.length_append, List.length_singleton] at o1 ⊢
          rw [gap_end] at o1
          go_wp2
          go_loopw [6] (fun i wr' => ∃ (c : Nat) (z : Int), p ≤ c ∧ c ≤ L.length ∧ i = .int .i64 c ∧ Own wr' w.heap.size (.slice (some ⟨g, 0, none⟩) (L.length + 1) cap') (gap L c z) ∧ Below w.heap.size w wr') (fun i _ => (intOf i).toNat)
          case atStart => exact ⟨L.length, 0, hp, Nat.le_refl _, by go_num, o1, o2⟩
          case round =>
            obtain ⟨c, z, hc1, hc2, rfl, ow, bw⟩ := hrel
            clear o1 o2
            by_cases hcp : p < c
            · omega
            · have hcp' : c = p := by omega
              subst hcp'
              have hgl := gap_len (y := z) hc2
              obtain ⟨f1, f2, f3⟩ := ow.cellAt (j := c) (by omega)
              have hcx2 : wr.cell? ⟨bx, ox + k, none⟩ = some (.int .i64 x) := (bw.cell (p := ⟨bx, ox + k, none⟩) hbx).trans hcx00
              have ow' := ow.stored c x
              rw [gap_set hc2, gap, ← ins_put hc2 hlow.out HE.out, ← hnext.out] at ow'
              have bw' := bw.setCell (p := ⟨g, c, none⟩) f3 (.int .i64 x)
              generalize (gap L c z)[c]?.getD 0 = u' at *
              clear ow
              go_wp2
              go_roundw
              case rel => exact ⟨k + 1, by omega, by go_num, ow', bw'⟩
              case measure => simp [intOf]; omega
    · rw [List.take_of_length_le (by omega)] at hown
      go_wp2
      go_ret
      exact ⟨_, rfl, hown, hbel⟩

set_option maxHeartbeats 400000 in
theorem sorted_nil (a : Option Addr) (cx : Nat) (w : World) :
    Calls Tryd.prog 39 #[.slice a 0 cx] w fun e w' => e = .returned (.slice none 0 0) ∧ w' = w := by
  go_enter Tryd.func39, Tryd.ntmps39
  go_wp2
  refine wp_loop_rounds 1 ?_
  rw [rounds_succ]
  go_wp2
  go_ret
  exact ⟨rfl, rfl⟩

theorem sorted_any (a : Option Addr) (cx : Nat) (xs : List Int) (w : World) (hs : At w a xs) (hl : xs.length ≤ 17592186044416) :
    Calls Tryd.prog 39 #[.slice a xs.length cx] w fun e w' => Gives w (srt xs) e w' := by
  rcases hs with rfl | ⟨b, off, rfl, hb, hc⟩
  · refine (sorted_nil a cx w).mono ?_
    rintro e w' ⟨rfl, rfl⟩
    exact gives_of_own (B := w'.heap.size) (own_nil _ _) (Below.refl _ _)
  · refine (sorted_some b off cx xs w hl hb hc).mono ?_
    rintro e w' ⟨v, rfl, h1, h2⟩
    exact gives_of_own h1 h2

end Go.Proofs.YtkofobefbjljfaaDoor
namespace Go.Proofs.YtkofobefbjljfaaDoor
open Go.RowKit
set_option linter.unusedVariables false

section
variable {P : Program} (w : World)
theorem wp_append_nil {o : Oper} {a : Act} {K : Act → World → Prop} {Q : Exit → Act → World → Prop} (s x : Operand) (t : TypeId)
    (ho : o.op = .call { callee := .builtin .append, args := #[s, x], argTypes := #[t, t] })
    (base : Nat) (e : TypeId) (i : TypeInfo) (size : Nat) (ht : P.underlying t = some (.slice e)) (hi : P.info? e = some i)
    (v : Value) (n : Nat) (xs : List Value) (hs : a.eval s = v) (hown : w.ownsRow base e size v n xs) (hx : a.eval x = .slice none 0 0)
    (h : K (a.put o.dst v) w) : o.wp P a w K Q := by
  have hr := run_append_owned_none (P := P) w base t o.type e i size ht hi v n xs hown
  unfold Oper.wp execOp
  simp only [ho, resolve, invoke, builtin, Sem.run_bind, Sem.run_pure, Result.andThen_ok, List.map_toArray, List.map_cons, List.map_nil, hs, hx, hr]
  exact h

/-- append(v, y...): v is a row of integers of the call's own, y any slice of integers (nil among them). -/
theorem wpList_append_ints {ops : Array Oper} {rest : List Oper} {o : Oper} {a : Act} {Q : Exit → Act → World → Prop} (hgd : o.guard = none) (s x : Operand) (t : TypeId)
    (ho : o.op = .call { callee := .builtin .append, args := #[s, x], argTypes := #[t, t] })
    (B : Nat) (i : TypeInfo) (ht : P.underlying t = some (.slice 3)) (hi : P.info? 3 = some i) (hz : i.zero = some (.int .i64 0)) (hsize : i.size = 1) (hby : i.bytes = 8)
    (v : Value) (L : List Int) (hs : a.eval s = v) (hown : Own w B v L)
    (ad : Option Addr) (c : Nat) (ys : List Int) (hx : a.eval x = .slice ad ys.length c) (hat : At w ad ys) (hnil : ad = none → c = 0)
    (hroom : (L.length + ys.length) * 8 ≤ 140737488355328) (hbase : B ≤ w.heap.size)
    (h : ∀ v' w', Own w' B v' (L ++ ys) → Below B w w' → B ≤ w'.heap.size → wpList P ops Q rest (a.put o.dst v') w') : wpList P ops Q (o :: rest) a w := by
  cases ad with
  | none =>
    have hy : ys = [] := by
      rcases hat with h | ⟨b, off, h, _⟩
      · exact h
      · cases h
    subst hy
    rw [hnil rfl] at hx
    refine wpList_plain hgd fun _ hK => wp_append_nil w s x t ho B 3 i 1 ht hi v _ _ hs hown hx (hK _ _ (h v w ?_ (Below.refl _ _) hbase))
    rw [List.append_nil]; exact hown
  | some ad =>
    refine wpList_append_own w hgd s x t ho B 3 i (.int .i64 0) 1 8 ht hi hz hsize hby rfl (by decide) v _ _ hs hown ad ys.length c (ys.map (Value.int .i64)) hx (by simp) ?_ ?_ (by unfold maxLen; omega) hroom hbase ?_
    · intro j u hu
      rw [List.getElem?_map] at hu
      rcases hat with h0 | ⟨b, off, h0, _, hc⟩
      · subst h0; simp at hu
      · cases h0
        cases hj : ys[j]? with
        | none => rw [hj] at hu; simp at hu
        | some y =>
          rw [hj] at hu
          simp only [Option.map_some, Option.some.injEq] at hu
          subst hu
          have := hc j (List.getElem?_eq_some_iff.1 hj).1
          rw [List.getD_eq_getElem?_getD, hj, Option.getD_some] at this
          rw [show (⟨b, off, none⟩ : Addr).add j = ⟨b, off + j, none⟩ from by simp [Addr.add]]
          exact this
    · intro u hu
      obtain ⟨y, _, rfl⟩ := List.mem_map.1 hu
      rfl
    · intro v' w' ho' hg _
      refine h v' w' ?_ ((Below.refl _ _).grown hg hbase (fun j hj => (hown.lt j hj).1)) (Nat.le_trans hbase hg.size)
      unfold Own
      rw [List.length_append, List.map_append]
      exact ho'
end

theorem own_empty (w : World) : Own (w.alloc (.cells #[] 3)) w.heap.size (.slice (some ⟨w.heap.size, 0, none⟩) 0 0) [] :=
  World.ownsRow_lit w #[] 0 (Nat.le_refl _) (Nat.zero_le _) rfl

end Go.Proofs.YtkofobefbjljfaaDoor
namespace Go.Proofs.YtkofobefbjljfaaDoor
open Go.RowKit

set_option maxHeartbeats 400000 in
theorem refHas_some (b off cap : Nat) (xs : List Int) (n : Int) (w : World) (hl : xs.length ≤ 9223372036854775807) (hc : Cells w b off xs) :
    Calls Tryd.prog 38 #[.slice (some ⟨b, off, none⟩) xs.length cap, .int .i64 n] w fun e w' => e = .returned (.bool (hasB xs n)) ∧ w' = w := by
  go_enter Tryd.func38, Tryd.ntmps38
  go_wp2
  go_loop [5] (fun i => ∃ k : Nat, k ≤ xs.length ∧ i = .int .i64 k ∧ Hid (hasB xs n = hasB (xs.drop k) n)) (fun i => xs.length - (intOf i).toNat)
  case atStart => exact ⟨0, Nat.zero_le _, rfl, rfl⟩
  case round =>
    obtain ⟨k, hk, rfl, he⟩ := hrel
    by_cases hlt : k < xs.length
    · obtain ⟨x, HX, hcell⟩ := hc.at hlt
      go_wp2
      · go_ret
        exact ⟨ret_bool (has_hit hlt he HX (by assumption)), rfl⟩
      · go_round
        case rel => exact ⟨k + 1, by omega, by go_num, has_miss hlt he HX (by assumption)⟩
        case measure => simp [intOf]; omega
    · go_wp2
      go_ret
      exact ⟨ret_bool (has_end hlt he), rfl⟩

set_option maxHeartbeats 400000 in
theorem refHas_nil (a : Option Addr) (cap : Nat) (n : Int) (w : World) :
    Calls Tryd.prog 38 #[.slice a 0 cap, .int .i64 n] w fun e w' => e = .returned (.bool false) ∧ w' = w := by
  go_enter Tryd.func38, Tryd.ntmps38
  go_wp2
  refine wp_loop_rounds 1 ?_
  rw [rounds_succ]
  go_wp2
  go_ret
  exact ⟨rfl, rfl⟩

theorem refHas_any (a : Option Addr) (cap : Nat) (xs : List Int) (n : Int) (w : World) (hs : At w a xs) (hl : xs.length ≤ maxLen) :
    Calls Tryd.prog 38 #[.slice a xs.length cap, .int .i64 n] w fun e w' => e = .returned (.bool (hasB xs n)) ∧ w' = w := by
  rcases hs with rfl | ⟨b, off, rfl, -, hc⟩
  · exact refHas_nil a cap n w
  · exact refHas_some b off cap xs n w hl hc

end Go.Proofs.YtkofobefbjljfaaDoor
namespace Go.Proofs.YtkofobefbjljfaaDoor
open Go.RowKit
set_option linter.unusedVariables false

theorem Hid.of3 {p : Prop} (h : p) : Hid p := h

set_option maxHeartbeats 4000000 in
set_option maxRecDepth 100000 in
theorem refReach_some (st ev : Int) (starts : List Int) (ars : List Arr) (ends : List Int) (a1 : Option Addr) (c1 b off c2 : Nat) (a3 : Option Addr) (c3 : Nat) (w : World) (h1 : 0 ≤ st) (h2 : st ≤ 256) (hlen : ars.length ≤ 4096) (hb : b < w.heap.size) (hca : CellsA w b off ars) (hs : At w a1 starts) (hsl : starts.length ≤ 4096) (hn : Hid (a1 = none → c1 = 0)) :
    Calls Tryd.prog 22 #[mval ⟨st, ev, starts, ars, ends⟩ ⟨a1, c1, some ⟨b, off, none⟩, c2, a3, c3⟩] w fun e w' => Gives w (srt (closeN (·.f) (·.t) ars st.toNat starts)) e w' := by
  obtain ⟨i0, hi, hz0, hz1, hz2⟩ := info_parts Tryd.infoInt
  have o0 : Own ((w.alloc (.cells (mcells ⟨st, ev, starts, ars, ends⟩ ⟨a1, c1, some ⟨b, off, none⟩, c2, a3, c3⟩) 25)).alloc (.cells #[] 3)) (w.heap.size + 1) (.slice (some ⟨w.heap.size + 1, 0, none⟩) 0 0) [] := by
    have := own_empty (w.alloc (.cells (mcells ⟨st, ev, starts, ars, ends⟩ ⟨a1, c1, some ⟨b, off, none⟩, c2, a3, c3⟩) 25))
    rwa [World.size_alloc] at this
  have b0 : Below w.heap.size w ((w.alloc (.cells (mcells ⟨st, ev, starts, ars, ends⟩ ⟨a1, c1, some ⟨b, off, none⟩, c2, a3, c3⟩) 25)).alloc (.cells #[] 3)) := ((Below.refl _ _).alloc (Nat.le_refl _) _).alloc (by simp) _
  have bb0 : Below (w.heap.size + 1) (w.alloc (.cells (mcells ⟨st, ev, starts, ars, ends⟩ ⟨a1, c1, some ⟨b, off, none⟩, c2, a3, c3⟩) 25)) ((w.alloc (.cells (mcells ⟨st, ev, starts, ars, ends⟩ ⟨a1, c1, some ⟨b, off, none⟩, c2, a3, c3⟩) 25)).alloc (.cells #[] 3)) := (Below.refl _ _).alloc (by simp) _
  have s0 := hs.below b0 (Nat.le_refl _)
  go_enter Tryd.func22, Tryd.ntmps22
  go_wp2_with (at_builtin; refine wpList_append_ints _ rfl _ _ 22 rfl (w.heap.size + 1) i0 Tryd.underlying22 hi hz0 hz1 hz2 _ [] rfl o0 a1 c1 starts rfl s0 hn.out (by simp only [List.length_nil]; omega) (by simp) ?_)
  intro v0 w0 o1 b1 z1
  have B1 : Hid (Below (w.heap.size + 1) (w.alloc (.cells (mcells ⟨st, ev, starts, ars, ends⟩ ⟨a1, c1, some ⟨b, off, none⟩, c2, a3, c3⟩) 25)) w0) := bb0.trans b1
  have O1 : Hid (Own w0 (w.heap.size + 1) v0 starts) := o1
  clear o0 b0 bb0 s0 o1 b1
  go_wp2
  go_loopw [3, 4] (fun v i wr => ∃ (k : Nat) (L : List Int), (k : Int) ≤ st ∧ i = .int .i64 k ∧ Hid (Own wr (w.heap.size + 1) v L) ∧ Hid (Below (w.heap.size + 1) (w.alloc (.cells (mcells ⟨st, ev, starts, ars, ends⟩ ⟨a1, c1, some ⟨b, off, none⟩, c2, a3, c3⟩) 25)) wr) ∧ Hid (closeN (·.f) (·.t) ars st.toNat starts = closeN (·.f) (·.t) ars (st.toNat - k) L) ∧ L.length ≤ 4096 + k * 4096) (fun _ i _ => st.toNat - (intOf i).toNat)
  case atStart => exact ⟨0, starts, by omega, rfl, O1, B1, rfl, by omega⟩
  case round =>
    clear O1 B1
    obtain ⟨k, L, hk, rfl, hown, hbel, hc, hll⟩ := hrel
    have hold := Hid.of3 (below_box hbel.out)
    have hsz := hbel.out.size
    rw [World.size_alloc] at hsz
    have hbx : w.heap.size < wr.heap.size := by omega
    obtain ⟨x0, -, -, x3, -⟩ := box_cells hbel.out
    dsimp only at x0 x3
    obtain ⟨la, lc, rfl, hat, hln⟩ := hown.out.at
    by_cases hks : (k : Int) < st
    · go_wp2
      go_loopw [3, 6] (fun v i wr' => ∃ (j : Nat), j ≤ ars.length ∧ i = .int .i64 j ∧ Hid (Own wr' (w.heap.size + 1) v (sweep (·.f) (·.t) (ars.take j) L)) ∧ Hid (Below (w.heap.size + 1) (w.alloc (.cells (mcells ⟨st, ev, starts, ars, ends⟩ ⟨a1, c1, some ⟨b, off, none⟩, c2, a3, c3⟩) 25)) wr') ∧ (sweep (·.f) (·.t) (ars.take j) L).length ≤ L.length + j) (fun _ i _ => ars.length - (intOf i).toNat)
      case atStart => exact ⟨0, Nat.zero_le _, rfl, hown, hbel, Nat.le_refl _⟩
      case round =>
        clear hown hbel hold hat x0 x3 hsz hbx hln
        obtain ⟨j, hj, rfl, hown, hbel, hlj⟩ := hrel
        have hold := Hid.of3 (below_box hbel.out)
        have hsz := hbel.out.size
        rw [World.size_alloc] at hsz
        have hbx : w.heap.size < wr.heap.size := by omega
        obtain ⟨x0, -, -, x3, -⟩ := box_cells hbel.out
        dsimp only at x0 x3
        by_cases hlt : j < ars.length
        · obtain ⟨a, HA, y0, y1, y2⟩ := hca.at hlt
          have y0' := (hold.out.cell (p := ⟨b, off + j * 3, none⟩) hb).trans y0
          have y2' := (hold.out.cell (p := ⟨b, off + j * 3 + 2, none⟩) hb).trans y2
          clear y0 y1 y2
          have HN := Hid.of3 (sweep_take (fr := (·.f)) (to := (·.t)) (l := L) hlt HA)
          obtain ⟨T, hT⟩ : ∃ T, T = sweep (·.f) (·.t) (ars.take j) L := ⟨_, rfl⟩
          rw [← hT] at hown hlj HN
          clear hT
          obtain ⟨la', lc', rfl, hat, hln⟩ := hown.out.at
          have HAT := Hid.of3 hat
          have hln2 := Hid.of3 hln
          clear hat hln
          by_cases d1 : hasB T a.f = true
          · by_cases d2 : hasB T a.t = true
            · have HR : Hid (sweep (·.f) (·.t) (ars.take (j + 1)) L = T) := by show _ = _; rw [HN.out]; unfold along; rw [if_neg (by rw [d2]; simp)]
              clear HN
              go_wp2_with (go_at_call 38; refine (refHas_any la' lc' T _ _ HAT.out hln2.out).mono ?_; rintro e w1 ⟨rfl, rfl⟩)
              go_roundw
              case rel => exact ⟨j + 1, by omega, by go_num, by rw [HR.out]; exact hown, hbel, by rw [HR.out]; omega⟩
              case measure => simp [intOf]; omega
            · have d2 : hasB T a.t = false := by simpa using d2
              have HR : Hid (sweep (·.f) (·.t) (ars.take (j + 1)) L = T ++ [a.t]) := by show _ = _; rw [HN.out]; unfold along; rw [if_pos (by rw [d1, d2]; rfl)]
              clear HN
              have hT2 : T.length ≤ 2000000 := by omega
              go_wp2_with (first | (go_at_call 38; refine (refHas_any la' lc' T _ _ HAT.out hln2.out).mono ?_; rintro e w1 ⟨rfl, rfl⟩) | (at_builtin; refine wpList_append_own _ rfl _ _ 22 rfl (w.heap.size + 1) 3 i0 (.int .i64 0) 1 8 Tryd.underlying22 hi hz0 hz1 hz2 rfl (by decide) _ _ _ rfl (World.ownsRow.alloc hown.out _) ⟨_, 0, none⟩ 1 1 [.int .i64 a.t] rfl rfl (cell_one_new _ _ _) (by intro u hu; simp at hu; subst hu; rfl) (by unfold maxLen; omega) (by omega) (by simp; omega) ?_; intro v' w2 hown' hgrow _; obtain ⟨r1, r2, -⟩ := own_snoc hown.out hbel.out (by omega) hown' hgrow; have R1 := Hid.of3 r1; have R2 := Hid.of3 r2; clear r1 r2 hown' hgrow))
              go_roundw
              case rel => exact ⟨j + 1, by omega, by go_num, by rw [HR.out]; exact R1, R2, by rw [HR.out]; simp only [List.length_append, List.length_cons, List.length_nil]; omega⟩
              case measure => simp [intOf]; omega
          · have d1 : hasB T a.f = false := by simpa using d1
            have HR : Hid (sweep (·.f) (·.t) (ars.take (j + 1)) L = T) := by show _ = _; rw [HN.out]; unfold along; rw [if_neg (by rw [d1]; simp)]
            clear HN
            go_wp2_with (go_at_call 38; refine (refHas_any la' lc' T _ _ HAT.out hln2.out).mono ?_; rintro e w1 ⟨rfl, rfl⟩)
            go_roundw
            case rel => exact ⟨j + 1, by omega, by go_num, by rw [HR.out]; exact hown, hbel, by rw [HR.out]; omega⟩
            case measure => simp [intOf]; omega
        · have htk : ars.take j = ars := List.take_of_length_le (by omega)
          rw [htk] at hown hlj
          clear htk
          obtain ⟨T, hT⟩ : ∃ T, T = sweep (·.f) (·.t) ars L := ⟨_, rfl⟩
          have HT := Hid.of3 hT
          rw [← hT] at hown hlj
          clear hT
          have hle := sweep_le (fr := (·.f)) (to := (·.t)) ars L
          rw [← HT.out] at hle
          obtain ⟨la', lc', rfl, hat, hln⟩ := hown.out.at
          have HAT := Hid.of3 hat
          have hln2 := Hid.of3 hln
          clear hat hln
          have hks2 : st.toNat - k = (st.toNat - (k + 1)) + 1 := by omega
          by_cases hq : T.length = L.length
          · have HC : Hid (closeN (·.f) (·.t) ars st.toNat starts = T) := by
              show _ = _
              rw [hc.out, hks2, closeN, ← HT.out, if_pos hq]
            have dq : ((T.length : Int) == (L.length : Int)) = true := by simp; omega
            clear hks2 hq
            go_wp2_with (go_at_call 39; refine (sorted_any la' lc' T _ HAT.out (by omega)).mono ?_; rintro e w1 ⟨a4, c4, rfl, h4, l4, b4⟩; have H4 := Hid.of3 h4; have L4 := Hid.of3 l4; have B4 := Hid.of3 b4; clear h4 l4 b4)
            go_ret
            exact ⟨a4, c4, by rw [HC.out]; rfl, by rw [HC.out]; exact H4.out, by rw [HC.out]; exact L4.out, hold.out.trans (B4.out.mono (by omega))⟩
          · have HC : Hid (closeN (·.f) (·.t) ars st.toNat starts = closeN (·.f) (·.t) ars (st.toNat - (k + 1)) T) := by
              show _ = _
              rw [hc.out, hks2, closeN, ← HT.out, if_neg hq]
            have dq : ((T.length : Int) == (L.length : Int)) = false := by simp; omega
            clear hks2 hq
            go_wp2
            exact ⟨⟨k + 1, T, by omega, by go_num, hown, hbel, HC, by omega⟩, by simp [intOf]; omega⟩
    · have HC : Hid (closeN (·.f) (·.t) ars st.toNat starts = L) := by
        show _ = _
        rw [hc.out, show st.toNat - k = 0 by omega]; rfl
      have HAT := Hid.of3 hat
      clear hat
      go_wp2_with (go_at_call 39; refine (sorted_any la lc L _ HAT.out (by omega)).mono ?_; rintro e w1 ⟨a4, c4, rfl, h4, l4, b4⟩; have H4 := Hid.of3 h4; have L4 := Hid.of3 l4; have B4 := Hid.of3 b4; clear h4 l4 b4)
      go_ret
      exact ⟨a4, c4, by rw [HC.out]; rfl, by rw [HC.out]; exact H4.out, by rw [HC.out]; exact L4.out, hold.out.trans (B4.out.mono (by omega))⟩

set_option maxHeartbeats 4000000 in
set_option maxRecDepth 100000 in
theorem refLive_some (st ev : Int) (starts : List Int) (ars : List Arr) (ends : List Int) (a1 : Option Addr) (c1 b off c2 : Nat) (a3 : Option Addr) (c3 : Nat) (w : World) (h1 : 0 ≤ st) (h2 : st ≤ 256) (hlen : ars.length ≤ 4096) (hb : b < w.heap.size) (hca : CellsA w b off ars) (hs : At w a3 ends) (hsl : ends.length ≤ 4096) (hn : Hid (a3 = none → c3 = 0)) :
    Calls Tryd.prog 23 #[mval ⟨st, ev, starts, ars, ends⟩ ⟨a1, c1, some ⟨b, off, none⟩, c2, a3, c3⟩] w fun e w' => Gives w (srt (closeN (·.t) (·.f) ars st.toNat ends)) e w' := by
  obtain ⟨i0, hi, hz0, hz1, hz2⟩ := info_parts Tryd.infoInt
  have o0 : Own ((w.alloc (.cells (mcells ⟨st, ev, starts, ars, ends⟩ ⟨a1, c1, some ⟨b, off, none⟩, c2, a3, c3⟩) 25)).alloc (.cells #[] 3)) (w.heap.size + 1) (.slice (some ⟨w.heap.size + 1, 0, none⟩) 0 0) [] := by
    have := own_empty (w.alloc (.cells (mcells ⟨st, ev, starts, ars, ends⟩ ⟨a1, c1, some ⟨b, off, none⟩, c2, a3, c3⟩) 25))
    rwa [World.size_alloc] at this
  have b0 : Below w.heap.size w ((w.alloc (.cells (mcells ⟨st, ev, starts, ars, ends⟩ ⟨a1, c1, some ⟨b, off, none⟩, c2, a3, c3⟩) 25)).alloc (.cells #[] 3)) := ((Below.refl _ _).alloc (Nat.le_refl _) _).alloc (by simp) _
  have bb0 : Below (w.heap.size + 1) (w.alloc (.cells (mcells ⟨st, ev, starts, ars, ends⟩ ⟨a1, c1, some ⟨b, off, none⟩, c2, a3, c3⟩) 25)) ((w.alloc (.cells (mcells ⟨st, ev, starts, ars, ends⟩ ⟨a1, c1, some ⟨b, off, none⟩, c2, a3, c3⟩) 25)).alloc (.cells #[] 3)) := (Below.refl _ _).alloc (by simp) _
  have s0 := hs.below b0 (Nat.le_refl _)
  go_enter Tryd.func23, Tryd.ntmps23
  go_wp2_with (at_builtin; refine wpList_append_ints _ rfl _ _ 22 rfl (w.heap.size + 1) i0 Tryd.underlying22 hi hz0 hz1 hz2 _ [] rfl o0 a3 c3 ends rfl s0 hn.out (by simp only [List.length_nil]; omega) (by simp) ?_)
  intro v0 w0 o1 b1 z1
  have B1 : Hid (Below (w.heap.size + 1) (w.alloc (.cells (mcells ⟨st, ev, starts, ars, ends⟩ ⟨a1, c1, some ⟨b, off, none⟩, c2, a3, c3⟩) 25)) w0) := bb0.trans b1
  have O1 : Hid (Own w0 (w.heap.size + 1) v0 ends) := o1
  clear o0 b0 bb0 s0 o1 b1
  go_wp2
  go_loopw [3, 4] (fun v i wr => ∃ (k : Nat) (L : List Int), (k : Int) ≤ st ∧ i = .int .i64 k ∧ Hid (Own wr (w.heap.size + 1) v L) ∧ Hid (Below (w.heap.size + 1) (w.alloc (.cells (mcells ⟨st, ev, starts, ars, ends⟩ ⟨a1, c1, some ⟨b, off, none⟩, c2, a3, c3⟩) 25)) wr) ∧ Hid (closeN (·.t) (·.f) ars st.toNat ends = closeN (·.t) (·.f) ars (st.toNat - k) L) ∧ L.length ≤ 4096 + k * 4096) (fun _ i _ => st.toNat - (intOf i).toNat)
  case atStart => exact ⟨0, ends, by omega, rfl, O1, B1, rfl, by omega⟩
  case round =>
    clear O1 B1
    obtain ⟨k, L, hk, rfl, hown, hbel, hc, hll⟩ := hrel
    have hold := Hid.of3 (below_box hbel.out)
    have hsz := hbel.out.size
    rw [World.size_alloc] at hsz
    have hbx : w.heap.size < wr.heap.size := by omega
    obtain ⟨x0, -, -, x3, -⟩ := box_cells hbel.out
    dsimp only at x0 x3
    obtain ⟨la, lc, rfl, hat, hln⟩ := hown.out.at
    by_cases hks : (k : Int) < st
    · go_wp2
      go_loopw [3, 6] (fun v i wr' => ∃ (j : Nat), j ≤ ars.length ∧ i = .int .i64 j ∧ Hid (Own wr' (w.heap.size + 1) v (sweep (·.t) (·.f) (ars.take j) L)) ∧ Hid (Below (w.heap.size + 1) (w.alloc (.cells (mcells ⟨st, ev, starts, ars, ends⟩ ⟨a1, c1, some ⟨b, off, none⟩, c2, a3, c3⟩) 25)) wr') ∧ (sweep (·.t) (·.f) (ars.take j) L).length ≤ L.length + j) (fun _ i _ => ars.length - (intOf i).toNat)
      case atStart => exact ⟨0, Nat.zero_le _, rfl, hown, hbel, Nat.le_refl _⟩
      case round =>
        clear hown hbel hold hat x0 x3 hsz hbx hln
        obtain ⟨j, hj, rfl, hown, hbel, hlj⟩ := hrel
        have hold := Hid.of3 (below_box hbel.out)
        have hsz := hbel.out.size
        rw [World.size_alloc] at hsz
        have hbx : w.heap.size < wr.heap.size := by omega
        obtain ⟨x0, -, -, x3, -⟩ := box_cells hbel.out
        dsimp only at x0 x3
        by_cases hlt : j < ars.length
        · obtain ⟨a, HA, y0, y1, y2⟩ := hca.at hlt
          have y0' := (hold.out.cell (p := ⟨b, off + j * 3, none⟩) hb).trans y0
          have y2' := (hold.out.cell (p := ⟨b, off + j * 3 + 2, none⟩) hb).trans y2
          clear y0 y1 y2
          have HN := Hid.of3 (sweep_take (fr := (·.t)) (to := (·.f)) (l := L) hlt HA)
          obtain ⟨T, hT⟩ : ∃ T, T = sweep (·.t) (·.f) (ars.take j) L := ⟨_, rfl⟩
          rw [← hT] at hown hlj HN
          clear hT
          obtain ⟨la', lc', rfl, hat, hln⟩ := hown.out.at
          have HAT := Hid.of3 hat
          have hln2 := Hid.of3 hln
          clear hat hln
          by_cases d1 : hasB T a.t = true
          · by_cases d2 : hasB T a.f = true
            · have HR : Hid (sweep (·.t) (·.f) (ars.take (j + 1)) L = T) := by show _ = _; rw [HN.out]; unfold along; rw [if_neg (by rw [d2]; simp)]
              clear HN
              go_wp2_with (go_at_call 38; refine (refHas_any la' lc' T _ _ HAT.out hln2.out).mono ?_; rintro e w1 ⟨rfl, rfl⟩)
              go_roundw
              case rel => exact ⟨j + 1, by omega, by go_num, by rw [HR.out]; exact hown, hbel, by rw [HR.out]; omega⟩
              case measure => simp [intOf]; omega
            · have d2 : hasB T a.f = false := by simpa using d2
              have HR : Hid (sweep (·.t) (·.f) (ars.take (j + 1)) L = T ++ [a.f]) := by show _ = _; rw [HN.out]; unfold along; rw [if_pos (by rw [d1, d2]; rfl)]
              clear HN
              have hT2 : T.length ≤ 2000000 := by omega
              go_wp2_with (first | (go_at_call 38; refine (refHas_any la' lc' T _ _ HAT.out hln2.out).mono ?_; rintro e w1 ⟨rfl, rfl⟩) | (at_builtin; refine wpList_append_own _ rfl _ _ 22 rfl (w.heap.size + 1) 3 i0 (.int .i64 0) 1 8 Tryd.underlying22 hi hz0 hz1 hz2 rfl (by decide) _ _ _ rfl (World.ownsRow.alloc hown.out _) ⟨_, 0, none⟩ 1 1 [.int .i64 a.f] rfl rfl (cell_one_new _ _ _) (by intro u hu; simp at hu; subst hu; rfl) (by unfold maxLen; omega) (by omega) (by simp; omega) ?_; intro v' w2 hown' hgrow _; obtain ⟨r1, r2, -⟩ := own_snoc hown.out hbel.out (by omega) hown' hgrow; have R1 := Hid.of3 r1; have R2 := Hid.of3 r2; clear r1 r2 hown' hgrow))
              go_roundw
              case rel => exact ⟨j + 1, by omega, by go_num, by rw [HR.out]; exact R1, R2, by rw [HR.out]; simp only [List.length_append, List.length_cons, List.length_nil]; omega⟩
              case measure => simp [intOf]; omega
          · have d1 : hasB T a.t = false := by simpa using d1
            have HR : Hid (sweep (·.t) (·.f) (ars.take (j + 1)) L = T) := by show _ = _; rw [HN.out]; unfold along; rw [if_neg (by rw [d1]; simp)]
            clear HN
            go_wp2_with (go_at_call 38; refine (refHas_any la' lc' T _ _ HAT.out hln2.out).mono ?_; rintro e w1 ⟨rfl, rfl⟩)
            go_roundw
            case rel => exact ⟨j + 1, by omega, by go_num, by rw [HR.out]; exact hown, hbel, by rw [HR.out]; omega⟩
            case measure => simp [intOf]; omega
        · have htk : ars.take j = ars := List.take_of_length_le (by omega)
          rw [htk] at hown hlj
          clear htk
          obtain ⟨T, hT⟩ : ∃ T, T = sweep (·.t) (·.f) ars L := ⟨_, rfl⟩
          have HT := Hid.of3 hT
          rw [← hT] at hown hlj
          clear hT
          have hle := sweep_le (fr := (·.t)) (to := (·.f)) ars L
          rw [← HT.out] at hle
          obtain ⟨la', lc', rfl, hat, hln⟩ := hown.out.at
          have HAT := Hid.of3 hat
          have hln2 := Hid.of3 hln
          clear hat hln
          have hks2 : st.toNat - k = (st.toNat - (k + 1)) + 1 := by omega
          by_cases hq : T.length = L.length
          · have HC : Hid (closeN (·.t) (·.f) ars st.toNat ends = T) := by
              show _ = _
              rw [hc.out, hks2, closeN, ← HT.out, if_pos hq]
            have dq : ((T.length : Int) == (L.length : Int)) = true := by simp; omega
            clear hks2 hq
            go_wp2_with (go_at_call 39; refine (sorted_any la' lc' T _ HAT.out (by omega)).mono ?_; rintro e w1 ⟨a4, c4, rfl, h4, l4, b4⟩; have H4 := Hid.of3 h4; have L4 := Hid.of3 l4; have B4 := Hid.of3 b4; clear h4 l4 b4)
            go_ret
            exact ⟨a4, c4, by rw [HC.out]; rfl, by rw [HC.out]; exact H4.out, by rw [HC.out]; exact L4.out, hold.out.trans (B4.out.mono (by omega))⟩
          · have HC : Hid (closeN (·.t) (·.f) ars st.toNat ends = closeN (·.t) (·.f) ars (st.toNat - (k + 1)) T) := by
              show _ = _
              rw [hc.out, hks2, closeN, ← HT.out, if_neg hq]
            have dq : ((T.length : Int) == (L.length : Int)) = false := by simp; omega
            clear hks2 hq
            go_wp2
            exact ⟨⟨k + 1, T, by omega, by go_num, hown, hbel, HC, by omega⟩, by simp [intOf]; omega⟩
    · have HC : Hid (closeN (·.t) (·.f) ars st.toNat ends = L) := by
        show _ = _
        rw [hc.out, show st.toNat - k = 0 by omega]; rfl
      have HAT := Hid.of3 hat
      clear hat
      go_wp2_with (go_at_call 39; refine (sorted_any la lc L _ HAT.out (by omega)).mono ?_; rintro e w1 ⟨a4, c4, rfl, h4, l4, b4⟩; have H4 := Hid.of3 h4; have L4 := Hid.of3 l4; have B4 := Hid.of3 b4; clear h4 l4 b4)
      go_ret
      exact ⟨a4, c4, by rw [HC.out]; rfl, by rw [HC.out]; exact H4.out, by rw [HC.out]; exact L4.out, hold.out.trans (B4.out.mono (by omega))⟩

set_option maxHeartbeats 4000000 in
set_option maxRecDepth 100000 in
theorem refReach_none (st ev : Int) (starts ends : List Int) (l : ML) (w : World) (h1 : 1 ≤ st) (hs : At w l.a1 starts) (hsl : starts.length ≤ 4096) (hn : Hid (l.a1 = none → l.c1 = 0)) :
    Calls Tryd.prog 22 #[mval ⟨st, ev, starts, [], ends⟩ l] w fun e w' => Gives w (srt starts) e w' := by
  obtain ⟨i0, hi, hz0, hz1, hz2⟩ := info_parts Tryd.infoInt
  have o0 : Own ((w.alloc (.cells (mcells ⟨st, ev, starts, [], ends⟩ l) 25)).alloc (.cells #[] 3)) (w.heap.size + 1) (.slice (some ⟨w.heap.size + 1, 0, none⟩) 0 0) [] := by
    have := own_empty (w.alloc (.cells (mcells ⟨st, ev, starts, [], ends⟩ l) 25))
    rwa [World.size_alloc] at this
  have b0 : Below w.heap.size w ((w.alloc (.cells (mcells ⟨st, ev, starts, [], ends⟩ l) 25)).alloc (.cells #[] 3)) := ((Below.refl _ _).alloc (Nat.le_refl _) _).alloc (by simp) _
  have bb0 : Below (w.heap.size + 1) (w.alloc (.cells (mcells ⟨st, ev, starts, [], ends⟩ l) 25)) ((w.alloc (.cells (mcells ⟨st, ev, starts, [], ends⟩ l) 25)).alloc (.cells #[] 3)) := (Below.refl _ _).alloc (by simp) _
  have s0 := hs.below b0 (Nat.le_refl _)
  go_enter Tryd.func22, Tryd.ntmps22
  go_wp2_with (at_builtin; refine wpList_append_ints _ rfl _ _ 22 rfl (w.heap.size + 1) i0 Tryd.underlying22 hi hz0 hz1 hz2 _ [] rfl o0 l.a1 l.c1 starts rfl s0 hn.out (by simp only [List.length_nil]; omega) (by simp) ?_)
  intro v0 w0 o1 b1 z1
  have B1 : Hid (Below (w.heap.size + 1) (w.alloc (.cells (mcells ⟨st, ev, starts, [], ends⟩ l) 25)) w0) := bb0.trans b1
  obtain ⟨la, lc, rfl, hat, hln⟩ := Own.at (show Own w0 (w.heap.size + 1) v0 starts from o1)
  have HAT := Hid.of3 hat
  obtain ⟨x0, -, -, x3, -⟩ := box_cells B1.out
  dsimp only at x0 x3
  clear o0 b0 bb0 s0 o1 b1 hat
  have hd : decide (0 < st) = true := by simp; omega
  have hd' : 0 < st := by omega
  go_wp2
  refine wp_loop_rounds 1 ?_
  rw [rounds_succ]
  go_wp2
  refine wp_loop_rounds 1 ?_
  rw [rounds_succ]
  go_wp2_with (go_at_call 39; refine (sorted_any la lc starts _ HAT.out (by omega)).mono ?_; rintro e w1 ⟨a4, c4, rfl, h4, l4, b4⟩; have H4 := Hid.of3 h4; have L4 := Hid.of3 l4; have B4 := Hid.of3 b4; clear h4 l4 b4)
  go_ret
  exact ⟨a4, c4, rfl, H4.out, L4.out, (below_box B1.out).trans (B4.out.mono (by have := B1.out.size; rw [World.size_alloc] at this; omega))⟩

theorem refReach_any (m : Mach) (l : ML) (w : World) (hm : mayB m = true) (h : MAt w m l) :
    Calls Tryd.prog 22 #[mval m l] w fun e w' => Gives w (reachL m) e w' := by
  have hz := mayB_size hm
  have hr := mayB_starts hm
  unfold sizeOk at hz
  have hl : m.starts.length ≤ 4096 := by
    unfold rowB at hr
    have := goIs_len _ _ _ (by omega) hr
    omega
  obtain ⟨st, ev, starts, arrows, ends⟩ := m
  obtain ⟨a1, c1, a2, c2, a3, c3⟩ := l
  simp only at hz hl
  rcases h.a with h0 | ⟨b, off, h0, hb, hc⟩
  · have h0 : arrows = [] := h0
    subst h0
    have e : reachL ⟨st, ev, starts, [], ends⟩ = srt starts := by
      unfold reachL
      simp only
      obtain ⟨k, hk⟩ : ∃ k, st.toNat = k + 1 := ⟨st.toNat - 1, by omega⟩
      rw [hk, closeN]
      simp [sweep]
    rw [e]
    exact refReach_none st ev starts ends ⟨a1, c1, a2, c2, a3, c3⟩ w hz.1 h.s hl (Hid.of3 h.s3)
  · have h0 : a2 = some ⟨b, off, none⟩ := h0
    subst h0
    exact refReach_some st ev starts arrows ends a1 c1 b off c2 a3 c3 w (by omega) (by omega) (by omega) hb hc h.s hl (Hid.of3 h.s3)

set_option maxHeartbeats 4000000 in
set_option maxRecDepth 100000 in
theorem refLive_none (st ev : Int) (starts ends : List Int) (l : ML) (w : World) (h1 : 1 ≤ st) (hs : At w l.a3 ends) (hsl : ends.length ≤ 4096) (hn : Hid (l.a3 = none → l.c3 = 0)) :
    Calls Tryd.prog 23 #[mval ⟨st, ev, starts, [], ends⟩ l] w fun e w' => Gives w (srt ends) e w' := by
  obtain ⟨i0, hi, hz0, hz1, hz2⟩ := info_parts Tryd.infoInt
  have o0 : Own ((w.alloc (.cells (mcells ⟨st, ev, starts, [], ends⟩ l) 25)).alloc (.cells #[] 3)) (w.heap.size + 1) (.slice (some ⟨w.heap.size + 1, 0, none⟩) 0 0) [] := by
    have := own_empty (w.alloc (.cells (mcells ⟨st, ev, starts, [], ends⟩ l) 25))
    rwa [World.size_alloc] at this
  have b0 : Below w.heap.size w ((w.alloc (.cells (mcells ⟨st, ev, starts, [], ends⟩ l) 25)).alloc (.cells #[] 3)) := ((Below.refl _ _).alloc (Nat.le_refl _) _).alloc (by simp) _
  have bb0 : Below (w.heap.size + 1) (w.alloc (.cells (mcells ⟨st, ev, starts, [], ends⟩ l) 25)) ((w.alloc (.cells (mcells ⟨st, ev, starts, [], ends⟩ l) 25)).alloc (.cells #[] 3)) := (Below.refl _ _).alloc (by simp) _
  have s0 := hs.below b0 (Nat.le_refl _)
  go_enter Tryd.func23, Tryd.ntmps23
  go_wp2_with (at_builtin; refine wpList_append_ints _ rfl _ _ 22 rfl (w.heap.size + 1) i0 Tryd.underlying22 hi hz0 hz1 hz2 _ [] rfl o0 l.a3 l.c3 ends rfl s0 hn.out (by simp only [List.length_nil]; omega) (by simp) ?_)
  intro v0 w0 o1 b1 z1
  have B1 : Hid (Below (w.heap.size + 1) (w.alloc (.cells (mcells ⟨st, ev, starts, [], ends⟩ l) 25)) w0) := bb0.trans b1
  obtain ⟨la, lc, rfl, hat, hln⟩ := Own.at (show Own w0 (w.heap.size + 1) v0 ends from o1)
  have HAT := Hid.of3 hat
  obtain ⟨x0, -, -, x3, -⟩ := box_cells B1.out
  dsimp only at x0 x3
  clear o0 b0 bb0 s0 o1 b1 hat
  have hd : decide (0 < st) = true := by simp; omega
  have hd' : 0 < st := by omega
  go_wp2
  refine wp_loop_rounds 1 ?_
  rw [rounds_succ]
  go_wp2
  refine wp_loop_rounds 1 ?_
  rw [rounds_succ]
  go_wp2_with (go_at_call 39; refine (sorted_any la lc ends _ HAT.out (by omega)).mono ?_; rintro e w1 ⟨a4, c4, rfl, h4, l4, b4⟩; have H4 := Hid.of3 h4; have L4 := Hid.of3 l4; have B4 := Hid.of3 b4; clear h4 l4 b4)
  go_ret
  exact ⟨a4, c4, rfl, H4.out, L4.out, (below_box B1.out).trans (B4.out.mono (by have := B1.out.size; rw [World.size_alloc] at this; omega))⟩

theorem refLive_any (m : Mach) (l : ML) (w : World) (hm : mayB m = true) (h : MAt w m l) :
    Calls Tryd.prog 23 #[mval m l] w fun e w' => Gives w (liveL m) e w' := by
  have hz := mayB_size hm
  have hr := mayB_ends hm
  unfold sizeOk at hz
  have hl : m.ends.length ≤ 4096 := by
    unfold rowB at hr
    have := goIs_len _ _ _ (by omega) hr
    omega
  obtain ⟨st, ev, starts, arrows, ends⟩ := m
  obtain ⟨a1, c1, a2, c2, a3, c3⟩ := l
  simp only at hz hl
  rcases h.a with h0 | ⟨b, off, h0, hb, hc⟩
  · have h0 : arrows = [] := h0
    subst h0
    have e : liveL ⟨st, ev, starts, [], ends⟩ = srt ends := by
      unfold liveL
      simp only
      obtain ⟨k, hk⟩ : ∃ k, st.toNat = k + 1 := ⟨st.toNat - 1, by omega⟩
      rw [hk, closeN]
      simp [sweep]
    rw [e]
    exact refLive_none st ev starts ends ⟨a1, c1, a2, c2, a3, c3⟩ w hz.1 h.e hl (Hid.of3 h.e3)
  · have h0 : a2 = some ⟨b, off, none⟩ := h0
    subst h0
    exact refLive_some st ev starts arrows ends a1 c1 b off c2 a3 c3 w (by omega) (by omega) (by omega) hb hc h.e hl (Hid.of3 h.e3)

end Go.Proofs.YtkofobefbjljfaaDoor
namespace Go.Proofs.YtkofobefbjljfaaDoor
open Go.RowKit
set_option linter.unusedVariables false

theorem ret_int64 {a b : Int} (h : a = b) : Ending.returned (.int .i64 a) = .returned (.int .i64 b) := by rw [h]

set_option maxHeartbeats 400000 in
theorem place_some (b off cap : Nat) (xs : List Int) (n : Int) (w : World) (hl : xs.length ≤ 9223372036854775807) (hc : Cells w b off xs) :
    Calls Tryd.prog 41 #[.slice (some ⟨b, off, none⟩) xs.length cap, .int .i64 n] w fun e w' => e = .returned (.int .i64 (placeI xs n)) ∧ w' = w := by
  go_enter Tryd.func41, Tryd.ntmps41
  go_wp2
  go_loop [5] (fun i => ∃ k : Nat, k ≤ xs.length ∧ i = .int .i64 k ∧ Hid (placeI xs n = placeF k (xs.drop k) n)) (fun i => xs.length - (intOf i).toNat)
  case atStart => exact ⟨0, Nat.zero_le _, rfl, rfl⟩
  case round =>
    obtain ⟨k, hk, rfl, he⟩ := hrel
    by_cases hlt : k < xs.length
    · obtain ⟨x, HX, hcx⟩ := hc.at hlt
      by_cases hx : x = n
      · have d : (x == n) = true := by simp [hx]
        have HH : Hid (x = n) := hx
        clear hx
        go_wp2
        go_ret
        exact ⟨ret_int64 (place_hit hlt HX he HH.out), rfl⟩
      · have d : (x == n) = false := by simp [hx]
        have HH : Hid (¬ x = n) := hx
        clear hx
        go_wp2
        go_round
        case rel => exact ⟨k + 1, by omega, by go_num, place_miss hlt HX he HH.out⟩
        case measure => simp [intOf]; omega
    · go_wp2
      go_ret
      exact ⟨ret_int64 (place_end hlt he), rfl⟩

set_option maxHeartbeats 400000 in
theorem place_nil (a : Option Addr) (cap : Nat) (n : Int) (w : World) :
    Calls Tryd.prog 41 #[.slice a 0 cap, .int .i64 n] w fun e w' => e = .returned (.int .i64 (placeI [] n)) ∧ w' = w := by
  go_enter Tryd.func41, Tryd.ntmps41
  go_wp2
  refine wp_loop_rounds 1 ?_
  rw [rounds_succ]
  go_wp2
  go_ret
  exact ⟨rfl, rfl⟩

theorem place_any (a : Option Addr) (cap : Nat) (xs : List Int) (n : Int) (w : World) (hs : At w a xs) (hl : xs.length ≤ maxLen) :
    Calls Tryd.prog 41 #[.slice a xs.length cap, .int .i64 n] w fun e w' => e = .returned (.int .i64 (placeI xs n)) ∧ w' = w := by
  rcases hs with rfl | ⟨b, off, rfl, -, hc⟩
  · exact place_nil a cap n w
  · exact place_some b off cap xs n w hl hc

set_option maxRecDepth 100000 in
set_option maxHeartbeats 2000000 in
theorem places_some (la : Option Addr) (lc b off cap : Nat) (l ss : List Int) (w : World) (hat : At w la l) (hll : l.length ≤ maxLen) (hl : ss.length ≤ 17592186044416) (hb : b < w.heap.size) (hc : Cells w b off ss) :
    Calls Tryd.prog 40 #[.slice la l.length lc, .slice (some ⟨b, off, none⟩) ss.length cap] w fun e w' => GivesO w (placesL l ss) e w' := by
  obtain ⟨i0, hi, hz0, hz1, hz2⟩ := info_parts Tryd.infoInt
  have HL : Hid (l.length ≤ maxLen) := hll
  have HA0 : Hid (At w la l) := hat
  clear hll hat
  go_enter Tryd.func40, Tryd.ntmps40
  go_wp2
  go_loopw [5, 6] (fun v i wr => ∃ k : Nat, k ≤ ss.length ∧ i = .int .i64 k ∧ Own wr w.heap.size v (placesL l (ss.take k)) ∧ Below w.heap.size w wr) (fun _ i _ => ss.length - (intOf i).toNat)
  case atStart => exact ⟨0, Nat.zero_le _, rfl, own_nil _ _, Below.refl _ _⟩
  case round =>
    obtain ⟨k, hk, rfl, hown, hbel⟩ := hrel
    have hsz := hbel.size
    by_cases hlt : k < ss.length
    · obtain ⟨x, HX, y0⟩ := hc.at hlt
      have y0' := (hbel.cell (p := ⟨b, off + k, none⟩) hb).trans y0
      clear y0
      have hlw := placesL_len l (ss.take k)
      rw [List.length_take] at hlw
      have HN : Hid (placesL l (ss.take (k + 1)) = if 0 ≤ placeI l x then placesL l (ss.take k) ++ [placeI l x] else placesL l (ss.take k)) := placesL_take hlt HX
      have HAT : Hid (At wr la l) := HA0.out.below hbel (Nat.le_refl _)
      go_wp2_with fail
      refine (place_any la lc l x _ HAT.out HL.out).mono ?_
      rintro e w1 ⟨rfl, rfl⟩
      by_cases d : 0 ≤ placeI l x
      · have HR : Hid (placesL l (ss.take (k + 1)) = placesL l (ss.take k) ++ [placeI l x]) := by show _ = _; rw [HN.out, if_pos d]
        have dd : decide (0 ≤ placeI l x) = true := by simpa using d
        clear HN
        generalize placeI l x = q at *
        go_wp2_with (at_builtin; refine wpList_append_own _ rfl _ _ 22 rfl w.heap.size 3 i0 (.int .i64 0) 1 8 Tryd.underlying22 hi hz0 hz1 hz2 rfl (by decide) _ _ _ rfl (World.ownsRow.alloc hown _) ⟨_, 0, none⟩ 1 1 [.int .i64 q] rfl rfl (cell_one_new _ _ _) (by intro u hu; simp at hu; subst hu; rfl) (by unfold maxLen; omega) (by omega) (by simp; omega) ?_)
        intro v' w2 hown' hgrow _
        obtain ⟨r1, r2, -⟩ := own_snoc hown hbel (by omega) hown' hgrow
        rw [← HR.out] at r1
        clear hown' hgrow hown
        go_wp2
        go_roundw
        case rel => exact ⟨k + 1, by omega, by go_num, r1, r2⟩
        case measure => simp [intOf]; omega
      · have HR : Hid (placesL l (ss.take (k + 1)) = placesL l (ss.take k)) := by show _ = _; rw [HN.out, if_neg d]
        have dd : decide (0 ≤ placeI l x) = false := by simpa using d
        clear HN
        have r1 := hown
        rw [← HR.out] at r1
        generalize placeI l x = q at *
        go_wp2
        go_roundw
        case rel => exact ⟨k + 1, by omega, by go_num, r1, hbel⟩
        case measure => simp [intOf]; omega
    · rw [List.take_of_length_le (by omega)] at hown
      go_wp2
      go_ret
      exact ⟨_, rfl, hown, hbel⟩

set_option maxHeartbeats 400000 in
theorem places_nil (la a : Option Addr) (lc cap : Nat) (l : List Int) (w : World) :
    Calls Tryd.prog 40 #[.slice la l.length lc, .slice a 0 cap] w fun e w' => GivesO w (placesL l []) e w' := by
  go_enter Tryd.func40, Tryd.ntmps40
  go_wp2
  refine wp_loop_rounds 1 ?_
  rw [rounds_succ]
  go_wp2
  go_ret
  exact ⟨_, rfl, own_nil _ _, Below.refl _ _⟩

theorem places_any (la a : Option Addr) (lc cap : Nat) (l ss : List Int) (w : World) (hat : At w la l) (hll : l.length ≤ maxLen) (hs : At w a ss) (hl : ss.length ≤ 17592186044416) :
    Calls Tryd.prog 40 #[.slice la l.length lc, .slice a ss.length cap] w fun e w' => GivesO w (placesL l ss) e w' := by
  rcases hs with rfl | ⟨b, off, rfl, hb, hc⟩
  · exact places_nil la a lc cap l w
  · exact places_some la lc b off cap l ss w hat hll hl hb hc

end Go.Proofs.YtkofobefbjljfaaDoor
