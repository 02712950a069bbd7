/-
  append(v, y...) of integers: v a row of the call's own, y any slice; and the empty literal slice.
  The walk of jalousieref2.ahead.
  The walk of jalousieref1.Has: whether a list has a number.
  The walk of jalousieref1.Only: the numbers of a list that are (or are not) in another one.
-/
import Derived.Test.YtmlkpdeidpcidaaDoorG04
import Derived.Test.YtmlkpdeidpcidaaDoorG03
namespace Go.Proofs.YtmlkpdeidpcidaaDoor
open Go.RowKit
set_option linter.unusedVariables false

section
variable {P : Program} (w : World)
theorem wp_append_nil {o : Oper} {a : Act} {K : Act → World → Prop} {Q : Exit → Act → World → Prop} (s x : Operand) (t : TypeId)
    (ho : o.op = .call { callee := .builtin .append, args := #[s, x], argTypes := #[t, t] })
    (base : Nat) (e : TypeId) (i : TypeInfo) (size : Nat) (ht : P.underlying t = some (.slice e)) (hi : P.info? e = some i)
    (v : Value) (n : Nat) (xs : List Value) (hs : a.eval s = v) (hown : w.ownsRow base e size v n xs) (hx : a.eval x = .slice none 0 0)
    (h : K (a.put o.dst v) w) : o.wp P a w K Q := by
  have hr := run_append_owned_none (P := P) w base t o.type e i size ht hi v n xs hown
  unfold Oper.wp execOp
  simp only [ho, resolve, invoke, builtin, Sem.run_bind, Sem.run_pure, Result.andThen_ok, List.map_toArray, List.map_cons, List.map_nil, hs, hx, hr]
  exact h

/-- append(v, y...): v is a row of integers of the call's own, y any slice of integers (nil among them). -/
theorem wpList_append_ints {ops : Array Oper} {rest : List Oper} {o : Oper} {a : Act} {Q : Exit → Act → World → Prop} (hgd : o.guard = none) (s x : Operand) (t : TypeId)
    (ho : o.op = .call { callee := .builtin .append, args := #[s, x], argTypes := #[t, t] })
    (B : Nat) (i : TypeInfo) (ht : P.underlying t = some (.slice 3)) (hi : P.info? 3 = some i) (hz : i.zero = some (.int .i64 0)) (hsize : i.size = 1) (hby : i.bytes = 8)
    (v : Value) (L : List Int) (hs : a.eval s = v) (hown : Own w B v L)
    (ad : Option Addr) (c : Nat) (ys : List Int) (hx : a.eval x = .slice ad ys.length c) (hat : At w ad ys) (hnil : ad = none → c = 0)
    (hroom : (L.length + ys.length) * 8 ≤ 140737488355328) (hbase : B ≤ w.heap.size)
    (h : ∀ v' w', Own w' B v' (L ++ ys) → Below B w w' → B ≤ w'.heap.size → wpList P ops Q rest (a.put o.dst v') w') : wpList P ops Q (o :: rest) a w := by
  cases ad with
  | none =>
    have hy : ys = [] := by
      rcases hat with h | ⟨b, off, h, _⟩
      · exact h
      · cases h
    subst hy
    rw [hnil rfl] at hx
    refine wpList_plain hgd fun _ hK => wp_append_nil w s x t ho B 3 i 1 ht hi v _ _ hs hown hx (hK _ _ (h v w ?_ (Below.refl _ _) hbase))
    rw [List.append_nil]; exact hown
  | some ad =>
    refine wpList_append_own w hgd s x t ho B 3 i (.int .i64 0) 1 8 ht hi hz hsize hby rfl (by decide) v _ _ hs hown ad ys.length c (ys.map (Value.int .i64)) hx (by simp) ?_ ?_ (by unfold maxLen; omega) hroom hbase ?_
    · intro j u hu
      rw [List.getElem?_map] at hu
      rcases hat with h0 | ⟨b, off, h0, _, hc⟩
      · subst h0; simp at hu
      · cases h0
        cases hj : ys[j]? with
        | none => rw [hj] at hu; simp at hu
        | some y =>
          rw [hj] at hu
          simp only [Option.map_some, Option.some.injEq] at hu
          subst hu
          have := hc j (List.getElem?_eq_some_iff.1 hj).1
          rw [List.getD_eq_getElem?_getD, hj, Option.getD_some] at this
          rw [show (⟨b, off, none⟩ : Addr).add j = ⟨b, off + j, none⟩ from by simp [Addr.add]]
          exact this
    · intro u hu
      obtain ⟨y, _, rfl⟩ := List.mem_map.1 hu
      rfl
    · intro v' w' ho' hg _
      refine h v' w' ?_ ((Below.refl _ _).grown hg hbase (fun j hj => (hown.lt j hj).1)) (Nat.le_trans hbase hg.size)
      unfold Own
      rw [List.length_append, List.map_append]
      exact ho'
end

theorem own_empty (w : World) : Own (w.alloc (.cells #[] 3)) w.heap.size (.slice (some ⟨w.heap.size, 0, none⟩) 0 0) [] :=
  World.ownsRow_lit w #[] 0 (Nat.le_refl _) (Nat.zero_le _) rfl

end Go.Proofs.YtmlkpdeidpcidaaDoor
namespace Go.Proofs.YtmlkpdeidpcidaaDoor
open Go.RowKit
set_option linter.unusedVariables false

set_option maxHeartbeats 400000 in
theorem refAhead_any (a b : Arr) (w : World) :
    Calls Tryd.prog 55 #[.agg #[.int .i64 a.f, .int .i64 a.e, .int .i64 a.t], .agg #[.int .i64 b.f, .int .i64 b.e, .int .i64 b.t]] w fun e w' => e = .returned (.bool (aheadB a b)) ∧ Below w.heap.size w w' := by
  obtain ⟨af, ae, at'⟩ := a
  obtain ⟨bf, be, bt⟩ := b
  by_cases h1 : af = bf
  · have d1 : (af != bf) = false := by simp [h1]
    have H1 : Hid (af = bf) := h1
    clear h1
    by_cases h2 : ae = be
    · have d2 : (ae != be) = false := by simp [h2]
      have H2 : Hid (ae = be) := h2
      clear h2
      go_enter Tryd.func55, Tryd.ntmps55
      go_wp2
      go_ret
      exact ⟨ret_bool (by simp [aheadB, H1.out, H2.out]), ((Below.refl _ _).alloc (Nat.le_refl _) _).alloc (by simp) _⟩
    · have d2 : (ae != be) = true := by simp [h2]
      go_enter Tryd.func55, Tryd.ntmps55
      go_wp2
      go_ret
      exact ⟨ret_bool (by simp [aheadB, H1.out, h2]), ((Below.refl _ _).alloc (Nat.le_refl _) _).alloc (by simp) _⟩
  · have d1 : (af != bf) = true := by simp [h1]
    go_enter Tryd.func55, Tryd.ntmps55
    go_wp2
    go_ret
    exact ⟨ret_bool (by simp [aheadB, h1]), ((Below.refl _ _).alloc (Nat.le_refl _) _).alloc (by simp) _⟩

end Go.Proofs.YtmlkpdeidpcidaaDoor
namespace Go.Proofs.YtmlkpdeidpcidaaDoor
open Go.RowKit

set_option maxHeartbeats 400000 in
theorem refHas_some (b off cap : Nat) (xs : List Int) (n : Int) (w : World) (hl : xs.length ≤ 9223372036854775807) (hc : Cells w b off xs) :
    Calls Tryd.prog 119 #[.slice (some ⟨b, off, none⟩) xs.length cap, .int .i64 n] w fun e w' => e = .returned (.bool (hasB xs n)) ∧ w' = w := by
  go_enter Tryd.func119, Tryd.ntmps119
  go_wp2
  go_loop [5] (fun i => ∃ k : Nat, k ≤ xs.length ∧ i = .int .i64 k ∧ Hid (hasB xs n = hasB (xs.drop k) n)) (fun i => xs.length - (intOf i).toNat)
  case atStart => exact ⟨0, Nat.zero_le _, rfl, rfl⟩
  case round =>
    obtain ⟨k, hk, rfl, he⟩ := hrel
    by_cases hlt : k < xs.length
    · obtain ⟨x, HX, hcell⟩ := hc.at hlt
      go_wp2
      · go_ret
        exact ⟨ret_bool (has_hit hlt he HX (by assumption)), rfl⟩
      · go_round
        case rel => exact ⟨k + 1, by omega, by go_num, has_miss hlt he HX (by assumption)⟩
        case measure => simp [intOf]; omega
    · go_wp2
      go_ret
      exact ⟨ret_bool (has_end hlt he), rfl⟩

set_option maxHeartbeats 400000 in
theorem refHas_nil (a : Option Addr) (cap : Nat) (n : Int) (w : World) :
    Calls Tryd.prog 119 #[.slice a 0 cap, .int .i64 n] w fun e w' => e = .returned (.bool false) ∧ w' = w := by
  go_enter Tryd.func119, Tryd.ntmps119
  go_wp2
  refine wp_loop_rounds 1 ?_
  rw [rounds_succ]
  go_wp2
  go_ret
  exact ⟨rfl, rfl⟩

theorem refHas_any (a : Option Addr) (cap : Nat) (xs : List Int) (n : Int) (w : World) (hs : At w a xs) (hl : xs.length ≤ maxLen) :
    Calls Tryd.prog 119 #[.slice a xs.length cap, .int .i64 n] w fun e w' => e = .returned (.bool (hasB xs n)) ∧ w' = w := by
  rcases hs with rfl | ⟨b, off, rfl, -, hc⟩
  · exact refHas_nil a cap n w
  · exact refHas_some b off cap xs n w hl hc

end Go.Proofs.YtmlkpdeidpcidaaDoor
namespace Go.Proofs.YtmlkpdeidpcidaaDoor
open Go.RowKit
set_option linter.unusedVariables false

/-- Of the first k numbers those that are (b = true) or are not in ys. -/
def onlyTo (xs ys : List Int) (b : Bool) (k : Nat) : List Int := (xs.take k).filter (fun n => hasB ys n == b)

theorem onlyTo_len (xs ys : List Int) (b : Bool) (k : Nat) : (onlyTo xs ys b k).length ≤ k := Nat.le_trans (List.length_filter_le _ _) (List.length_take_le _ _)
theorem onlyTo_all {xs : List Int} (ys : List Int) (b : Bool) {k : Nat} (h : ¬ k < xs.length) : onlyTo xs ys b k = xs.filter (fun n => hasB ys n == b) := by
  rw [onlyTo, List.take_of_length_le (by omega)]
theorem onlyTo_hit {xs ys : List Int} {b : Bool} {k : Nat} {x : Int} (h : k < xs.length) (hx : Hid (x = xs[k]?.getD 0)) (hb : hasB ys x = b) : onlyTo xs ys b (k + 1) = onlyTo xs ys b k ++ [x] := by
  have hx := hx.out
  rw [List.getElem?_eq_getElem h] at hx
  simp only [Option.getD_some] at hx
  rw [onlyTo, onlyTo, List.take_add_one, List.getElem?_eq_getElem h, List.filter_append]
  simp [← hx, hb]
theorem onlyTo_miss {xs ys : List Int} {b : Bool} {k : Nat} {x : Int} (h : k < xs.length) (hx : Hid (x = xs[k]?.getD 0)) (hb : ¬ hasB ys x = b) : onlyTo xs ys b (k + 1) = onlyTo xs ys b k := by
  have hx := hx.out
  rw [List.getElem?_eq_getElem h] at hx
  simp only [Option.getD_some] at hx
  rw [onlyTo, onlyTo, List.take_add_one, List.getElem?_eq_getElem h, List.filter_append]
  simp [← hx, hb]

set_option maxHeartbeats 1600000 in
set_option maxRecDepth 100000 in
theorem only_some (bx ox cx cy : Nat) (ay : Option Addr) (xs ys : List Int) (bb : Bool) (w : World) (hl : xs.length ≤ 17592186044416) (hbx : bx < w.heap.size) (hc : Cells w bx ox xs) (ht : At w ay ys) (hm : ys.length ≤ maxLen) :
    Calls Tryd.prog 61 #[.slice (some ⟨bx, ox, none⟩) xs.length cx, .slice ay ys.length cy, .bool bb] w fun e w' => ∃ v, e = .returned v ∧ Own w' w.heap.size v (xs.filter (fun n => hasB ys n == bb)) ∧ Below w.heap.size w w' := by
  obtain ⟨i0, hi, hz0, hz1, hz2⟩ := info_parts Tryd.infoInt
  go_enter Tryd.func61, Tryd.ntmps61
  go_wp2
  go_loopw [7, 8] (fun v i wr => ∃ k : Nat, k ≤ xs.length ∧ i = .int .i64 k ∧ Own wr w.heap.size v (onlyTo xs ys bb k) ∧ Below w.heap.size w wr) (fun _ i _ => xs.length - (intOf i).toNat)
  case atStart => exact ⟨0, Nat.zero_le _, rfl, own_nil _ _, Below.refl _ _⟩
  case round =>
    obtain ⟨k, hk, rfl, hown, hbel⟩ := hrel
    by_cases hlt : k < xs.length
    · obtain ⟨x, HX, hcx0⟩ := hc.at hlt
      have hcx : wr.cell? ⟨bx, ox + k, none⟩ = some (.int .i64 x) := (hbel.cell (p := ⟨bx, ox + k, none⟩) hbx).trans hcx0
      clear hcx0
      have htr : At wr ay ys := ht.below hbel (Nat.le_refl _)
      have hsz := hbel.size
      have hll := onlyTo_len xs ys bb k
      go_wp2_with fail
      refine (refHas_any ay cy ys x _ htr hm).mono ?_
      rintro e w' ⟨rfl, rfl⟩
      by_cases hh : hasB ys x = bb
      · have HH : Hid (hasB ys x = bb) := hh
        have d : (hasB ys x == bb) = true := by simp [hh]
        clear hh
        go_wp2_with (at_builtin; refine wpList_append_own _ rfl _ _ 22 rfl w.heap.size 3 i0 (.int .i64 0) 1 8 Tryd.underlying22 hi hz0 hz1 hz2 rfl (by decide) _ _ _ rfl (World.ownsRow.alloc hown _) ⟨w'.heap.size, 0, none⟩ 1 1 [.int .i64 x] rfl rfl (cell_one_new _ _ _) (by intro u hu; simp at hu; subst hu; rfl) (by unfold maxLen; omega) (by omega) (by simp; omega) ?_)
        intro v' w1 hown' hgrow _
        obtain ⟨r1, r2, -⟩ := own_snoc hown hbel hsz hown' hgrow
        rw [← onlyTo_hit hlt HX HH.out] at r1
        clear hown' hgrow hown hcx htr
        go_wp2
        go_roundw
        case rel => exact ⟨k + 1, by omega, by go_num, r1, r2⟩
        case measure => simp [intOf]; omega
      · have d : (hasB ys x == bb) = false := by simp [hh]
        have r1 := hown
        rw [← onlyTo_miss hlt HX hh] at r1
        go_wp2
        go_roundw
        case rel => exact ⟨k + 1, by omega, by go_num, r1, hbel⟩
        case measure => simp [intOf]; omega
    · rw [onlyTo_all ys bb hlt] at hown
      go_wp2
      go_ret
      exact ⟨_, rfl, hown, hbel⟩

set_option maxHeartbeats 400000 in
theorem only_nil (a ay : Option Addr) (cx cy : Nat) (ys : List Int) (bb : Bool) (w : World) :
    Calls Tryd.prog 61 #[.slice a 0 cx, .slice ay ys.length cy, .bool bb] w fun e w' => e = .returned (.slice none 0 0) ∧ w' = w := by
  go_enter Tryd.func61, Tryd.ntmps61
  go_wp2
  refine wp_loop_rounds 1 ?_
  rw [rounds_succ]
  go_wp2
  go_ret
  exact ⟨rfl, rfl⟩

theorem only_any (a ay : Option Addr) (cx cy : Nat) (xs ys : List Int) (bb : Bool) (w : World) (hs : At w a xs) (hl : xs.length ≤ 17592186044416) (ht : At w ay ys) (hm : ys.length ≤ maxLen) :
    Calls Tryd.prog 61 #[.slice a xs.length cx, .slice ay ys.length cy, .bool bb] w fun e w' => Gives w (xs.filter (fun n => hasB ys n == bb)) e w' := by
  rcases hs with rfl | ⟨b, off, rfl, hb, hc⟩
  · refine (only_nil a ay cx cy ys bb w).mono ?_
    rintro e w' ⟨rfl, rfl⟩
    exact gives_of_own (B := w'.heap.size) (own_nil _ _) (Below.refl _ _)
  · refine (only_some b off cx cy ay xs ys bb w hl hb hc ht hm).mono ?_
    rintro e w' ⟨v, rfl, h1, h2⟩
    exact gives_of_own h1 h2

end Go.Proofs.YtmlkpdeidpcidaaDoor
