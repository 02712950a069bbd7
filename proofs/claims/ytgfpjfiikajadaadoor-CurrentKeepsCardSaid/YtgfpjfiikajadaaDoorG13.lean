/-
  slices.Reverse at lists of integers, in our words.
  append(v, y...) of integers: v a row of the call's own, y any slice; and the empty literal slice.
  The walk of current.wordTo: the list by which a place was found.
  The walks of cmp.Compare, cmp.Or (at integers) and of machine.compare: which of two arrows stands ahead.
  The walk of machine.compare.
-/
import Derived.Test.YtgfpjfiikajadaaDoorG12
import Derived.Test.YtgfpjfiikajadaaDoorG07
import Derived.Test.YtgfpjfiikajadaaDoorG10
import Derived.Test.YtgfpjfiikajadaaDoorG08
import Derived.Test.YtgfpjfiikajadaaDoorG03
namespace Go.Proofs.YtgfpjfiikajadaaDoor
open Go.RowKit Go.Shelf Go.Lib Go.Sort
set_option linter.unusedVariables false

/-- A list of the call's own, reversed in place. -/
theorem revI_any (W : World) (B : Nat) (v : Value) (xs : List Int) (h : Own W B v xs) (hl : xs.length ≤ 17592186044416) :
    Calls Tryd.prog 134 #[v] W fun e W' => e = .returned (.tuple #[]) ∧ Own W' B v xs.reverse ∧ ∀ B0 w0, B0 ≤ B → Below B0 w0 W → Below B0 w0 W' := by
  have h' := h
  rcases h.2 with ⟨h0, h1⟩ | ⟨g, cap, cur, rfl, hg, hh, hnc, hcm, hcs, ht⟩
  · subst h0
    have hx : xs = [] := List.eq_nil_of_length_eq_zero h1
    subst hx
    refine (Any.slices_Reverse_int_empty Tryd.revI none 0 W).mono ?_
    rintro e W' ⟨rfl, rfl⟩
    exact ⟨rfl, h', fun _ _ _ h => h⟩
  · have hbk : g < W.heap.size := (Array.getElem?_eq_some_iff.1 hh).1
    have hH : Holds (Value.int .i64) W g 0 xs.toArray := fun j hj => by
      have hj' : j < xs.length := by simpa using hj
      have e1 : (cur.toList.take (xs.length * 1))[j]? = (xs.map (Value.int .i64))[j]? := by rw [ht]
      rw [List.getElem?_take_of_lt (by omega), Array.getElem?_toList, List.getElem?_map, List.getElem?_eq_getElem hj'] at e1
      refine ⟨?_, ?_⟩
      · simp [World.cell?, hh, e1, hj']
      · simp [World.frozen?, hh]
    refine (Any.slices_Reverse_int Tryd.revI g 0 cap xs W hH (by omega)).mono ?_
    rintro e W' ⟨rfl, n, rfl⟩
    have hSl : xs.reverse.length = xs.length := List.length_reverse
    refine ⟨rfl, ?_, ?_⟩
    · unfold Own
      rw [hSl]
      refine ⟨by simp, .inr ⟨g, cap, putCells (Value.int .i64) 0 xs.reverse.toArray cur, rfl, hg, ?_, hnc, hcm, by simp [putCells, hcs], ?_⟩⟩
      · rw [putRowI_heap, if_pos rfl]
        show Option.map _ (W.heap[g]?) = _
        rw [hh]; rfl
      · rw [Nat.mul_one, ← hSl]
        exact putI_take cur _ (by omega)
    · intro B0 w0 hB hb
      refine ⟨hb.os, hb.tape, hb.output, ?_, fun k hk => ?_⟩
      · refine Nat.le_trans hb.size ?_
        rw [size_putRow]; exact Nat.le_refl _
      · have hkg : g ≠ k := by omega
        rw [putRowI_heap, if_neg hkg]
        exact hb.block k hk

end Go.Proofs.YtgfpjfiikajadaaDoor
namespace Go.Proofs.YtgfpjfiikajadaaDoor
open Go.RowKit
set_option linter.unusedVariables false

section
variable {P : Program} (w : World)
theorem wp_append_nil {o : Oper} {a : Act} {K : Act → World → Prop} {Q : Exit → Act → World → Prop} (s x : Operand) (t : TypeId)
    (ho : o.op = .call { callee := .builtin .append, args := #[s, x], argTypes := #[t, t] })
    (base : Nat) (e : TypeId) (i : TypeInfo) (size : Nat) (ht : P.underlying t = some (.slice e)) (hi : P.info? e = some i)
    (v : Value) (n : Nat) (xs : List Value) (hs : a.eval s = v) (hown : w.ownsRow base e size v n xs) (hx : a.eval x = .slice none 0 0)
    (h : K (a.put o.dst v) w) : o.wp P a w K Q := by
  have hr := run_append_owned_none (P := P) w base t o.type e i size ht hi v n xs hown
  unfold Oper.wp execOp
  simp only [ho, resolve, invoke, builtin, Sem.run_bind, Sem.run_pure, Result.andThen_ok, List.map_toArray, List.map_cons, List.map_nil, hs, hx, hr]
  exact h

/-- append(v, y...): v is a row of integers of the call's own, y any slice of integers (nil among them). -/
theorem wpList_append_ints {ops : Array Oper} {rest : List Oper} {o : Oper} {a : Act} {Q : Exit → Act → World → Prop} (hgd : o.guard = none) (s x : Operand) (t : TypeId)
    (ho : o.op = .call { callee := .builtin .append, args := #[s, x], argTypes := #[t, t] })
    (B : Nat) (i : TypeInfo) (ht : P.underlying t = some (.slice 3)) (hi : P.info? 3 = some i) (hz : i.zero = some (.int .i64 0)) (hsize : i.size = 1) (hby : i.bytes = 8)
    (v : Value) (L : List Int) (hs : a.eval s = v) (hown : Own w B v L)
    (ad : Option Addr) (c : Nat) (ys : List Int) (hx : a.eval x = .slice ad ys.length c) (hat : At w ad ys) (hnil : ad = none → c = 0)
    (hroom : (L.length + ys.length) * 8 ≤ 140737488355328) (hbase : B ≤ w.heap.size)
    (h : ∀ v' w', Own w' B v' (L ++ ys) → Below B w w' → B ≤ w'.heap.size → wpList P ops Q rest (a.put o.dst v') w') : wpList P ops Q (o :: rest) a w := by
  cases ad with
  | none =>
    have hy : ys = [] := by
      rcases hat with h | ⟨b, off, h, _⟩
      · exact h
      · cases h
    subst hy
    rw [hnil rfl] at hx
    refine wpList_plain hgd fun _ hK => wp_append_nil w s x t ho B 3 i 1 ht hi v _ _ hs hown hx (hK _ _ (h v w ?_ (Below.refl _ _) hbase))
    rw [List.append_nil]; exact hown
  | some ad =>
    refine wpList_append_own w hgd s x t ho B 3 i (.int .i64 0) 1 8 ht hi hz hsize hby rfl (by decide) v _ _ hs hown ad ys.length c (ys.map (Value.int .i64)) hx (by simp) ?_ ?_ (by unfold maxLen; omega) hroom hbase ?_
    · intro j u hu
      rw [List.getElem?_map] at hu
      rcases hat with h0 | ⟨b, off, h0, _, hc⟩
      · subst h0; simp at hu
      · cases h0
        cases hj : ys[j]? with
        | none => rw [hj] at hu; simp at hu
        | some y =>
          rw [hj] at hu
          simp only [Option.map_some, Option.some.injEq] at hu
          subst hu
          have := hc j (List.getElem?_eq_some_iff.1 hj).1
          rw [List.getD_eq_getElem?_getD, hj, Option.getD_some] at this
          rw [show (⟨b, off, none⟩ : Addr).add j = ⟨b, off + j, none⟩ from by simp [Addr.add]]
          exact this
    · intro u hu
      obtain ⟨y, _, rfl⟩ := List.mem_map.1 hu
      rfl
    · intro v' w' ho' hg _
      refine h v' w' ?_ ((Below.refl _ _).grown hg hbase (fun j hj => (hown.lt j hj).1)) (Nat.le_trans hbase hg.size)
      unfold Own
      rw [List.length_append, List.map_append]
      exact ho'
end

theorem own_empty (w : World) : Own (w.alloc (.cells #[] 3)) w.heap.size (.slice (some ⟨w.heap.size, 0, none⟩) 0 0) [] :=
  World.ownsRow_lit w #[] 0 (Nat.le_refl _) (Nat.zero_le _) rfl

end Go.Proofs.YtgfpjfiikajadaaDoor
namespace Go.Proofs.YtgfpjfiikajadaaDoor
open Go.RowKit
set_option linter.unusedVariables false

set_option maxRecDepth 100000 in
set_option maxHeartbeats 4000000 in
theorem cwordTo_any (seen : List Int) (B : Nat) (v : Value) (L : List PlC) (l : List (List Int × List Int)) (s0 : List Int) (k : Nat) (x : List Int × List Int) (w : World) (hO : Hid (OwnC w B v L)) (hT : Hid (TrC seen L l)) (hd : Hid (l[0]? = some (s0, []))) (hll : Hid (L.length = l.length)) (hx : Hid (l[k]? = some x)) (hL : L.length ≤ 65536) :
    Calls Tryd.prog 111 #[v, .int .i64 k] w fun e w' => GivesO w (wordS seen x.2) e w' := by
  obtain ⟨j0, ji, jz0, jz1, jz2⟩ := info_parts Tryd.infoInt
  obtain ⟨va, vc, hv, -, -, -⟩ := own_form2 hO.out
  subst hv
  have hk : k < L.length := by have := (List.getElem?_eq_some_iff.1 hx.out).1; rw [hll.out]; exact this
  go_enter Tryd.func111, Tryd.ntmps111
  go_wp2
  go_loopw [1, 5] (fun i v5 wr => ∃ (j : Nat) (u : List Int), i = .int .i64 j ∧ u.length + j ≤ k ∧ Hid (Own wr w.heap.size v5 u) ∧ Hid (Below w.heap.size w wr) ∧ Hid (∃ y, l[j]? = some y ∧ wordS seen x.2 = wordS seen y.2 ++ u.reverse)) (fun i _ _ => (intOf i).toNat)
  case atStart => exact ⟨k, [], rfl, by simp, own_nil _ _, Below.refl _ _, ⟨x, hx.out, by simp⟩⟩
  case round =>
    obtain ⟨j, u, rfl, hju, HO, HB, HY⟩ := hrel
    obtain ⟨fa, fc, hfa, -, -, -⟩ := own_form2 HO.out
    subst hfa
    have hwz := HB.out.size
    by_cases hj : 0 < j
    · have hjl : j < L.length := by omega
      obtain ⟨p, HP⟩ : ∃ p, Hid (L[j]? = some p) := ⟨_, List.getElem?_eq_getElem hjl⟩
      obtain ⟨g, cap, hvg, hg1, hg2, hc⟩ := hO.out.cell HP.out
      cases hvg
      have d8 := (HB.out.cell (p := ⟨g, j * 6 + 4, none⟩) hg2).trans (hc 4 _ rfl)
      have d9 := (HB.out.cell (p := ⟨g, j * 6 + 5, none⟩) hg2).trans (hc 5 _ rfl)
      have HC8 := Hid.of (hc 4 _ rfl)
      clear hc
      have HN : Hid (p.fr < j ∧ ∃ y, l[p.fr]? = some y ∧ wordS seen x.2 = wordS seen y.2 ++ (u ++ [p.ev]).reverse) := by
        obtain ⟨h1, a, b, h2, h3, h4⟩ := hT.out j p hj HP.out
        obtain ⟨y, h5, h6⟩ := HY.out
        rw [h3] at h5
        have := Option.some.inj h5
        subst this
        exact ⟨h1, a, h2, by rw [h6, h4]; simp⟩
      have hf := HN.out.1
      obtain ⟨f, Hf⟩ : ∃ f, Hid (f = p.fr) := ⟨_, rfl⟩
      obtain ⟨ev, He⟩ : ∃ ev, Hid (ev = p.ev) := ⟨_, rfl⟩
      rw [← Hf.out, ← He.out] at HN
      rw [← Hf.out] at hf d8 HC8
      rw [← He.out] at d9
      go_wp2_with (at_builtin; refine wpList_append_block _ rfl (.tmp 13) (.tmp 19) 22 rfl w.heap.size 3 j0 (.int .i64 0) 1 8 Tryd.underlying22 ji jz0 jz1 jz2 rfl (by decide) _ _ _ rfl (World.ownsRow.alloc HO.out _) ⟨wr.heap.size, 0, none⟩ 1 1 [.int .i64 ev] rfl rfl (cell_one_new _ _ _) (by intro u hu; simp at hu; subst hu; rfl) (by decide) (by unfold maxLen; omega) (by omega) (by simp; omega) ?_)
      intro v9 w9 o9 g9 n9
      obtain ⟨q1, q2, q3⟩ := own_snoc HO.out HB.out hwz o9 g9
      have Q1 := Hid.of q1
      have Q2 := Hid.of q2
      have c8 := (Q2.out.cell (p := ⟨g, j * 6 + 4, none⟩) hg2).trans HC8.out
      clear q1 q2 q3 o9 g9 n9
      go_wp2_with fail
      go_roundw
      case rel => exact ⟨f, u ++ [ev], rfl, by simp; omega, Q1, Q2, Hid.of HN.out.2⟩
      case measure => simp [intOf]; omega
    · have hj0 : j = 0 := by omega
      subst hj0
      have HX : Hid (wordS seen x.2 = u.reverse) := by
        obtain ⟨y, h1, h2⟩ := HY.out
        rw [hd.out] at h1
        have := Option.some.inj h1
        subst this
        show wordS seen x.2 = u.reverse
        simpa [wordS] using h2
      have REV := Hid.of (revI_any wr w.heap.size (.slice fa u.length fc) u HO.out (by omega))
      go_wp2_with fail
      refine REV.out.mono ?_
      rintro e W2 ⟨rfl, r1, r2⟩
      have R1 := Hid.of r1
      have R2 := Hid.of (r2 _ _ (Nat.le_refl _) HB.out)
      clear r1 r2
      go_wp2
      exact bodyPost_ret (v := .slice fa u.length fc) (by simp [results, go_sem]) rfl ⟨_, rfl, by rw [HX.out]; exact R1.out, R2.out⟩

end Go.Proofs.YtgfpjfiikajadaaDoor
namespace Go.Proofs.YtgfpjfiikajadaaDoor
open Go.RowKit
set_option linter.unusedVariables false
set_option maxRecDepth 100000

set_option maxHeartbeats 400000 in
theorem isNaN_any (x : Int) (w : World) : Calls Tryd.prog 132 #[.int .i64 x] w fun e w' => e = .returned (.bool false) ∧ w' = w := by
  have h : (x != x) = false := by simp
  go_enter Tryd.func132, Tryd.ntmps132
  go_wp2
  go_ret
  exact ⟨rfl, rfl⟩

/-- -1, 0 or 1. -/
def cmpI (x y : Int) : Int := if x < y then -1 else if y < x then 1 else 0

theorem ret_i64 {a b : Int} (h : a = b) : Ending.returned (.int .i64 a) = .returned (.int .i64 b) := by rw [h]

set_option maxHeartbeats 1000000 in
theorem cmp_any (x y : Int) (w : World) : Calls Tryd.prog 116 #[.int .i64 x, .int .i64 y] w fun e w' => e = .returned (.int .i64 (cmpI x y)) ∧ w' = w := by
  have c1 := isNaN_any x
  have c2 := isNaN_any y
  by_cases h1 : x < y
  · have hr : Hid ((-1 : Int) = cmpI x y) := by show _ = _; simp [cmpI, h1]
    have f1 : decide (x < y) = true := by simpa using h1
    go_enter Tryd.func116, Tryd.ntmps116
    go_wp2_with (first | (go_at_call 132; refine (c1 _).mono ?_; rintro e w' ⟨rfl, rfl⟩) | (go_at_call 132; refine (c2 _).mono ?_; rintro e w' ⟨rfl, rfl⟩))
    go_ret
    exact ⟨ret_i64 hr.out, rfl⟩
  · have f1 : decide (x < y) = false := by simpa using h1
    by_cases h2 : y < x
    · have hr : Hid ((1 : Int) = cmpI x y) := by show _ = _; simp [cmpI, h1, h2]
      have f2 : decide (y < x) = true := by simpa using h2
      go_enter Tryd.func116, Tryd.ntmps116
      go_wp2_with (first | (go_at_call 132; refine (c1 _).mono ?_; rintro e w' ⟨rfl, rfl⟩) | (go_at_call 132; refine (c2 _).mono ?_; rintro e w' ⟨rfl, rfl⟩))
      go_ret
      exact ⟨ret_i64 hr.out, rfl⟩
    · have hr : Hid ((0 : Int) = cmpI x y) := by show _ = _; simp [cmpI, h1, h2]
      have f2 : decide (y < x) = false := by simpa using h2
      go_enter Tryd.func116, Tryd.ntmps116
      go_wp2_with (first | (go_at_call 132; refine (c1 _).mono ?_; rintro e w' ⟨rfl, rfl⟩) | (go_at_call 132; refine (c2 _).mono ?_; rintro e w' ⟨rfl, rfl⟩))
      go_ret
      exact ⟨ret_i64 hr.out, rfl⟩

/-- The first that is not 0. -/
def orI (x y z : Int) : Int := if x = 0 then (if y = 0 then z else y) else x

set_option maxHeartbeats 1000000 in
theorem or_any (x y z : Int) (b : Nat) (w : World) (h0 : w.cell? ⟨b, 0, none⟩ = some (.int .i64 x)) (h1 : w.cell? ⟨b, 1, none⟩ = some (.int .i64 y)) (h2 : w.cell? ⟨b, 2, none⟩ = some (.int .i64 z)) :
    Calls Tryd.prog 115 #[.slice (some ⟨b, 0, none⟩) 3 3] w fun e w' => e = .returned (.int .i64 (orI x y z)) ∧ w' = w := by
  by_cases e0 : x = 0
  · subst e0
    by_cases e1 : y = 0
    · subst e1
      by_cases e2 : z = 0
      · subst e2
        go_enter Tryd.func115, Tryd.ntmps115
        go_wp2
        refine wp_loop_rounds 4 ?_
        rw [rounds_succ]
        go_wp2
        rw [rounds_succ]
        go_wp2
        rw [rounds_succ]
        go_wp2
        rw [rounds_succ]
        go_wp2
        go_ret
        exact ⟨ret_i64 (by simp [orI]), rfl⟩
      · have f2 : (z == 0) = false := by simpa using e2
        have f2' : (z != 0) = true := by simpa using e2
        have hr : Hid (z = orI 0 0 z) := by show _ = _; simp [orI]
        go_enter Tryd.func115, Tryd.ntmps115
        go_wp2
        refine wp_loop_rounds 4 ?_
        rw [rounds_succ]
        go_wp2
        rw [rounds_succ]
        go_wp2
        rw [rounds_succ]
        go_wp2
        go_ret
        exact ⟨ret_i64 hr.out, rfl⟩
    · have f1 : (y == 0) = false := by simpa using e1
      have f1' : (y != 0) = true := by simpa using e1
      have hr : Hid (y = orI 0 y z) := by show _ = _; simp [orI, e1]
      go_enter Tryd.func115, Tryd.ntmps115
      go_wp2
      refine wp_loop_rounds 4 ?_
      rw [rounds_succ]
      go_wp2
      rw [rounds_succ]
      go_wp2
      go_ret
      exact ⟨ret_i64 hr.out, rfl⟩
  · have f0 : (x == 0) = false := by simpa using e0
    have f0' : (x != 0) = true := by simpa using e0
    have hr : Hid (x = orI x y z) := by show _ = _; simp [orI, e0]
    go_enter Tryd.func115, Tryd.ntmps115
    go_wp2
    refine wp_loop_rounds 4 ?_
    rw [rounds_succ]
    go_wp2
    go_ret
    exact ⟨ret_i64 hr.out, rfl⟩

/-- Which of two arrows stands ahead, by its sign. -/
def cmpA (a b : Arr) : Int := orI (cmpI a.f b.f) (cmpI a.e b.e) (cmpI a.t b.t)

theorem cmpA_ahead (a b : Arr) : decide (0 ≤ cmpA a b) = !aheadB a b := by
  unfold cmpA aheadB orI cmpI
  by_cases h1 : a.f < b.f
  · simp [h1, show ¬ a.f = b.f by omega]
  · by_cases h2 : b.f < a.f
    · simp [h1, h2, show ¬ a.f = b.f by omega]
    · have e : a.f = b.f := by omega
      by_cases h3 : a.e < b.e
      · simp [e, h3, show ¬ a.e = b.e by omega]
      · by_cases h4 : b.e < a.e
        · simp [e, h3, h4, show ¬ a.e = b.e by omega]
        · have e' : a.e = b.e := by omega
          by_cases h5 : a.t < b.t
          · simp [e, e', h5]
          · by_cases h6 : b.t < a.t
            · simp [e, e', h5, h6]
            · simp [e, e', h5, h6]

end Go.Proofs.YtgfpjfiikajadaaDoor
namespace Go.Proofs.YtgfpjfiikajadaaDoor
open Go.RowKit
set_option linter.unusedVariables false

/-- An arrow's cells. -/
abbrev acells (a : Arr) : Array Value := #[.int .i64 a.f, .int .i64 a.e, .int .i64 a.t]

set_option maxRecDepth 100000 in
set_option maxHeartbeats 4000000 in
theorem compare_any (a b : Arr) (w : World) :
    Calls Tryd.prog 85 #[.agg (acells a), .agg (acells b)] w fun e w' => e = .returned (.int .i64 (cmpA a b)) ∧ Below w.heap.size w w' := by
  have k1 : Blk ((w.alloc (.cells (acells a) 61)).alloc (.cells (acells b) 61)) w.heap.size 61 (acells a) := (Blk.new w _ _).alloc _
  have k2 : Blk ((w.alloc (.cells (acells a) 61)).alloc (.cells (acells b) 61)) (w.heap.size + 1) 61 (acells b) := by
    have := Blk.new (w.alloc (.cells (acells a) 61)) 61 (acells b)
    rwa [World.size_alloc] at this
  have hB : Below w.heap.size w ((w.alloc (.cells (acells a) 61)).alloc (.cells (acells b) 61)) := ((Below.refl _ _).alloc (Nat.le_refl _) _).alloc (by simp) _
  have hsz : ((w.alloc (.cells (acells a) 61)).alloc (.cells (acells b) 61)).heap.size = w.heap.size + 2 := by simp
  have K1 := Hid.of k1
  have K2 := Hid.of k2
  have HB := Hid.of hB
  have HS := Hid.of hsz
  clear k1 k2 hB hsz
  go_enter Tryd.func85, Tryd.ntmps85
  go_wp2
  revert K1 K2 HB HS
  generalize (w.alloc (.cells (acells a) 61)).alloc (.cells (acells b) 61) = V
  intro K1 K2 HB HS
  have a0 : V.cell? ⟨w.heap.size, 0, none⟩ = some (.int .i64 a.f) := K1.out.cell 0 rfl
  have a1 : V.cell? ⟨w.heap.size, 1, none⟩ = some (.int .i64 a.e) := K1.out.cell 1 rfl
  have a2 : V.cell? ⟨w.heap.size, 2, none⟩ = some (.int .i64 a.t) := K1.out.cell 2 rfl
  have b0 : V.cell? ⟨w.heap.size + 1, 0, none⟩ = some (.int .i64 b.f) := K2.out.cell 0 rfl
  have b1 : V.cell? ⟨w.heap.size + 1, 1, none⟩ = some (.int .i64 b.e) := K2.out.cell 1 rfl
  have b2 : V.cell? ⟨w.heap.size + 1, 2, none⟩ = some (.int .i64 b.t) := K2.out.cell 2 rfl
  have hs := HS.out
  have hn1 : w.heap.size < V.heap.size := by omega
  have hn2 : w.heap.size + 1 < V.heap.size := by omega
  have n1 := World.new_ne V _ a0
  have n2 := World.new_ne V _ b0
  go_region_held3 (fun w' => w'.cell? ⟨w.heap.size, 0, none⟩ = some (.int .i64 a.f) ∧ w'.cell? ⟨w.heap.size, 1, none⟩ = some (.int .i64 a.e) ∧ w'.cell? ⟨w.heap.size, 2, none⟩ = some (.int .i64 a.t) ∧ w'.cell? ⟨w.heap.size + 1, 0, none⟩ = some (.int .i64 b.f) ∧ w'.cell? ⟨w.heap.size + 1, 1, none⟩ = some (.int .i64 b.e) ∧ w'.cell? ⟨w.heap.size + 1, 2, none⟩ = some (.int .i64 b.t)) (go_keep) (first | (go_at_call 116; refine (cmp_any _ _ _).mono ?_; rintro e w1 ⟨rfl, rfl⟩) | (go_at_call 115; refine (or_any (cmpI a.f b.f) (cmpI a.e b.e) (cmpI a.t b.t) _ _ (by go_simp) (by go_simp) (by go_simp)).mono ?_; rintro e w1 ⟨rfl, rfl⟩))
  go_wp2
  go_ret
  exact ⟨rfl, (HB.out.alloc HB.out.size _).drew⟩

end Go.Proofs.YtgfpjfiikajadaaDoor
