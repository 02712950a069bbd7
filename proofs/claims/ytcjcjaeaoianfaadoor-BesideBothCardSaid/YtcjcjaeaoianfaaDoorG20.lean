/-
  What the laws of machines share: 'great' and 'machines' walked.
  What both walks of package beside leave, plainly.
  slices.Clone, slices.BinarySearch and slices.Sort at lists of integers, as they lie in this program: the kit's layings.
  slices.Clone, slices.Sort and slices.BinarySearch at lists of integers, in our words.
  The walk of jalousieref1.Only: the numbers of a list that are (or are not) in another one.
-/
import Derived.Test.YtcjcjaeaoianfaaDoorG18
import Derived.Test.YtcjcjaeaoianfaaDoorG10
import Derived.Test.YtcjcjaeaoianfaaDoorG04
import Derived.Test.YtcjcjaeaoianfaaDoorCRefMay
import Derived.Test.YtcjcjaeaoianfaaDoorG17
import Derived.Test.YtcjcjaeaoianfaaDoorG16
import Derived.Test.YtcjcjaeaoianfaaDoorProg
import Derived.Shelf.Slices.SearchI
import Derived.Shelf.Slices.Clone
import Derived.Shelf.Slices.Empties
import Derived.Shelf.Slices.In.SortNone
import Derived.Shelf.Sort.Plain
import Derived.Test.YtcjcjaeaoianfaaDoorG05
import Derived.Test.YtcjcjaeaoianfaaDoorG08
namespace Go.Proofs.YtcjcjaeaoianfaaDoor
open Go.RowKit
set_option linter.unusedVariables false

theorem sameB_self : ∀ xs : List Int, sameB xs xs = true := by intro xs; simp [sameB]

theorem sameA_self : ∀ l : List Arr, sameA l l = true
  | [] => rfl
  | a :: r => by simp [sameA, sameA_self r]
theorem sameM_self (m : Mach) : sameM m m = true := by
  rw [sameM_go rfl rfl (sameB_self _) (sameB_self _) rfl]; exact sameA_self _
theorem mat0 (w : World) : MAt w m0 ml0 := ⟨.inl rfl, .inl rfl, .inl rfl, Nat.le_refl _, Nat.zero_le _, fun _ => rfl, Nat.le_refl _, Nat.zero_le _, fun _ => rfl, Nat.le_refl _, Nat.zero_le _, fun _ => rfl⟩
/-- A call has answered yes or no. -/
def IsBool (e : Ending) : Prop := ∃ bb, e = .returned (.bool bb)
theorem isBool (bb : Bool) : IsBool (.returned (.bool bb)) := ⟨bb, rfl⟩

set_option maxHeartbeats 1000000 in
theorem great_any (m : Mach) (l : ML) (w : World) :
    Calls Tryd.prog 27 #[mval m l] w fun e w' => IsBool e ∧ Below w.heap.size w w' := by
  have B0 : Hid (Below w.heap.size w (w.alloc (.cells (mcells m l) 25))) := (Below.refl _ _).alloc (Nat.le_refl _) _
  go_enter Tryd.func27, Tryd.ntmps27
  go_wp2
  all_goals
    go_ret
    exact ⟨isBool _, B0.out⟩

set_option maxHeartbeats 1000000 in
theorem machines_any (m n : Mach) (l k : ML) (w : World) (h : MAt w m l) (h' : MAt w n k) :
    Calls Tryd.prog 30 #[mval m l, mval n k] w fun e w' => e = .returned (.bool (sameM m n)) ∧ Below w.heap.size w w' := by
  have B0 : Hid (Below w.heap.size w ((w.alloc (.cells (mcells m l) 25)).alloc (.cells (mcells n k) 25))) := ((Below.refl _ _).alloc (Nat.le_refl _) _).alloc (by simp) _
  have H := Hid.of (h.below B0.out (Nat.le_refl _))
  have H' := Hid.of (h'.below B0.out (Nat.le_refl _))
  clear h h'
  go_enter Tryd.func30, Tryd.ntmps30
  go_wp2_with fail
  refine (refMSame_any m n l k _ H.out H'.out).mono ?_
  rintro e w1 ⟨rfl, hb⟩
  have HB := Hid.of (B0.out.trans (hb.mono B0.out.size))
  clear hb
  go_wp2
  go_ret
  exact ⟨rfl, HB.out⟩

end Go.Proofs.YtcjcjaeaoianfaaDoor
namespace Go.Proofs.YtcjcjaeaoianfaaDoor
open Go.RowKit
set_option linter.unusedVariables false

/-- What Beside answers, plainly: the machine, the list, and what is wrong. -/
def besOut (a b : Mach) (ofA ofB : List Int) : Mach × List (List Int) × Int :=
  if mayB a = false ∨ mayB b = false then (m0, [], 2)
  else if ¬ a.ev = b.ev then (m0, [], 3)
  else if rowB a.ev ofA = false ∨ rowB a.ev ofB = false then (m0, [], 2)
  else match besideS a b ofA ofB with
    | none => (m0, [], 1)
    | some s => (besideM a b s, prs s.ps, 0)

theorem besErr_out {c : Int} {w w' : World} {e : Ending} (h : BesErr c w e w') : ∃ L va vc, e = .returned (.tuple #[mval m0 L, .slice va ([] : List (List Int)).length vc, .int .i64 c]) ∧ MAt w' m0 L ∧ At2 w' va ([] : List (List Int)) ∧ Below w.heap.size w w' := by
  obtain ⟨rfl, hb⟩ := h
  exact ⟨ml0, none, 0, rfl, mat0 _, .inl rfl, hb⟩

theorem besAll_out {w w' : World} {a b : Mach} {ofA ofB : List Int} {e : Ending} (h : BesAll w a b ofA ofB e w') :
    ∃ L va vc, e = .returned (.tuple #[mval (besOut a b ofA ofB).1 L, .slice va (besOut a b ofA ofB).2.1.length vc, .int .i64 (besOut a b ofA ofB).2.2]) ∧ MAt w' (besOut a b ofA ofB).1 L ∧ At2 w' va (besOut a b ofA ofB).2.1 ∧ Below w.heap.size w w' ∧ (besOut a b ofA ofB).2.1.length ≤ maxLen := by
  have h0 : ([] : List (List Int)).length ≤ maxLen := Nat.zero_le _
  unfold BesAll at h
  unfold besOut
  split
  · rw [if_pos ‹_›] at h
    obtain ⟨L, va, vc, h1, h2, h3, h4⟩ := besErr_out h
    exact ⟨L, va, vc, h1, h2, h3, h4, h0⟩
  · rw [if_neg ‹_›] at h
    split
    · rw [if_pos ‹_›] at h
      obtain ⟨L, va, vc, h1, h2, h3, h4⟩ := besErr_out h
      exact ⟨L, va, vc, h1, h2, h3, h4, h0⟩
    · rw [if_neg ‹_›] at h
      split
      · rw [if_pos ‹_›] at h
        obtain ⟨L, va, vc, h1, h2, h3, h4⟩ := besErr_out h
        exact ⟨L, va, vc, h1, h2, h3, h4, h0⟩
      · rw [if_neg ‹_›] at h
        unfold BesGives at h
        split
        · rename_i heq
          rw [heq] at h
          obtain ⟨L, va, vc, h1, h2, h3, h4⟩ := besErr_out h
          exact ⟨L, va, vc, h1, h2, h3, h4, h0⟩
        · rename_i s heq
          rw [heq] at h
          obtain ⟨L, v, rfl, hm, hown, hb⟩ := h
          obtain ⟨va, vc, rfl, hat, hl1, hl2, -⟩ := hown.at
          exact ⟨L, va, vc, rfl, hm, hat, hb, Nat.le_trans hl1 hl2⟩

/-- Something is wrong, or it is the machine of both. -/
theorem besOut_cases (a b : Mach) (ofA ofB : List Int) : ((besOut a b ofA ofB).1 = m0 ∧ ¬ (besOut a b ofA ofB).2.2 = 0) ∨ (∃ s, besideS a b ofA ofB = some s ∧ (besOut a b ofA ofB).1 = besideM a b s ∧ (besOut a b ofA ofB).2.2 = 0 ∧ mayB a = true ∧ mayB b = true ∧ a.ev = b.ev ∧ rowB a.ev ofA = true ∧ rowB a.ev ofB = true) := by
  unfold besOut
  split
  · exact .inl ⟨rfl, by decide⟩
  · rename_i h1
    split
    · exact .inl ⟨rfl, by decide⟩
    · rename_i h2
      split
      · exact .inl ⟨rfl, by decide⟩
      · rename_i h3
        split
        · exact .inl ⟨rfl, by decide⟩
        · rename_i s hs
          refine .inr ⟨s, hs, rfl, rfl, ?_, ?_, ?_, ?_, ?_⟩
          · cases h : mayB a with
            | true => rfl
            | false => exact absurd (.inl h) h1
          · cases h : mayB b with
            | true => rfl
            | false => exact absurd (.inr h) h1
          · exact Classical.not_not.1 h2
          · cases h : rowB a.ev ofA with
            | true => rfl
            | false => exact absurd (.inl h) h3
          · cases h : rowB a.ev ofB with
            | true => rfl
            | false => exact absurd (.inr h) h3

end Go.Proofs.YtcjcjaeaoianfaaDoor
namespace Go.Proofs.YtcjcjaeaoianfaaDoor
open Go.Shelf

def Tryd.cloneA_ren : Go.Shelf.Ren := ⟨fun | 15 => 55 | n => n, fun | 22 => 22 | 3 => 3 | 4 => 4 | n => n, fun | n => n⟩
theorem Tryd.cloneA : Go.Proofs.Lays2.n15 Tryd.prog Tryd.cloneA_ren := {
  mixed := by kernel_rfl
  f15 := Tryd.func55.trans (congrArg some (by kernel_rfl))
  t3 := Tryd.underlying3
  a3 := Tryd.isAgg3
  z3 := Tryd.sizeOf3
  v3 := Tryd.zeroValue3
  t4 := Tryd.underlying4
  a4 := Tryd.isAgg4
  z4 := Tryd.sizeOf4
  v4 := Tryd.zeroValue4
  t22 := Tryd.underlying22
  a22 := Tryd.isAgg22
  z22 := Tryd.sizeOf22
  v22 := Tryd.zeroValue22
  i3 := by kernel_rfl }
def Tryd.searchA_ren : Go.Shelf.Ren := ⟨fun | 25 => 57 | 31 => 89 | 32 => 90 | 37 => 119 | n => n, fun | 22 => 22 | 3 => 3 | 4 => 4 | 40 => 115 | 0 => 0 | n => n, fun | n => n⟩
theorem Tryd.searchA : Go.Proofs.Lays2.n25 Tryd.prog Tryd.searchA_ren := {
  mixed := by kernel_rfl
  f25 := Tryd.func57.trans (congrArg some (by kernel_rfl))
  f31 := Tryd.func89.trans (congrArg some (by kernel_rfl))
  f32 := Tryd.func90.trans (congrArg some (by kernel_rfl))
  f37 := Tryd.func119.trans (congrArg some (by kernel_rfl))
  t0 := Tryd.underlying0
  a0 := Tryd.isAgg0
  z0 := Tryd.sizeOf0
  v0 := Tryd.zeroValue0
  t3 := Tryd.underlying3
  a3 := Tryd.isAgg3
  z3 := Tryd.sizeOf3
  v3 := Tryd.zeroValue3
  t4 := Tryd.underlying4
  a4 := Tryd.isAgg4
  z4 := Tryd.sizeOf4
  v4 := Tryd.zeroValue4
  t22 := Tryd.underlying22
  a22 := Tryd.isAgg22
  z22 := Tryd.sizeOf22
  v22 := Tryd.zeroValue22
  t40 := Tryd.underlying115
  a40 := Tryd.isAgg115
  z40 := Tryd.sizeOf115
  v40 := Tryd.zeroValue115 }
def Tryd.sortI_ren : Go.Shelf.Ren := ⟨fun | 189 => 56 | 125 => 88 | 257 => 87 | 128 => 117 | 129 => 118 | 294 => 109 | 295 => 110 | 296 => 111 | 297 => 112 | 298 => 113 | 299 => 114 | 216 => 89 | 300 => 115 | 301 => 116 | 328 => 123 | 329 => 124 | 330 => 125 | 331 => 126 | 332 => 127 | 215 => 119 | 343 => 136 | n => n, fun | 28 => 22 | 3 => 3 | 46 => 115 | 0 => 0 | 51 => 133 | 53 => 53 | 4 => 4 | 183 => 127 | 182 => 126 | 131 => 78 | 5 => 5 | 9 => 9 | 218 => 138 | 222 => 142 | 228 => 149 | 229 => 150 | n => n, fun | n => n⟩
theorem Tryd.sortI : Go.Proofs.Lays.n189 Tryd.prog Tryd.sortI_ren := {
  mixed := by kernel_rfl
  f125 := Tryd.func88.trans (congrArg some (by kernel_rfl))
  f128 := Tryd.func117.trans (congrArg some (by kernel_rfl))
  f129 := Tryd.func118.trans (congrArg some (by kernel_rfl))
  f189 := Tryd.func56.trans (congrArg some (by kernel_rfl))
  f215 := Tryd.func119.trans (congrArg some (by kernel_rfl))
  f216 := Tryd.func89.trans (congrArg some (by kernel_rfl))
  f257 := Tryd.func87.trans (congrArg some (by kernel_rfl))
  f294 := Tryd.func109.trans (congrArg some (by kernel_rfl))
  f295 := Tryd.func110.trans (congrArg some (by kernel_rfl))
  f296 := Tryd.func111.trans (congrArg some (by kernel_rfl))
  f297 := Tryd.func112.trans (congrArg some (by kernel_rfl))
  f298 := Tryd.func113.trans (congrArg some (by kernel_rfl))
  f299 := Tryd.func114.trans (congrArg some (by kernel_rfl))
  f300 := Tryd.func115.trans (congrArg some (by kernel_rfl))
  f301 := Tryd.func116.trans (congrArg some (by kernel_rfl))
  f328 := Tryd.func123.trans (congrArg some (by kernel_rfl))
  f329 := Tryd.func124.trans (congrArg some (by kernel_rfl))
  f330 := Tryd.func125.trans (congrArg some (by kernel_rfl))
  f331 := Tryd.func126.trans (congrArg some (by kernel_rfl))
  f332 := Tryd.func127.trans (congrArg some (by kernel_rfl))
  f343 := Tryd.func136.trans (congrArg some (by kernel_rfl))
  t0 := Tryd.underlying0
  a0 := Tryd.isAgg0
  z0 := Tryd.sizeOf0
  v0 := Tryd.zeroValue0
  t3 := Tryd.underlying3
  a3 := Tryd.isAgg3
  z3 := Tryd.sizeOf3
  v3 := Tryd.zeroValue3
  t4 := Tryd.underlying4
  a4 := Tryd.isAgg4
  z4 := Tryd.sizeOf4
  v4 := Tryd.zeroValue4
  t5 := Tryd.underlying5
  a5 := Tryd.isAgg5
  z5 := Tryd.sizeOf5
  v5 := Tryd.zeroValue5
  t9 := Tryd.underlying9
  a9 := Tryd.isAgg9
  z9 := Tryd.sizeOf9
  v9 := Tryd.zeroValue9
  t28 := Tryd.underlying22
  a28 := Tryd.isAgg22
  z28 := Tryd.sizeOf22
  v28 := Tryd.zeroValue22
  t46 := Tryd.underlying115
  a46 := Tryd.isAgg115
  z46 := Tryd.sizeOf115
  v46 := Tryd.zeroValue115
  t51 := Tryd.underlying133
  a51 := Tryd.isAgg133
  z51 := Tryd.sizeOf133
  v51 := Tryd.zeroValue133
  t53 := Tryd.underlying53
  a53 := Tryd.isAgg53
  z53 := Tryd.sizeOf53
  v53 := Tryd.zeroValue53
  t131 := Tryd.underlying78
  a131 := Tryd.isAgg78
  z131 := Tryd.sizeOf78
  v131 := Tryd.zeroValue78
  t182 := Tryd.underlying126
  a182 := Tryd.isAgg126
  z182 := Tryd.sizeOf126
  v182 := Tryd.zeroValue126
  t183 := Tryd.underlying127
  a183 := Tryd.isAgg127
  z183 := Tryd.sizeOf127
  v183 := Tryd.zeroValue127
  t218 := Tryd.underlying138
  a218 := Tryd.isAgg138
  z218 := Tryd.sizeOf138
  v218 := Tryd.zeroValue138
  t222 := Tryd.underlying142
  a222 := Tryd.isAgg142
  z222 := Tryd.sizeOf142
  v222 := Tryd.zeroValue142
  t228 := Tryd.underlying149
  a228 := Tryd.isAgg149
  z228 := Tryd.sizeOf149
  v228 := Tryd.zeroValue149
  t229 := Tryd.underlying150
  a229 := Tryd.isAgg150
  z229 := Tryd.sizeOf150
  v229 := Tryd.zeroValue150 }

end Go.Proofs.YtcjcjaeaoianfaaDoor
namespace Go.Proofs.YtcjcjaeaoianfaaDoor
open Go.RowKit Go.Shelf Go.Lib Go.Sort
set_option linter.unusedVariables false

theorem clone_any (a : Option Addr) (c : Nat) (xs : List Int) (w : World) (h : At w a xs) (hl : xs.length ≤ 17592186044416) :
    Calls Tryd.prog 55 #[.slice a xs.length c] w fun e w' => ∃ v, e = .returned v ∧ Own w' w.heap.size v xs ∧ Below w.heap.size w w' := by
  rcases h with rfl | ⟨b, off, rfl, hb, hc⟩
  · cases a with
    | none =>
      refine (Any.slices_Clone_int_nil Tryd.cloneA 0 c w).mono ?_
      rintro e w' ⟨rfl, rfl⟩
      exact ⟨_, rfl, own_nil _ _, Below.refl _ _⟩
    | some p =>
      refine (Any.slices_Clone_int_zero Tryd.cloneA p c w).mono ?_
      rintro e w' ⟨v, rfl, h1, -, h2⟩
      exact ⟨v, rfl, h1, h2⟩
  · refine (Any.slices_Clone_int Tryd.cloneA b off xs.length c xs w (Nat.le_refl _) (by omega) hc).mono ?_
    rintro e w' ⟨v, rfl, h1, -, h2⟩
    rw [List.take_of_length_le (Nat.le_refl _)] at h1
    exact ⟨v, rfl, h1, h2⟩

theorem putRowI_heap (w : World) (blk off : Nat) (F : Array Int) (j : Nat) : (putRow (Value.int .i64) w blk off F).heap[j]? = if blk = j then (w.heap[j]?).map (fun o => match o with | .cells c e fr => .cells (putCells (Value.int .i64) off F c) e fr | o => o) else w.heap[j]? := by
  unfold putRow mapBlock
  simp only [Array.getElem?_modify]
  by_cases h : blk = j
  · simp only [h, if_true]
    cases w.heap[j]? with
    | none => rfl
    | some o => cases o <;> rfl
  · simp [h]
theorem growI_heap (w : World) (os : Array Obj) (j : Nat) (h : j < w.heap.size) : (grow w os).heap[j]? = w.heap[j]? := by
  unfold grow; exact Array.getElem?_append_left h
theorem putI_take (cur : Array Value) (S : List Int) (hl : S.length ≤ cur.size) : (putCells (Value.int .i64) 0 S.toArray cur).toList.take S.length = S.map (Value.int .i64) := by
  apply List.ext_getElem?
  intro t
  by_cases ht : t < S.length
  · rw [List.getElem?_take_of_lt ht, Array.getElem?_toList]
    simp only [putCells, Array.getElem?_mapIdx]
    have hlt : t < cur.size := by omega
    rw [Array.getElem?_eq_getElem hlt, Option.map_some, if_pos ⟨Nat.zero_le _, by simpa using ht⟩]
    simp [ht]
  · rw [List.getElem?_eq_none (by simp; omega), List.getElem?_eq_none (by simp; omega)]

/-- A list of the call's own, sorted in place. -/
theorem sortI_any (W : World) (B : Nat) (v : Value) (xs : List Int) (h : Own W B v xs) (hl : xs.length ≤ 17592186044416) :
    Calls Tryd.prog 56 #[v] W fun e W' => e = .returned (.tuple #[]) ∧ ∃ S : List Int, S.length = xs.length ∧ (∀ x, x ∈ S ↔ x ∈ xs) ∧ S.Pairwise (· ≤ ·) ∧ Own W' B v S ∧ ∀ B0 w0, B0 ≤ B → Below B0 w0 W → Below B0 w0 W' := by
  have h' := h
  rcases h.2 with ⟨h0, h1⟩ | ⟨g, cap, cur, rfl, hg, hh, hnc, hcm, hcs, ht⟩
  · subst h0
    have hx : xs = [] := List.eq_nil_of_length_eq_zero h1
    subst hx
    refine (Any.slices_Sort_int_none Tryd.sortI none 0 W).mono ?_
    rintro e W' ⟨rfl, rfl⟩
    exact ⟨rfl, [], rfl, fun x => Iff.rfl, List.Pairwise.nil, h', fun _ _ _ h => h⟩
  · by_cases h0 : xs.length = 0
    · have hx : xs = [] := List.eq_nil_of_length_eq_zero h0
      subst hx
      refine (Any.slices_Sort_int_none Tryd.sortI _ cap W).mono ?_
      rintro e W' ⟨rfl, rfl⟩
      exact ⟨rfl, [], rfl, fun x => Iff.rfl, List.Pairwise.nil, h', fun _ _ _ h => h⟩
    · have hbk : g < W.heap.size := (Array.getElem?_eq_some_iff.1 hh).1
      have hH : Holds (Value.int .i64) W g 0 xs.toArray := fun j hj => by
        have hj' : j < xs.length := by simpa using hj
        have e1 : (cur.toList.take (xs.length * 1))[j]? = (xs.map (Value.int .i64))[j]? := by rw [ht]
        rw [List.getElem?_take_of_lt (by omega), Array.getElem?_toList, List.getElem?_map, List.getElem?_eq_getElem hj'] at e1
        refine ⟨?_, ?_⟩
        · simp [World.cell?, hh, e1, hj']
        · simp [World.frozen?, hh]
      refine (Any.slices_Sort_int Tryd.sortI g 0 cap xs W hH hbk (by omega)).mono ?_
      rintro e W' ⟨rfl, n, os, rfl⟩
      have hSl : (xs.mergeSort fun x y => decide (x ≤ y)).length = xs.length := List.length_mergeSort _
      refine ⟨rfl, xs.mergeSort fun x y => decide (x ≤ y), hSl, fun x => List.mem_mergeSort, ?_, ?_, ?_⟩
      · have := List.pairwise_mergeSort (le := fun x y : Int => decide (x ≤ y)) (fun a b c h1 h2 => by simp at *; omega) (fun a b => by simp; omega) xs
        exact this.imp (fun h => by simpa using h)
      · unfold Own
        rw [hSl]
        refine ⟨by simp [hSl], .inr ⟨g, cap, putCells (Value.int .i64) 0 (xs.mergeSort fun x y => decide (x ≤ y)).toArray cur, rfl, hg, ?_, hnc, hcm, by simp [putCells, hcs], ?_⟩⟩
        · rw [growI_heap _ _ _ (by rw [size_putRow]; exact hbk), putRowI_heap, if_pos rfl]
          show Option.map _ (W.heap[g]?) = _
          rw [hh]; rfl
        · rw [Nat.mul_one, ← hSl]
          exact putI_take cur _ (by omega)
      · intro B0 w0 hB hb
        refine ⟨hb.os, hb.tape, hb.output, ?_, fun k hk => ?_⟩
        · refine Nat.le_trans hb.size ?_
          unfold grow
          rw [Array.size_append, size_putRow]; exact Nat.le_add_right _ _
        · have hkg : g ≠ k := by omega
          rw [growI_heap _ _ _ (by rw [size_putRow]; show k < W.heap.size; omega), putRowI_heap, if_neg hkg]
          exact hb.block k hk

theorem searchI_any (a : Option Addr) (c : Nat) (xs : List Int) (x : Int) (w : World) (h : At w a xs) (hl : xs.length ≤ 17592186044416) (hs : xs.Pairwise (· ≤ ·)) :
    Calls Tryd.prog 57 #[.slice a xs.length c, .int .i64 x] w fun e w' => (∃ k : Int, e = .returned (.tuple #[.int .i64 k, .bool (hasB xs x)])) ∧ ∃ q, w' = w.drewN q := by
  rcases h with rfl | ⟨b, off, rfl, hb, hc⟩
  · refine (Any.slices_BinarySearch_int_empty Tryd.searchA a c x w).mono ?_
    rintro e w' ⟨rfl, rfl⟩
    exact ⟨⟨0, rfl⟩, 0, rfl⟩
  · refine (Any.slices_BinarySearch_int Tryd.searchA b off xs.length c xs x w (Nat.le_refl _) (by omega) hc (by rw [List.take_of_length_le (Nat.le_refl _)]; exact hs)).mono ?_
    rintro e w' ⟨rfl, q, rfl⟩
    rw [List.take_of_length_le (Nat.le_refl _)]
    exact ⟨⟨_, rfl⟩, q, rfl⟩

end Go.Proofs.YtcjcjaeaoianfaaDoor
namespace Go.Proofs.YtcjcjaeaoianfaaDoor
open Go.RowKit
set_option linter.unusedVariables false

/-- Of the first k numbers those that are (b = true) or are not in ys. -/
def onlyTo (xs ys : List Int) (b : Bool) (k : Nat) : List Int := (xs.take k).filter (fun n => hasB ys n == b)

theorem onlyTo_len (xs ys : List Int) (b : Bool) (k : Nat) : (onlyTo xs ys b k).length ≤ k := Nat.le_trans (List.length_filter_le _ _) (List.length_take_le _ _)
theorem onlyTo_all {xs : List Int} (ys : List Int) (b : Bool) {k : Nat} (h : ¬ k < xs.length) : onlyTo xs ys b k = xs.filter (fun n => hasB ys n == b) := by
  rw [onlyTo, List.take_of_length_le (by omega)]
theorem onlyTo_hit {xs ys : List Int} {b : Bool} {k : Nat} {x : Int} (h : k < xs.length) (hx : Hid (x = xs[k]?.getD 0)) (hb : hasB ys x = b) : onlyTo xs ys b (k + 1) = onlyTo xs ys b k ++ [x] := by
  have hx := hx.out
  rw [List.getElem?_eq_getElem h] at hx
  simp only [Option.getD_some] at hx
  rw [onlyTo, onlyTo, List.take_add_one, List.getElem?_eq_getElem h, List.filter_append]
  simp [← hx, hb]
theorem onlyTo_miss {xs ys : List Int} {b : Bool} {k : Nat} {x : Int} (h : k < xs.length) (hx : Hid (x = xs[k]?.getD 0)) (hb : ¬ hasB ys x = b) : onlyTo xs ys b (k + 1) = onlyTo xs ys b k := by
  have hx := hx.out
  rw [List.getElem?_eq_getElem h] at hx
  simp only [Option.getD_some] at hx
  rw [onlyTo, onlyTo, List.take_add_one, List.getElem?_eq_getElem h, List.filter_append]
  simp [← hx, hb]

set_option maxHeartbeats 1600000 in
set_option maxRecDepth 100000 in
theorem only_some (bx ox cx cy : Nat) (ay : Option Addr) (xs ys : List Int) (bb : Bool) (w : World) (hl : xs.length ≤ 17592186044416) (hbx : bx < w.heap.size) (hc : Cells w bx ox xs) (ht : At w ay ys) (hm : ys.length ≤ maxLen) :
    Calls Tryd.prog 43 #[.slice (some ⟨bx, ox, none⟩) xs.length cx, .slice ay ys.length cy, .bool bb] w fun e w' => ∃ v, e = .returned v ∧ Own w' w.heap.size v (xs.filter (fun n => hasB ys n == bb)) ∧ Below w.heap.size w w' := by
  obtain ⟨i0, hi, hz0, hz1, hz2⟩ := info_parts Tryd.infoInt
  go_enter Tryd.func43, Tryd.ntmps43
  go_wp2
  go_loopw [7, 8] (fun v i wr => ∃ k : Nat, k ≤ xs.length ∧ i = .int .i64 k ∧ Own wr w.heap.size v (onlyTo xs ys bb k) ∧ Below w.heap.size w wr) (fun _ i _ => xs.length - (intOf i).toNat)
  case atStart => exact ⟨0, Nat.zero_le _, rfl, own_nil _ _, Below.refl _ _⟩
  case round =>
    obtain ⟨k, hk, rfl, hown, hbel⟩ := hrel
    by_cases hlt : k < xs.length
    · obtain ⟨x, HX, hcx0⟩ := hc.at hlt
      have hcx : wr.cell? ⟨bx, ox + k, none⟩ = some (.int .i64 x) := (hbel.cell (p := ⟨bx, ox + k, none⟩) hbx).trans hcx0
      clear hcx0
      have htr : At wr ay ys := ht.below hbel (Nat.le_refl _)
      have hsz := hbel.size
      have hll := onlyTo_len xs ys bb k
      go_wp2_with fail
      refine (refHas_any ay cy ys x _ htr hm).mono ?_
      rintro e w' ⟨rfl, rfl⟩
      by_cases hh : hasB ys x = bb
      · have HH : Hid (hasB ys x = bb) := hh
        have d : (hasB ys x == bb) = true := by simp [hh]
        clear hh
        go_wp2_with (at_builtin; refine wpList_append_own _ rfl _ _ 22 rfl w.heap.size 3 i0 (.int .i64 0) 1 8 Tryd.underlying22 hi hz0 hz1 hz2 rfl (by decide) _ _ _ rfl (World.ownsRow.alloc hown _) ⟨w'.heap.size, 0, none⟩ 1 1 [.int .i64 x] rfl rfl (cell_one_new _ _ _) (by intro u hu; simp at hu; subst hu; rfl) (by unfold maxLen; omega) (by omega) (by simp; omega) ?_)
        intro v' w1 hown' hgrow _
        obtain ⟨r1, r2, -⟩ := own_snoc hown hbel hsz hown' hgrow
        rw [← onlyTo_hit hlt HX HH.out] at r1
        clear hown' hgrow hown hcx htr
        go_wp2
        go_roundw
        case rel => exact ⟨k + 1, by omega, by go_num, r1, r2⟩
        case measure => simp [intOf]; omega
      · have d : (hasB ys x == bb) = false := by simp [hh]
        have r1 := hown
        rw [← onlyTo_miss hlt HX hh] at r1
        go_wp2
        go_roundw
        case rel => exact ⟨k + 1, by omega, by go_num, r1, hbel⟩
        case measure => simp [intOf]; omega
    · rw [onlyTo_all ys bb hlt] at hown
      go_wp2
      go_ret
      exact ⟨_, rfl, hown, hbel⟩

set_option maxHeartbeats 400000 in
theorem only_nil (a ay : Option Addr) (cx cy : Nat) (ys : List Int) (bb : Bool) (w : World) :
    Calls Tryd.prog 43 #[.slice a 0 cx, .slice ay ys.length cy, .bool bb] w fun e w' => e = .returned (.slice none 0 0) ∧ w' = w := by
  go_enter Tryd.func43, Tryd.ntmps43
  go_wp2
  refine wp_loop_rounds 1 ?_
  rw [rounds_succ]
  go_wp2
  go_ret
  exact ⟨rfl, rfl⟩

theorem only_any (a ay : Option Addr) (cx cy : Nat) (xs ys : List Int) (bb : Bool) (w : World) (hs : At w a xs) (hl : xs.length ≤ 17592186044416) (ht : At w ay ys) (hm : ys.length ≤ maxLen) :
    Calls Tryd.prog 43 #[.slice a xs.length cx, .slice ay ys.length cy, .bool bb] w fun e w' => Gives w (xs.filter (fun n => hasB ys n == bb)) e w' := by
  rcases hs with rfl | ⟨b, off, rfl, hb, hc⟩
  · refine (only_nil a ay cx cy ys bb w).mono ?_
    rintro e w' ⟨rfl, rfl⟩
    exact gives_of_own (B := w'.heap.size) (own_nil _ _) (Below.refl _ _)
  · refine (only_some b off cx cy ay xs ys bb w hl hb hc ht hm).mono ?_
    rintro e w' ⟨v, rfl, h1, h2⟩
    exact gives_of_own h1 h2

end Go.Proofs.YtcjcjaeaoianfaaDoor
