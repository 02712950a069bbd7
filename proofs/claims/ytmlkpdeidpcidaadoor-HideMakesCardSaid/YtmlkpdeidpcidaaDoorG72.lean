/-
  slices.BinarySearch and slices.Sort at lists of integers, as they lie in this program: the kit's layings.
  A row of integers as the kit's words for sorting and reversing put it.
  slices.Clone, slices.Sort and slices.BinarySearch at lists of integers, in our words.
  The walk of hide.Seen: what is seen of a word.
  The walk of jalousieref5.Hide where what comes in is wrong.
  The walk of jalousieref5.Hide where nothing is wrong with what comes in.
  The walk of the law HideMakes.
-/
import Derived.Test.YtmlkpdeidpcidaaDoorProg
import Derived.Shelf.Slices.SearchI
import Derived.Shelf.Slices.Empties
import Derived.Shelf.Slices.In.SortNone
import Derived.Shelf.Sort.Plain
import Derived.Shelf.Slices.Reverse
import Derived.Test.YtmlkpdeidpcidaaDoorG04
import Derived.Test.YtmlkpdeidpcidaaDoorG14
import Derived.Test.YtmlkpdeidpcidaaDoorG35
import Derived.Test.YtmlkpdeidpcidaaDoorG03
import Derived.Test.YtmlkpdeidpcidaaDoorG20
import Derived.Test.YtmlkpdeidpcidaaDoorG16
import Derived.Test.YtmlkpdeidpcidaaDoorG31
import Derived.Test.YtmlkpdeidpcidaaDoorCRefMay
import Derived.Test.YtmlkpdeidpcidaaDoorG21
import Derived.Deep.RegionHeld3
import Derived.Deep.RegionLaw
import Derived.Test.YtmlkpdeidpcidaaDoorG28
import Derived.Test.YtmlkpdeidpcidaaDoorCPHide
import Derived.Test.YtmlkpdeidpcidaaDoorCPAccepts
import Derived.Test.YtmlkpdeidpcidaaDoorCPAfter
import Derived.Test.YtmlkpdeidpcidaaDoorCRows2
namespace Go.Proofs.YtmlkpdeidpcidaaDoor
open Go.Shelf

def Tryd.searchA_ren : Go.Shelf.Ren := ⟨fun | 25 => 68 | 31 => 126 | 32 => 127 | 37 => 177 | n => n, fun | 22 => 22 | 3 => 3 | 4 => 4 | 40 => 187 | 0 => 0 | n => n, fun | n => n⟩
theorem Tryd.searchA : Go.Proofs.Lays2.n25 Tryd.prog Tryd.searchA_ren := {
  mixed := by kernel_rfl
  f25 := Tryd.func68.trans (congrArg some (by kernel_rfl))
  f31 := Tryd.func126.trans (congrArg some (by kernel_rfl))
  f32 := Tryd.func127.trans (congrArg some (by kernel_rfl))
  f37 := Tryd.func177.trans (congrArg some (by kernel_rfl))
  t0 := Tryd.underlying0
  a0 := Tryd.isAgg0
  z0 := Tryd.sizeOf0
  v0 := Tryd.zeroValue0
  t3 := Tryd.underlying3
  a3 := Tryd.isAgg3
  z3 := Tryd.sizeOf3
  v3 := Tryd.zeroValue3
  t4 := Tryd.underlying4
  a4 := Tryd.isAgg4
  z4 := Tryd.sizeOf4
  v4 := Tryd.zeroValue4
  t22 := Tryd.underlying22
  a22 := Tryd.isAgg22
  z22 := Tryd.sizeOf22
  v22 := Tryd.zeroValue22
  t40 := Tryd.underlying187
  a40 := Tryd.isAgg187
  z40 := Tryd.sizeOf187
  v40 := Tryd.zeroValue187 }
def Tryd.sortI_ren : Go.Shelf.Ren := ⟨fun | 189 => 67 | 125 => 125 | 257 => 124 | 128 => 175 | 129 => 176 | 294 => 167 | 295 => 168 | 296 => 169 | 297 => 170 | 298 => 171 | 299 => 172 | 216 => 126 | 300 => 173 | 301 => 174 | 328 => 190 | 329 => 191 | 330 => 192 | 331 => 193 | 332 => 194 | 215 => 177 | 343 => 198 | n => n, fun | 28 => 22 | 3 => 3 | 46 => 187 | 0 => 0 | 51 => 236 | 53 => 83 | 4 => 4 | 183 => 230 | 182 => 229 | 131 => 98 | 5 => 5 | 9 => 9 | 218 => 243 | 222 => 247 | 228 => 249 | 229 => 250 | n => n, fun | n => n⟩
theorem Tryd.sortI : Go.Proofs.Lays.n189 Tryd.prog Tryd.sortI_ren := {
  mixed := by kernel_rfl
  f125 := Tryd.func125.trans (congrArg some (by kernel_rfl))
  f128 := Tryd.func175.trans (congrArg some (by kernel_rfl))
  f129 := Tryd.func176.trans (congrArg some (by kernel_rfl))
  f189 := Tryd.func67.trans (congrArg some (by kernel_rfl))
  f215 := Tryd.func177.trans (congrArg some (by kernel_rfl))
  f216 := Tryd.func126.trans (congrArg some (by kernel_rfl))
  f257 := Tryd.func124.trans (congrArg some (by kernel_rfl))
  f294 := Tryd.func167.trans (congrArg some (by kernel_rfl))
  f295 := Tryd.func168.trans (congrArg some (by kernel_rfl))
  f296 := Tryd.func169.trans (congrArg some (by kernel_rfl))
  f297 := Tryd.func170.trans (congrArg some (by kernel_rfl))
  f298 := Tryd.func171.trans (congrArg some (by kernel_rfl))
  f299 := Tryd.func172.trans (congrArg some (by kernel_rfl))
  f300 := Tryd.func173.trans (congrArg some (by kernel_rfl))
  f301 := Tryd.func174.trans (congrArg some (by kernel_rfl))
  f328 := Tryd.func190.trans (congrArg some (by kernel_rfl))
  f329 := Tryd.func191.trans (congrArg some (by kernel_rfl))
  f330 := Tryd.func192.trans (congrArg some (by kernel_rfl))
  f331 := Tryd.func193.trans (congrArg some (by kernel_rfl))
  f332 := Tryd.func194.trans (congrArg some (by kernel_rfl))
  f343 := Tryd.func198.trans (congrArg some (by kernel_rfl))
  t0 := Tryd.underlying0
  a0 := Tryd.isAgg0
  z0 := Tryd.sizeOf0
  v0 := Tryd.zeroValue0
  t3 := Tryd.underlying3
  a3 := Tryd.isAgg3
  z3 := Tryd.sizeOf3
  v3 := Tryd.zeroValue3
  t4 := Tryd.underlying4
  a4 := Tryd.isAgg4
  z4 := Tryd.sizeOf4
  v4 := Tryd.zeroValue4
  t5 := Tryd.underlying5
  a5 := Tryd.isAgg5
  z5 := Tryd.sizeOf5
  v5 := Tryd.zeroValue5
  t9 := Tryd.underlying9
  a9 := Tryd.isAgg9
  z9 := Tryd.sizeOf9
  v9 := Tryd.zeroValue9
  t28 := Tryd.underlying22
  a28 := Tryd.isAgg22
  z28 := Tryd.sizeOf22
  v28 := Tryd.zeroValue22
  t46 := Tryd.underlying187
  a46 := Tryd.isAgg187
  z46 := Tryd.sizeOf187
  v46 := Tryd.zeroValue187
  t51 := Tryd.underlying236
  a51 := Tryd.isAgg236
  z51 := Tryd.sizeOf236
  v51 := Tryd.zeroValue236
  t53 := Tryd.underlying83
  a53 := Tryd.isAgg83
  z53 := Tryd.sizeOf83
  v53 := Tryd.zeroValue83
  t131 := Tryd.underlying98
  a131 := Tryd.isAgg98
  z131 := Tryd.sizeOf98
  v131 := Tryd.zeroValue98
  t182 := Tryd.underlying229
  a182 := Tryd.isAgg229
  z182 := Tryd.sizeOf229
  v182 := Tryd.zeroValue229
  t183 := Tryd.underlying230
  a183 := Tryd.isAgg230
  z183 := Tryd.sizeOf230
  v183 := Tryd.zeroValue230
  t218 := Tryd.underlying243
  a218 := Tryd.isAgg243
  z218 := Tryd.sizeOf243
  v218 := Tryd.zeroValue243
  t222 := Tryd.underlying247
  a222 := Tryd.isAgg247
  z222 := Tryd.sizeOf247
  v222 := Tryd.zeroValue247
  t228 := Tryd.underlying249
  a228 := Tryd.isAgg249
  z228 := Tryd.sizeOf249
  v228 := Tryd.zeroValue249
  t229 := Tryd.underlying250
  a229 := Tryd.isAgg250
  z229 := Tryd.sizeOf250
  v229 := Tryd.zeroValue250 }

end Go.Proofs.YtmlkpdeidpcidaaDoor
namespace Go.Proofs.YtmlkpdeidpcidaaDoor
open Go.RowKit Go.Shelf Go.Lib Go.Sort
set_option linter.unusedVariables false

theorem putRowI_heap (w : World) (blk off : Nat) (F : Array Int) (j : Nat) : (putRow (Value.int .i64) w blk off F).heap[j]? = if blk = j then (w.heap[j]?).map (fun o => match o with | .cells c e fr => .cells (putCells (Value.int .i64) off F c) e fr | o => o) else w.heap[j]? := by
  unfold putRow mapBlock
  simp only [Array.getElem?_modify]
  by_cases h : blk = j
  · simp only [h, if_true]
    cases w.heap[j]? with
    | none => rfl
    | some o => cases o <;> rfl
  · simp [h]
theorem putI_take (cur : Array Value) (S : List Int) (hl : S.length ≤ cur.size) : (putCells (Value.int .i64) 0 S.toArray cur).toList.take S.length = S.map (Value.int .i64) := by
  apply List.ext_getElem?
  intro t
  by_cases ht : t < S.length
  · rw [List.getElem?_take_of_lt ht, Array.getElem?_toList]
    simp only [putCells, Array.getElem?_mapIdx]
    have hlt : t < cur.size := by omega
    rw [Array.getElem?_eq_getElem hlt, Option.map_some, if_pos ⟨Nat.zero_le _, by simpa using ht⟩]
    simp [ht]
  · rw [List.getElem?_eq_none (by simp; omega), List.getElem?_eq_none (by simp; omega)]

end Go.Proofs.YtmlkpdeidpcidaaDoor
namespace Go.Proofs.YtmlkpdeidpcidaaDoor
open Go.RowKit Go.Shelf Go.Lib Go.Sort
set_option linter.unusedVariables false

theorem growI_heap (w : World) (os : Array Obj) (j : Nat) (h : j < w.heap.size) : (grow w os).heap[j]? = w.heap[j]? := by
  unfold grow; exact Array.getElem?_append_left h

/-- A list of the call's own, sorted in place. -/
theorem sortI_any (W : World) (B : Nat) (v : Value) (xs : List Int) (h : Own W B v xs) (hl : xs.length ≤ 17592186044416) :
    Calls Tryd.prog 67 #[v] W fun e W' => e = .returned (.tuple #[]) ∧ ∃ S : List Int, S.length = xs.length ∧ (∀ x, x ∈ S ↔ x ∈ xs) ∧ S.Pairwise (· ≤ ·) ∧ Own W' B v S ∧ ∀ B0 w0, B0 ≤ B → Below B0 w0 W → Below B0 w0 W' := by
  have h' := h
  rcases h.2 with ⟨h0, h1⟩ | ⟨g, cap, cur, rfl, hg, hh, hnc, hcm, hcs, ht⟩
  · subst h0
    have hx : xs = [] := List.eq_nil_of_length_eq_zero h1
    subst hx
    refine (Any.slices_Sort_int_none Tryd.sortI none 0 W).mono ?_
    rintro e W' ⟨rfl, rfl⟩
    exact ⟨rfl, [], rfl, fun x => Iff.rfl, List.Pairwise.nil, h', fun _ _ _ h => h⟩
  · by_cases h0 : xs.length = 0
    · have hx : xs = [] := List.eq_nil_of_length_eq_zero h0
      subst hx
      refine (Any.slices_Sort_int_none Tryd.sortI _ cap W).mono ?_
      rintro e W' ⟨rfl, rfl⟩
      exact ⟨rfl, [], rfl, fun x => Iff.rfl, List.Pairwise.nil, h', fun _ _ _ h => h⟩
    · have hbk : g < W.heap.size := (Array.getElem?_eq_some_iff.1 hh).1
      have hH : Holds (Value.int .i64) W g 0 xs.toArray := fun j hj => by
        have hj' : j < xs.length := by simpa using hj
        have e1 : (cur.toList.take (xs.length * 1))[j]? = (xs.map (Value.int .i64))[j]? := by rw [ht]
        rw [List.getElem?_take_of_lt (by omega), Array.getElem?_toList, List.getElem?_map, List.getElem?_eq_getElem hj'] at e1
        refine ⟨?_, ?_⟩
        · simp [World.cell?, hh, e1, hj']
        · simp [World.frozen?, hh]
      refine (Any.slices_Sort_int Tryd.sortI g 0 cap xs W hH hbk (by omega)).mono ?_
      rintro e W' ⟨rfl, n, os, rfl⟩
      have hSl : (xs.mergeSort fun x y => decide (x ≤ y)).length = xs.length := List.length_mergeSort _
      refine ⟨rfl, xs.mergeSort fun x y => decide (x ≤ y), hSl, fun x => List.mem_mergeSort, ?_, ?_, ?_⟩
      · have := List.pairwise_mergeSort (le := fun x y : Int => decide (x ≤ y)) (fun a b c h1 h2 => by simp at *; omega) (fun a b => by simp; omega) xs
        exact this.imp (fun h => by simpa using h)
      · unfold Own
        rw [hSl]
        refine ⟨by simp [hSl], .inr ⟨g, cap, putCells (Value.int .i64) 0 (xs.mergeSort fun x y => decide (x ≤ y)).toArray cur, rfl, hg, ?_, hnc, hcm, by simp [putCells, hcs], ?_⟩⟩
        · rw [growI_heap _ _ _ (by rw [size_putRow]; exact hbk), putRowI_heap, if_pos rfl]
          show Option.map _ (W.heap[g]?) = _
          rw [hh]; rfl
        · rw [Nat.mul_one, ← hSl]
          exact putI_take cur _ (by omega)
      · intro B0 w0 hB hb
        refine ⟨hb.os, hb.tape, hb.output, ?_, fun k hk => ?_⟩
        · refine Nat.le_trans hb.size ?_
          unfold grow
          rw [Array.size_append, size_putRow]; exact Nat.le_add_right _ _
        · have hkg : g ≠ k := by omega
          rw [growI_heap _ _ _ (by rw [size_putRow]; show k < W.heap.size; omega), putRowI_heap, if_neg hkg]
          exact hb.block k hk

theorem searchI_any (a : Option Addr) (c : Nat) (xs : List Int) (x : Int) (w : World) (h : At w a xs) (hl : xs.length ≤ 17592186044416) (hs : xs.Pairwise (· ≤ ·)) :
    Calls Tryd.prog 68 #[.slice a xs.length c, .int .i64 x] w fun e w' => (∃ k : Int, e = .returned (.tuple #[.int .i64 k, .bool (hasB xs x)])) ∧ ∃ q, w' = w.drewN q := by
  rcases h with rfl | ⟨b, off, rfl, hb, hc⟩
  · refine (Any.slices_BinarySearch_int_empty Tryd.searchA a c x w).mono ?_
    rintro e w' ⟨rfl, rfl⟩
    exact ⟨⟨0, rfl⟩, 0, rfl⟩
  · refine (Any.slices_BinarySearch_int Tryd.searchA b off xs.length c xs x w (Nat.le_refl _) (by omega) hc (by rw [List.take_of_length_le (Nat.le_refl _)]; exact hs)).mono ?_
    rintro e w' ⟨rfl, q, rfl⟩
    rw [List.take_of_length_le (Nat.le_refl _)]
    exact ⟨⟨_, rfl⟩, q, rfl⟩

end Go.Proofs.YtmlkpdeidpcidaaDoor
namespace Go.Proofs.YtmlkpdeidpcidaaDoor
open Go.RowKit
set_option linter.unusedVariables false

theorem hasB_perm {S xs : List Int} (h : ∀ x, x ∈ S ↔ x ∈ xs) (x : Int) : hasB S x = hasB xs x := by
  have := h x
  cases h1 : hasB S x <;> cases h2 : hasB xs x <;> simp_all [hasB]

set_option maxHeartbeats 2000000 in
set_option maxRecDepth 100000 in
theorem pSeen_some (bx ox cx cy : Nat) (ay : Option Addr) (xs ys : List Int) (w : World) (hl : xs.length ≤ 17592186044416) (hbx : bx < w.heap.size) (hc : Cells w bx ox xs) (ht : Hid (At w ay ys)) (hm : Hid (ys.length ≤ 17592186044416)) :
    Calls Tryd.prog 22 #[.slice (some ⟨bx, ox, none⟩) xs.length cx, .slice ay ys.length cy] w fun e w' => ∃ v, e = .returned v ∧ Own w' w.heap.size v (seenL ys xs) ∧ Below w.heap.size w w' := by
  obtain ⟨i0, hi, hz0, hz1, hz2⟩ := info_parts Tryd.infoInt
  go_enter Tryd.func22, Tryd.ntmps22
  go_wp2_with fail
  refine (clone_any ay cy ys _ ht.out hm.out).mono ?_
  rintro e w1 ⟨sv, rfl, hs1, hb1⟩
  have S1 := Hid.of hs1
  have B1 := Hid.of hb1
  clear hs1 hb1
  go_wp2_with fail
  refine (sortI_any _ _ sv ys S1.out hm.out).mono ?_
  rintro e W0 ⟨rfl, S, hSl, hSm, hSs, hSo, hb2⟩
  have B2 : Hid (Below w.heap.size w W0) := hb2 _ _ (Nat.le_refl _) B1.out
  have HM : Hid (∀ x, hasB S x = hasB ys x) := fun x => hasB_perm hSm x
  have HS := Hid.of hSs
  have HL : Hid (S.length ≤ 17592186044416) := by show _ ≤ _; rw [hSl]; exact hm.out
  obtain ⟨sa, sc, rfl, hat, -⟩ := hSo.at
  have HA := Hid.of hat
  clear hSl hSm hSs hSo hb2 hat S1 B1
  go_wp2
  go_loopw [6, 17] (fun v i wr => ∃ k : Nat, k ≤ xs.length ∧ i = .int .i64 k ∧ Own wr W0.heap.size v (onlyTo xs ys true k) ∧ Below W0.heap.size W0 wr) (fun _ i _ => xs.length - (intOf i).toNat)
  case atStart => exact ⟨0, Nat.zero_le _, rfl, own_nil _ _, Below.refl _ _⟩
  case round =>
    obtain ⟨k, hk, rfl, hown, hbel⟩ := hrel
    by_cases hlt : k < xs.length
    · obtain ⟨x, HX, hcx0⟩ := hc.at hlt
      have hcx1 : W0.cell? ⟨bx, ox + k, none⟩ = some (.int .i64 x) := (B2.out.cell (p := ⟨bx, ox + k, none⟩) hbx).trans hcx0
      have hcx : wr.cell? ⟨bx, ox + k, none⟩ = some (.int .i64 x) := (hbel.cell (p := ⟨bx, ox + k, none⟩) (Nat.lt_of_lt_of_le hbx B2.out.size)).trans hcx1
      clear hcx0 hcx1
      have HT : Hid (At wr sa S) := HA.out.below hbel (Nat.le_refl _)
      have hsz := hbel.size
      have hll := onlyTo_len xs ys true k
      go_wp2_with fail
      refine (searchI_any sa sc S x _ HT.out HL.out HS.out).mono ?_
      rintro e w' ⟨⟨n0, rfl⟩, q, rfl⟩
      rw [HM.out x]
      have hownq : Own (wr.drewN q) W0.heap.size u6 (onlyTo xs ys true k) := hown
      have hbelq : Below W0.heap.size W0 (wr.drewN q) := below_drewN hbel q
      have hszq : W0.heap.size ≤ (wr.drewN q).heap.size := hsz
      by_cases hh : hasB ys x = true
      · have HH : Hid (hasB ys x = true) := hh
        clear hown hbel hsz
        rw [hh]
        clear hh
        generalize wr.drewN q = wq at *
        go_wp2_with (at_builtin; refine wpList_append_own _ rfl _ _ 22 rfl W0.heap.size 3 i0 (.int .i64 0) 1 8 Tryd.underlying22 hi hz0 hz1 hz2 rfl (by decide) _ _ _ rfl (World.ownsRow.alloc hownq _) ⟨wq.heap.size, 0, none⟩ 1 1 [.int .i64 x] rfl rfl (cell_one_new _ _ _) (by intro u hu; simp at hu; subst hu; rfl) (by unfold maxLen; omega) (by omega) (by simp; omega) ?_)
        intro v' w1 hown' hgrow _
        obtain ⟨r1, r2, -⟩ := own_snoc hownq hbelq hszq hown' hgrow
        rw [← onlyTo_hit hlt HX HH.out] at r1
        clear hown' hgrow hownq hcx
        go_wp2
        go_roundw
        case rel => exact ⟨k + 1, by omega, by go_num, r1, r2⟩
        case measure => simp [intOf]; omega
      · have hh : hasB ys x = false := by simpa using hh
        have r1 := hownq
        rw [← onlyTo_miss (b := true) hlt HX (by rw [hh]; simp)] at r1
        rw [hh]
        clear hown hbel hsz hownq hh
        generalize wr.drewN q = wq at *
        go_wp2
        go_roundw
        case rel => exact ⟨k + 1, by omega, by go_num, r1, hbelq⟩
        case measure => simp [intOf]; omega
    · rw [onlyTo_all ys true hlt] at hown
      go_wp2
      go_ret
      exact ⟨_, rfl, Own.low hown B2.out.size, B2.out.trans (hbel.mono B2.out.size)⟩

set_option maxHeartbeats 1000000 in
theorem pSeen_nil (ax : Option Addr) (cx cy : Nat) (ay : Option Addr) (ys : List Int) (w : World) (ht : Hid (At w ay ys)) (hm : Hid (ys.length ≤ 17592186044416)) :
    Calls Tryd.prog 22 #[.slice ax 0 cx, .slice ay ys.length cy] w fun e w' => e = .returned (.slice none 0 0) ∧ Below w.heap.size w w' := by
  go_enter Tryd.func22, Tryd.ntmps22
  go_wp2_with fail
  refine (clone_any ay cy ys _ ht.out hm.out).mono ?_
  rintro e w1 ⟨sv, rfl, hs1, hb1⟩
  have S1 := Hid.of hs1
  have B1 := Hid.of hb1
  clear hs1 hb1
  go_wp2_with fail
  refine (sortI_any _ _ sv ys S1.out hm.out).mono ?_
  rintro e W0 ⟨rfl, S, hSl, hSm, hSs, hSo, hb2⟩
  have B2 : Hid (Below w.heap.size w W0) := hb2 _ _ (Nat.le_refl _) B1.out
  clear hSl hSm hSs hSo hb2 S1 B1
  go_wp2
  refine wp_loop_rounds 1 ?_
  rw [rounds_succ]
  go_wp2
  go_ret
  exact ⟨rfl, B2.out⟩

theorem pSeen_any (ax ay : Option Addr) (cx cy : Nat) (xs ys : List Int) (w : World) (hs : At w ax xs) (hl : xs.length ≤ 17592186044416) (ht : At w ay ys) (hm : ys.length ≤ 17592186044416) :
    Calls Tryd.prog 22 #[.slice ax xs.length cx, .slice ay ys.length cy] w fun e w' => ∃ v, e = .returned v ∧ Own w' w.heap.size v (seenL ys xs) ∧ Below w.heap.size w w' := by
  rcases hs with rfl | ⟨b, off, rfl, hb, hc⟩
  · refine (pSeen_nil ax cx cy ay ys w (Hid.of ht) (Hid.of hm)).mono ?_
    rintro e w' ⟨rfl, hb⟩
    exact ⟨_, rfl, own_nil _ _, hb⟩
  · exact pSeen_some b off cx cy ay xs ys w hl hb hc (Hid.of ht) (Hid.of hm)

end Go.Proofs.YtmlkpdeidpcidaaDoor
namespace Go.Proofs.YtmlkpdeidpcidaaDoor
open Go.RowKit
set_option linter.unusedVariables false

set_option maxRecDepth 100000 in
set_option maxHeartbeats 4000000 in
theorem rhide_err (m : Mach) (l : ML) (sa : Option Addr) (sc : Nat) (seen : List Int) (w : World) (h : Hid (MAt w m l)) (hs : Hid (At w sa seen)) (hsl : Hid (seen.length ≤ maxLen)) (hbad : Hid (mayB m = false ∨ rowB m.ev seen = false)) :
    Calls Tryd.prog 26 #[mval m l, .slice sa seen.length sc] w fun e w' => HErr 2 w e w' := by
  have B0 : Hid (Below w.heap.size w ((w.alloc (.cells (mcells m l) 25)).alloc (.cells zcells 25))) := ((Below.refl _ _).alloc (Nat.le_refl _) _).alloc (by simp) _
  have K0 : Hid (Blk ((w.alloc (.cells (mcells m l) 25)).alloc (.cells zcells 25)) w.heap.size 25 (mcells m l)) := (Blk.new w _ _).alloc _
  have R0 : Hid (Blk ((w.alloc (.cells (mcells m l) 25)).alloc (.cells zcells 25)) (w.heap.size + 1) 25 zcells) := by
    have := Blk.new (w.alloc (.cells (mcells m l) 25)) 25 zcells
    rwa [World.size_alloc] at this
  go_enter Tryd.func26, Tryd.ntmps26
  go_wp2_with fail
  revert B0 K0 R0
  generalize (w.alloc (.cells (mcells m l) 25)).alloc (.cells zcells 25) = V0
  intro B0 K0 R0
  refine (refMay_any m l _ (h.out.below B0.out (Nat.le_refl _))).mono ?_
  rintro e V ⟨rfl, hb1⟩
  have B1 := Hid.of (B0.out.trans (hb1.mono B0.out.size))
  have K1 := Hid.of (K0.out.below hb1 K0.out.lt)
  have R1 := Hid.of (R0.out.below hb1 R0.out.lt)
  clear hb1 B0 K0 R0
  obtain ⟨r0, r1, r2, r3, r4⟩ := zcell_at R1.out
  have rz := R1.out.frozen
  have RR : Hid (Blk _ (w.heap.size + 1) 25 (mcells m0 ml0)) := R1.out.set5 (.int .i64 0) (.int .i64 0) (.slice none 0 0) (.slice none 0 0) (.slice none 0 0)
  cases hm : mayB m with
  | false =>
    clear hbad hm
    go_wp2
    refine bodyPost_ret (v := .tuple #[mval m0 ml0, .int .i64 2]) ?_ rfl ?_
    · exact results_twoM (p := 4) (u := 5) rfl _ _ (w.heap.size + 1) m0 ml0 _ rfl rfl RR.out
    · exact ⟨rfl, below_set5 B1.out (b' := w.heap.size + 1) (by omega) _ _ _ _ _⟩
  | true =>
    have hr : rowB m.ev seen = false := by
      rcases hbad.out with h | h
      · rw [hm] at h; cases h
      · exact h
    have x1 : V.cell? ⟨w.heap.size, 1, none⟩ = some (.int .i64 m.ev) := K1.out.cell 1 rfl
    clear hbad hm
    go_wp2_with fail
    refine (refIs_any sa sc seen m.ev _ (hs.out.below B1.out (Nat.le_refl _)) hsl.out).mono ?_
    rintro e V' ⟨rfl, q, rfl⟩
    rw [hr]
    have R2 : Hid (Blk (V.drewN q) (w.heap.size + 1) 25 zcells) := R1.out
    have B2 := Hid.of (below_drewN B1.out q)
    clear hr RR r0 r1 r2 r3 r4 rz x1 K1 R1 B1
    generalize V.drewN q = V2 at *
    obtain ⟨r0, r1, r2, r3, r4⟩ := zcell_at R2.out
    have rz := R2.out.frozen
    have RR : Hid (Blk _ (w.heap.size + 1) 25 (mcells m0 ml0)) := R2.out.set5 (.int .i64 0) (.int .i64 0) (.slice none 0 0) (.slice none 0 0) (.slice none 0 0)
    go_wp2
    refine bodyPost_ret (v := .tuple #[mval m0 ml0, .int .i64 2]) ?_ rfl ?_
    · exact results_twoM (p := 4) (u := 5) rfl _ _ (w.heap.size + 1) m0 ml0 _ rfl rfl RR.out
    · exact ⟨rfl, below_set5 B2.out (b' := w.heap.size + 1) (by omega) _ _ _ _ _⟩

end Go.Proofs.YtmlkpdeidpcidaaDoor
namespace Go.Proofs.YtmlkpdeidpcidaaDoor
open Go.RowKit
set_option linter.unusedVariables false

theorem at_one (W : World) (x : Int) : At (W.alloc (.cells #[.int .i64 x] 3)) (some ⟨W.heap.size, 0, none⟩) [x] := by
  refine .inr ⟨W.heap.size, 0, rfl, by simp, fun j hj => ?_⟩
  have hj : j = 0 := by simp at hj; exact hj
  subst hj
  exact (Blk.new W 3 #[.int .i64 x]).cell 0 rfl

set_option maxRecDepth 100000 in
set_option maxHeartbeats 8000000 in
theorem rhide_ok (st : Nat) (ev : Int) (starts : List Int) (ars : List Arr) (ends : List Int) (a1 : Option Addr) (c1 : Nat) (a2 : Option Addr) (c2 : Nat) (a3 : Option Addr) (c3 : Nat) (sa : Option Addr) (sc : Nat) (seen : List Int) (w : World) (h : Hid (MAt w ⟨(st : Int), ev, starts, ars, ends⟩ ⟨a1, c1, a2, c2, a3, c3⟩)) (hs : Hid (At w sa seen)) (hsl : Hid (seen.length ≤ maxLen)) (hm : Hid (mayB ⟨(st : Int), ev, starts, ars, ends⟩ = true)) (hr : Hid (rowB ev seen = true)) :
    Calls Tryd.prog 26 #[mval ⟨(st : Int), ev, starts, ars, ends⟩ ⟨a1, c1, a2, c2, a3, c3⟩, .slice sa seen.length sc] w fun e w' => if (hAll ⟨(st : Int), ev, starts, ars, ends⟩ seen st).length ≤ 4096 then ∃ L, e = .returned (.tuple #[mval (hideM ⟨(st : Int), ev, starts, ars, ends⟩ seen) L, .int .i64 0]) ∧ MAt w' (hideM ⟨(st : Int), ev, starts, ars, ends⟩ seen) L ∧ Below w.heap.size w w' else HErr 1 w e w' := by
  have hsz := mayB_size hm.out
  unfold sizeOk at hsz
  dsimp only at hsz
  have hst : st ≤ 256 := by omega
  have hlen : Hid (ars.length ≤ 4096) := show _ ≤ _ by omega
  have hK8 : seen.length ≤ 8 := by have := row_short (by omega) (by omega) hr.out; omega
  have hs4 : Hid (starts.length ≤ 4096) := show _ ≤ _ by have := row_short (n := (st : Int)) (by omega) (by omega) (mayB_starts hm.out); dsimp only at this; omega
  have hto : Hid (∀ a ∈ ars, 0 ≤ a.t ∧ a.t < (256 : Nat)) := may_to hm.out
  clear hsz
  obtain ⟨M, HM⟩ : ∃ M : Mach, Hid (M = ⟨(st : Int), ev, starts, ars, ends⟩) := ⟨_, rfl⟩
  have B0 : Hid (Below w.heap.size w ((w.alloc (.cells (mcells ⟨(st : Int), ev, starts, ars, ends⟩ ⟨a1, c1, a2, c2, a3, c3⟩) 25)).alloc (.cells zcells 25))) := ((Below.refl _ _).alloc (Nat.le_refl _) _).alloc (by simp) _
  have K0 : Hid (Blk ((w.alloc (.cells (mcells ⟨(st : Int), ev, starts, ars, ends⟩ ⟨a1, c1, a2, c2, a3, c3⟩) 25)).alloc (.cells zcells 25)) w.heap.size 25 (mcells ⟨(st : Int), ev, starts, ars, ends⟩ ⟨a1, c1, a2, c2, a3, c3⟩)) := (Blk.new w _ _).alloc _
  have R0 : Hid (Blk ((w.alloc (.cells (mcells ⟨(st : Int), ev, starts, ars, ends⟩ ⟨a1, c1, a2, c2, a3, c3⟩) 25)).alloc (.cells zcells 25)) (w.heap.size + 1) 25 zcells) := by
    have := Blk.new (w.alloc (.cells (mcells ⟨(st : Int), ev, starts, ars, ends⟩ ⟨a1, c1, a2, c2, a3, c3⟩) 25)) 25 zcells
    rwa [World.size_alloc] at this
  go_enter Tryd.func26, Tryd.ntmps26
  go_wp2_with fail
  revert B0 K0 R0
  generalize (w.alloc (.cells (mcells ⟨(st : Int), ev, starts, ars, ends⟩ ⟨a1, c1, a2, c2, a3, c3⟩) 25)).alloc (.cells zcells 25) = V0
  intro B0 K0 R0
  refine (refMay_any ⟨(st : Int), ev, starts, ars, ends⟩ ⟨a1, c1, a2, c2, a3, c3⟩ _ (h.out.below B0.out (Nat.le_refl _))).mono ?_
  rintro e V ⟨rfl, hb1⟩
  have B1 := Hid.of (B0.out.trans (hb1.mono B0.out.size))
  have K1 := Hid.of (K0.out.below hb1 K0.out.lt)
  have R1 := Hid.of (R0.out.below hb1 R0.out.lt)
  clear hb1 B0 K0 R0
  rw [hm.out]
  obtain ⟨x0, x1, x2, x3, x4⟩ := mcell_at K1.out
  go_wp2_with fail
  refine (refIs_any sa sc seen ev _ (hs.out.below B1.out (Nat.le_refl _)) hsl.out).mono ?_
  rintro e V' ⟨rfl, q, rfl⟩
  rw [hr.out]
  have hb1 : Below V.heap.size V (V.drewN q) := below_drewN (Below.refl _ _) q
  clear x0 x1 x2 x3 x4
  revert hb1
  generalize V.drewN q = U
  intro hb1
  have B2 := Hid.of (B1.out.trans (hb1.mono B1.out.size))
  have K2 := Hid.of (K1.out.below hb1 K1.out.lt)
  have R2 := Hid.of (R1.out.below hb1 R1.out.lt)
  clear hb1 B1 K1 R1
  obtain ⟨x0, x1, x2, x3, x4⟩ := mcell_at K2.out
  -- the machine that is made
  have bX : Below U.heap.size U (U.alloc (.cells (ncells (st : Int) seen.length (.slice none 0 0) (.slice none 0 0) a3 ends.length c3) 25)) := (Below.refl _ _).alloc (Nat.le_refl _) _
  have hlo : Hid (w.heap.size + 1 < U.heap.size) := R2.out.lt
  have HX0 : Hid (HN w (U.alloc (.cells (ncells (st : Int) seen.length (.slice none 0 0) (.slice none 0 0) a3 ends.length c3) 25)) (U.heap.size + 1) U.heap.size ⟨(st : Int), ev, starts, ars, ends⟩ ⟨a1, c1, a2, c2, a3, c3⟩ seen.length (.slice none 0 0) (.slice none 0 0) [] []) :=
    ⟨B2.out.trans (bX.mono B2.out.size), K2.out.below bX K2.out.lt, R2.out.below bX R2.out.lt, Blk.new U 25 _, own_nil _ _, ownA_nil _ _, hlo.out, Nat.lt_succ_self _, by rw [World.size_alloc]; exact Nat.le_refl _⟩
  have HXS : Hid ((U.alloc (.cells (ncells (st : Int) seen.length (.slice none 0 0) (.slice none 0 0) a3 ends.length c3) 25)).heap.size = U.heap.size + 1) := World.size_alloc _ _
  clear bX B2 K2 R2
  obtain ⟨y0, y1, y2, y3, y4⟩ := HX0.out.mcells
  dsimp only at y0 y1 y2 y3 y4
  go_wp2_with fail
  clear y0 y1 y2 y3 y4
  revert HX0 HXS
  generalize U.alloc (.cells (ncells (st : Int) seen.length (.slice none 0 0) (.slice none 0 0) a3 ends.length c3) 25) = X
  intro HX0 HXS
  clear x0 x1 x2 x3 x4
  obtain ⟨x0, x1, x2, x3, x4⟩ := HX0.out.mcells
  dsimp only at x0 x1 x2 x3 x4
  refine (refWide_any ⟨(st : Int), ev, starts, ars, ends⟩ ⟨a1, c1, a2, c2, a3, c3⟩ a1 sa c1 sc starts seen X (h.out.a.below HX0.out.bel (Nat.le_refl _)) hlen.out hto.out (h.out.s.below HX0.out.bel (Nat.le_refl _)) hs4.out h.out.s3 (hs.out.below HX0.out.bel (Nat.le_refl _)) hsl.out).mono ?_
  rintro e w1 ⟨v1, rfl, o1, b1⟩
  obtain ⟨s1a, s1c, rfl, -, -, -, -⟩ := o1.at2
  have HX1 := HX0.out.below b1
  have z2 := HX1.nb.cell 2 rfl
  have zf := HX1.nb.frozen
  have HX2 : Hid (HN w (w1.setCell ⟨U.heap.size, 2, none⟩ (.slice s1a (wideL ars seen starts).length s1c)) (U.heap.size + 1) U.heap.size ⟨(st : Int), ev, starts, ars, ends⟩ ⟨a1, c1, a2, c2, a3, c3⟩ seen.length (.slice s1a (wideL ars seen starts).length s1c) (.slice none 0 0) (wideL ars seen starts) []) :=
    ⟨HX1.bel.setCell (p := ⟨U.heap.size, 2, none⟩) (Nat.le_of_lt (Nat.lt_of_succ_lt hlo.out)) _, Blk.other HX1.kb (by have := hlo.out; omega) _, Blk.other HX1.rb (by have := hlo.out; omega) _, HX1.nb.set 2 _, ownsRow_set (o1.low (by have := HXS.out; omega)) (Nat.lt_succ_self _) _, ownA_nil _ _, HX1.lo, HX1.lB, by simp [World.setCell]; exact HX1.hB⟩
  clear x0 x1 x2 x3 x4 b1 o1 HX0 HX1
  go_wp2_with fail
  clear z2 zf
  revert HX2
  generalize w1.setCell ⟨U.heap.size, 2, none⟩ (.slice s1a (wideL ars seen starts).length s1c) = Y
  generalize Value.slice s1a (wideL ars seen starts).length s1c = v1
  intro HX2
  have hal : Hid (∀ f, f ≤ st → (hAll ⟨(st : Int), ev, starts, ars, ends⟩ seen f).length ≤ 524288) := fun f hf => Nat.le_trans (hAll_len hm.out seen hK8 f) (by omega)
  obtain ⟨j0, ji, jz0, jz1, jz2⟩ := info_parts Tryd.infoArrow
  clear HXS
  go_loopw [7] (fun i wr => ∃ (f : Nat) (va : Value), f ≤ st ∧ i = .int .i64 f ∧ Hid (HN w wr (U.heap.size + 1) U.heap.size ⟨(st : Int), ev, starts, ars, ends⟩ ⟨a1, c1, a2, c2, a3, c3⟩ seen.length v1 va (wideL ars seen starts) (hAll ⟨(st : Int), ev, starts, ars, ends⟩ seen f))) (fun i _ => st - (intOf i).toNat)
  case atStart => exact ⟨0, _, Nat.zero_le _, rfl, HX2⟩
  case round =>
    clear HX2
    obtain ⟨f, va, hf, rfl, HF⟩ := hrel
    obtain ⟨x0, x1, x2, x3, x4⟩ := HF.out.mcells
    dsimp only at x0 x1 x2 x3 x4
    by_cases hlt : f < st
    · have HFa := Hid.of (HF.out.below ((Below.refl _ _).alloc (Nat.le_refl _) (.cells #[.int .i64 (f : Int)] 3)))
      obtain ⟨y0, y1, y2, y3, y4⟩ := HFa.out.mcells
      dsimp only at y0 y1 y2 y3 y4
      have hat1 := Hid.of (at_one wr (f : Int))
      go_wp2_with fail
      refine (refWide_any ⟨(st : Int), ev, starts, ars, ends⟩ ⟨a1, c1, a2, c2, a3, c3⟩ (some ⟨wr.heap.size, 0, none⟩) sa 1 sc [(f : Int)] seen _ (h.out.a.below HFa.out.bel (Nat.le_refl _)) hlen.out hto.out hat1.out (by simp) (fun e => by cases e) (hs.out.below HFa.out.bel (Nat.le_refl _)) hsl.out).mono ?_
      rintro e w2 ⟨v8, rfl, o8, b8⟩
      have HF2 := Hid.of (HFa.out.below b8)
      have O8 : Hid (Own w2 (U.heap.size + 1) v8 (wideL ars seen [(f : Int)])) := o8.low HFa.out.hB
      clear x0 x1 x2 x3 x4 y0 y1 y2 y3 y4 HF HFa hat1 b8 o8
      have hl8 : Hid ((wideL ars seen [(f : Int)]).length ≤ 256) := wide_len (m := ⟨(st : Int), ev, starts, ars, ends⟩) hm.out (fun x hx => by rw [List.mem_singleton.1 hx]; show (0 : Int) ≤ (f : Int) ∧ (f : Int) < (st : Int); omega)
      obtain ⟨Wf, HWf⟩ : ∃ Wf, Hid (Wf = wideL ars seen [(f : Int)]) := ⟨_, rfl⟩
      rw [← HWf.out] at O8 hl8
      obtain ⟨s8, c8, rfl, -, -, -, -⟩ := O8.out.at2
      go_wp2_with fail
      go_loopw [9] (fun i wr => ∃ (k : Nat) (va : Value), k ≤ seen.length ∧ i = .int .i64 k ∧ Hid (HN w wr (U.heap.size + 1) U.heap.size ⟨(st : Int), ev, starts, ars, ends⟩ ⟨a1, c1, a2, c2, a3, c3⟩ seen.length v1 va (wideL ars seen starts) (hAll ⟨(st : Int), ev, starts, ars, ends⟩ seen f ++ hFrom ⟨(st : Int), ev, starts, ars, ends⟩ seen f k)) ∧ Hid (Own wr (U.heap.size + 1) (.slice s8 Wf.length c8) Wf)) (fun i _ => seen.length - (intOf i).toNat)
      case atStart => exact ⟨0, va, Nat.zero_le _, rfl, (by show HN w _ (U.heap.size + 1) U.heap.size ⟨(st : Int), ev, starts, ars, ends⟩ ⟨a1, c1, a2, c2, a3, c3⟩ seen.length v1 _ (wideL ars seen starts) (hAll ⟨(st : Int), ev, starts, ars, ends⟩ seen f ++ hFrom ⟨(st : Int), ev, starts, ars, ends⟩ seen f 0); rw [show hFrom ⟨(st : Int), ev, starts, ars, ends⟩ seen f 0 = [] from rfl, List.append_nil]; exact HF2.out), O8⟩
      case round =>
        clear HF2 O8
        obtain ⟨k, va, hk, rfl, HF, O8⟩ := hrel
        by_cases hkt : k < seen.length
        · obtain ⟨b, off, rfl, hb, hc⟩ : ∃ b off, sa = some ⟨b, off, none⟩ ∧ b < w.heap.size ∧ Cells w b off seen := by
            rcases hs.out with h0 | h0
            · rw [h0] at hkt; simp at hkt
            · exact h0
          obtain ⟨x, HXk, cx0⟩ := hc.at hkt
          have cx := (HF.out.bel.cell (p := ⟨b, off + k, none⟩) hb).trans cx0
          have HBW : Hid (b < wr.heap.size) := Nat.lt_of_lt_of_le hb HF.out.bel.size
          clear cx0 hc hb
          obtain ⟨x0, x1, x2, x3, x4⟩ := HF.out.mcells
          dsimp only at x0 x1 x2 x3 x4
          have KEY : Hid (Calls Tryd.prog 74 #[mval ⟨(st : Int), ev, starts, ars, ends⟩ ⟨a1, c1, a2, c2, a3, c3⟩, .slice s8 Wf.length c8, .slice (some ⟨b, off, none⟩) seen.length sc, .int .i64 x] wr.drew fun r w' => GivesO wr.drew (seeingL ars seen Wf x) r w') := by
            obtain ⟨s8', c8', e8, t1, t2, t3, t4⟩ := O8.out.at2
            cases e8
            exact refSeeing_any ⟨(st : Int), ev, starts, ars, ends⟩ ⟨a1, c1, a2, c2, a3, c3⟩ s8 (some ⟨b, off, none⟩) c8 sc Wf seen x wr.drew (h.out.a.below HF.out.bel.drew (Nat.le_refl _)) hlen.out hto.out t1 (Nat.le_trans t2 t3) (hs.out.below HF.out.bel.drew (Nat.le_refl _)) hsl.out
          go_wp2_with fail
          go_region_held3 (fun w' => w'.cell? ⟨w.heap.size, 0, none⟩ = some (.int .i64 st) ∧ w'.cell? ⟨w.heap.size, 1, none⟩ = some (.int .i64 ev) ∧ w'.cell? ⟨w.heap.size, 2, none⟩ = some (.slice a1 starts.length c1) ∧ w'.cell? ⟨w.heap.size, 3, none⟩ = some (.slice a2 ars.length c2) ∧ w'.cell? ⟨w.heap.size, 4, none⟩ = some (.slice a3 ends.length c3) ∧ w'.cell? ⟨b, off + k, none⟩ = some (.int .i64 x)) (go_keep) (first | (go_at_call 74; refine KEY.out.mono ?_; rintro r wL ⟨v10, rfl, o10, b10⟩; have GL : Hid (Below wr.heap.size wr wL) := ((Below.refl _ wr).drew).trans b10; obtain ⟨xx0, xx1, xx2, xx3, xx4⟩ := (HF.out.below GL.out).mcells; dsimp only at xx0 xx1 xx2 xx3 xx4; have cc1 := (GL.out.cell (p := ⟨b, off + k, none⟩) HBW.out).trans cx; have O10 := Hid.of o10; clear b10 o10))
          clear KEY xx0 xx1 xx2 xx3 xx4 cc1 x0 x1 x2 x3 x4 cx
          have HFL := Hid.of (HF.out.below GL.out)
          have O8L : Hid (Own wL (U.heap.size + 1) (.slice s8 Wf.length c8) Wf) := O8.out.keep GL.out (Nat.le_refl _)
          have O10L : Hid (Own wL (U.heap.size + 1) v10 (seeingL ars seen Wf x)) := O10.out.low (show U.heap.size + 1 ≤ wr.heap.size from HF.out.hB)
          clear HF O8 O10 GL
          have hll : Hid ((seeingL ars seen Wf x).length ≤ 256) := wide_len (m := ⟨(st : Int), ev, starts, ars, ends⟩) hm.out (step_bd hm.out)
          have HROW : Hid (hRow ⟨(st : Int), ev, starts, ars, ends⟩ seen f k = (seeingL ars seen Wf x).map fun t => ⟨(f : Int), (k : Int), t⟩) := by
            show _ = _
            unfold hRow seeingL
            rw [HWf.out]
            have e1 : seen[k]?.getD 0 = x := HXk.out.symm
            rw [e1]
          obtain ⟨L, HL⟩ : ∃ L, Hid (L = seeingL ars seen Wf x) := ⟨_, rfl⟩
          rw [← HL.out] at O10L hll HROW
          obtain ⟨s10, c10, rfl, -, -, -, -⟩ := O10L.out.at2
          have hAl : Hid ((hAll ⟨(st : Int), ev, starts, ars, ends⟩ seen f ++ hFrom ⟨(st : Int), ev, starts, ars, ends⟩ seen f k).length ≤ 526336) := by
            show _ ≤ _
            rw [List.length_append]
            have q1 := hal.out f hf
            have q2 := hFrom_len hm.out seen f k
            omega
          have HNX : Hid (hAll ⟨(st : Int), ev, starts, ars, ends⟩ seen f ++ hFrom ⟨(st : Int), ev, starts, ars, ends⟩ seen f (k + 1) = (hAll ⟨(st : Int), ev, starts, ars, ends⟩ seen f ++ hFrom ⟨(st : Int), ev, starts, ars, ends⟩ seen f k) ++ L.map fun t => ⟨(f : Int), (k : Int), t⟩) := by
            show _ = _
            rw [hFrom_succ, HROW.out, List.append_assoc]
          obtain ⟨A, HA⟩ : ∃ A, Hid (A = hAll ⟨(st : Int), ev, starts, ars, ends⟩ seen f ++ hFrom ⟨(st : Int), ev, starts, ars, ends⟩ seen f k) := ⟨_, rfl⟩
          rw [← HA.out] at HFL hAl HNX
          go_wp2_with fail
          go_loopw [11] (fun i wr => ∃ (q : Nat) (va : Value), q ≤ L.length ∧ i = .int .i64 q ∧ Hid (HN w wr (U.heap.size + 1) U.heap.size ⟨(st : Int), ev, starts, ars, ends⟩ ⟨a1, c1, a2, c2, a3, c3⟩ seen.length v1 va (wideL ars seen starts) (A ++ (L.take q).map fun t => ⟨(f : Int), (k : Int), t⟩)) ∧ Hid (Own wr (U.heap.size + 1) (.slice s8 Wf.length c8) Wf) ∧ Hid (Own wr (U.heap.size + 1) (.slice s10 L.length c10) L)) (fun i _ => L.length - (intOf i).toNat)
          case atStart => exact ⟨0, va, Nat.zero_le _, rfl, (by show HN w _ (U.heap.size + 1) U.heap.size ⟨(st : Int), ev, starts, ars, ends⟩ ⟨a1, c1, a2, c2, a3, c3⟩ seen.length v1 _ (wideL ars seen starts) (A ++ (L.take 0).map fun t => ⟨(f : Int), (k : Int), t⟩); rw [List.take_zero, List.map_nil, List.append_nil]; exact HFL.out), O8L, O10L⟩
          case round =>
            clear HFL O8L O10L
            obtain ⟨q, va, hq, rfl, HF, O8, O10⟩ := hrel
            have hll2 := hll.out
            have hAl2 := hAl.out
            by_cases hqt : q < L.length
            · obtain ⟨g, cap, ev10, hg1, hg2, hcl, -⟩ := (O10.out.cells_of).resolve_left (fun h0 => by rw [h0.2] at hqt; simp at hqt)
              cases ev10
              obtain ⟨t, Ht, ct⟩ := hcl.at hqt
              rw [Nat.zero_add] at ct
              clear hcl
              have HN1 : Hid (A ++ (L.take (q + 1)).map (fun t => (⟨(f : Int), (k : Int), t⟩ : Arr)) = (A ++ (L.take q).map fun t => ⟨(f : Int), (k : Int), t⟩) ++ [⟨(f : Int), (k : Int), t⟩]) := by
                show _ = _
                have e := Ht.out
                rw [List.getElem?_eq_getElem hqt, Option.getD_some] at e
                rw [List.take_add_one, List.getElem?_eq_getElem hqt, List.map_append, e, List.append_assoc]; rfl
              have hA1l : (A ++ (L.take q).map fun t => (⟨(f : Int), (k : Int), t⟩ : Arr)).length ≤ 526592 := by
                rw [List.length_append, List.length_map, List.length_take]; omega
              generalize (A ++ (L.take q).map fun t => (⟨(f : Int), (k : Int), t⟩ : Arr)) = A1 at *
              obtain ⟨fa, fc, hfa, hf1, hf2, hf3⟩ := own_form2 HF.out.ar
              subst hfa
              have c3' : wr.cell? ⟨U.heap.size, 3, none⟩ = some (.slice fa A1.length fc) := HF.out.nb.cell 3 rfl
              have d3 : ∀ o, (wr.alloc o).cell? ⟨U.heap.size, 3, none⟩ = some (.slice fa A1.length fc) := fun o => (HF.out.nb.alloc o).cell 3 rfl
              have hbB := HF.out.hB
              go_wp2_with fail
              go_region_law (first | (refine step_append_block rfl (.tmp 68) (.tmp 76) 23 rfl (U.heap.size + 1) 81 j0 (aval arr0) 3 24 Tryd.underlying23 ji jz0 jz1 jz2 rfl (by decide) _ A1.length (aflat A1) rfl (World.ownsRow.alloc HF.out.ar _) ⟨wr.heap.size, 0, none⟩ 1 1 [.int .i64 f, .int .i64 k, .int .i64 t] rfl rfl (cells_three wr _ rfl _ _ _ _) (by intro u hu; simp at hu; rcases hu with rfl | rfl | rfl <;> rfl) (by decide) (by unfold maxLen; omega) (by omega) (Nat.le_trans hbB (by simp)) ?_; intro v9 w9 o9 g9 n9; obtain ⟨ga, gc, hv9, -, -, -⟩ := own_form2 o9; subst hv9; obtain ⟨e1, e2, e3⟩ := HF.out.push (((Below.refl _ wr).alloc (Nat.le_refl _) _).drew) (own_arr (x := ⟨(f : Int), (k : Int), t⟩) o9) g9; have z2 := e1.cell 3 rfl; have zf := e1.frozen; have E2 := Hid.of e2; have E8 := Hid.of (e3 _ _ O8.out); have E10 := Hid.of (e3 _ _ O10.out); clear e2 e3 o9 g9 n9))
              all_goals
                clear e1 z2 zf c3' d3 ct HF O8 O10
                revert E2 E8 E10
                generalize w9.setCell ⟨U.heap.size, 3, none⟩ (.slice ga (A1.length + 1) gc) = Y1
                generalize Value.slice ga (A1.length + 1) gc = va9
                intro E2 E8 E10
                go_wp2_with fail
                go_roundw
                case rel => exact ⟨q + 1, va9, by omega, by go_num, (by show HN _ _ _ _ _ _ _ _ _ _ _; rw [HN1.out]; exact E2.out), E8, E10⟩
                case measure => simp [intOf]; omega
            · rw [List.take_of_length_le (show L.length ≤ q by omega)] at HF
              have HF' : Hid (HN w wr (U.heap.size + 1) U.heap.size ⟨(st : Int), ev, starts, ars, ends⟩ ⟨a1, c1, a2, c2, a3, c3⟩ seen.length v1 va (wideL ars seen starts) (hAll ⟨(st : Int), ev, starts, ars, ends⟩ seen f ++ hFrom ⟨(st : Int), ev, starts, ars, ends⟩ seen f (k + 1))) := by show HN _ _ _ _ _ _ _ _ _ _ _; rw [HNX.out]; exact HF.out
              clear HF O10
              go_wp2_with fail
              go_roundw
              case rel => exact ⟨k + 1, va, by omega, by go_num, HF', O8⟩
              case measure => simp [intOf]; omega
        · have hke : k = seen.length := by omega
          have HF' : Hid (HN w wr (U.heap.size + 1) U.heap.size ⟨(st : Int), ev, starts, ars, ends⟩ ⟨a1, c1, a2, c2, a3, c3⟩ seen.length v1 va (wideL ars seen starts) (hAll ⟨(st : Int), ev, starts, ars, ends⟩ seen (f + 1))) := by
            have q := HF.out
            rw [hke] at q
            show HN _ _ _ _ _ _ _ _ _ _ _
            rw [hAll_succ]; exact q
          clear HF O8 hke
          go_wp2_with fail
          go_roundw
          case rel => exact ⟨f + 1, va, by omega, by go_num, HF'⟩
          case measure => simp [intOf]; omega
    · have hfe : f = st := by omega
      rw [hfe] at HF
      have HFE := Hid.of hfe
      have hdd : ¬ (f : Int) < (st : Int) := by omega
      clear hfe
      have hln : (hAll ⟨(st : Int), ev, starts, ars, ends⟩ seen st).length ≤ 524288 := hal.out st (Nat.le_refl _)
      obtain ⟨fa, fc, hfa, hf1, hf2, hf3⟩ := own_form2 HF.out.ar
      subst hfa
      obtain ⟨sx, sy, hv1, -, s2, s3, s4⟩ := HF.out.st.at2
      subst hv1
      clear x0 x1 x2 x3 x4
      have n0 : wr.cell? ⟨U.heap.size, 0, none⟩ = some (.int .i64 st) := HF.out.nb.cell 0 rfl
      have n1 : wr.cell? ⟨U.heap.size, 1, none⟩ = some (.int .i64 seen.length) := HF.out.nb.cell 1 rfl
      have n2 : wr.cell? ⟨U.heap.size, 2, none⟩ = some (.slice sx (wideL ars seen starts).length sy) := HF.out.nb.cell 2 rfl
      have n3 : wr.cell? ⟨U.heap.size, 3, none⟩ = some (.slice fa (hAll ⟨(st : Int), ev, starts, ars, ends⟩ seen st).length fc) := HF.out.nb.cell 3 rfl
      have n4 : wr.cell? ⟨U.heap.size, 4, none⟩ = some (.slice a3 ends.length c3) := HF.out.nb.cell 4 rfl
      have x0 : wr.cell? ⟨w.heap.size, 0, none⟩ = some (.int .i64 st) := HF.out.kb.cell 0 rfl
      obtain ⟨r0, r1, r2, r3, r4⟩ := zcell_at HF.out.rb
      have rz := HF.out.rb.frozen
      by_cases hfit : (hAll ⟨(st : Int), ev, starts, ars, ends⟩ seen st).length ≤ 4096
      · have d2 : decide ((4096 : Int) < ((hAll ⟨(st : Int), ev, starts, ars, ends⟩ seen st).length : Int)) = false := by simp; omega
        have HFIT := Hid.of hfit
        clear hfit
        have RR : Hid (Blk _ (w.heap.size + 1) 25 (mcells (hideM ⟨(st : Int), ev, starts, ars, ends⟩ seen) ⟨sx, sy, fa, fc, a3, c3⟩)) := HF.out.rb.set5 (.int .i64 st) (.int .i64 seen.length) (.slice sx (wideL ars seen starts).length sy) (.slice fa (hAll ⟨(st : Int), ev, starts, ars, ends⟩ seen st).length fc) (.slice a3 ends.length c3)
        have BF := Hid.of (below_set5 HF.out.bel (b' := w.heap.size + 1) (by omega) (.int .i64 st) (.int .i64 seen.length) (.slice sx (wideL ars seen starts).length sy) (.slice fa (hAll ⟨(st : Int), ev, starts, ars, ends⟩ seen st).length fc) (.slice a3 ends.length c3))
        have HMT := h
        have hlo2 : w.heap.size + 1 < U.heap.size + 1 := by have := hlo.out; omega
        have OS := Hid.of (ownsRow_set (j := 4) (ownsRow_set (j := 3) (ownsRow_set (j := 2) (ownsRow_set (j := 1) (ownsRow_set (j := 0) HF.out.st hlo2 (.int .i64 st)) hlo2 (.int .i64 seen.length)) hlo2 (.slice sx (wideL ars seen starts).length sy)) hlo2 (.slice fa (hAll ⟨(st : Int), ev, starts, ars, ends⟩ seen st).length fc)) hlo2 (.slice a3 ends.length c3))
        have OA := Hid.of (ownsRow_set (j := 4) (ownsRow_set (j := 3) (ownsRow_set (j := 2) (ownsRow_set (j := 1) (ownsRow_set (j := 0) HF.out.ar hlo2 (.int .i64 st)) hlo2 (.int .i64 seen.length)) hlo2 (.slice sx (wideL ars seen starts).length sy)) hlo2 (.slice fa (hAll ⟨(st : Int), ev, starts, ars, ends⟩ seen st).length fc)) hlo2 (.slice a3 ends.length c3))
        go_wp2
        refine bodyPost_ret (v := .tuple #[mval (hideM ⟨(st : Int), ev, starts, ars, ends⟩ seen) ⟨sx, sy, fa, fc, a3, c3⟩, .int .i64 0]) ?_ rfl ?_
        · exact results_twoM (p := 4) (u := 5) rfl _ _ (w.heap.size + 1) (hideM ⟨(st : Int), ev, starts, ars, ends⟩ seen) ⟨sx, sy, fa, fc, a3, c3⟩ _ rfl rfl RR.out
        · try rw [if_pos HFIT.out]
          refine ⟨_, rfl, ?_, BF.out⟩
          obtain ⟨qa, qc, qe, qt, -, -, -⟩ := Own.at2 OS.out
          cases qe
          obtain ⟨ra, rc, re, rt, u1, u2, u3⟩ := OwnA.at OA.out
          cases re
          exact ⟨qt, rt, HMT.out.e.below BF.out (Nat.le_refl _), s2, s3, s4, u1, u2, u3, HMT.out.e1, HMT.out.e2, HMT.out.e3⟩
      · have d2 : decide ((4096 : Int) < ((hAll ⟨(st : Int), ev, starts, ars, ends⟩ seen st).length : Int)) = true := by simp; omega
        have HFIT := Hid.of hfit
        clear hfit
        have RR : Hid (Blk _ (w.heap.size + 1) 25 (mcells m0 ml0)) := HF.out.rb.set5 (.int .i64 0) (.int .i64 0) (.slice none 0 0) (.slice none 0 0) (.slice none 0 0)
        go_wp2
        refine bodyPost_ret (v := .tuple #[mval m0 ml0, .int .i64 1]) ?_ rfl ?_
        · exact results_twoM (p := 4) (u := 5) rfl _ _ (w.heap.size + 1) m0 ml0 _ rfl rfl RR.out
        · try rw [if_neg HFIT.out]
          exact ⟨rfl, below_set5 HF.out.bel (b' := w.heap.size + 1) (by omega) _ _ _ _ _⟩

theorem rHide_any (m : Mach) (l : ML) (sa : Option Addr) (sc : Nat) (seen : List Int) (w : World) (h : MAt w m l) (hs : At w sa seen) (hsl : seen.length ≤ maxLen) :
    Calls Tryd.prog 26 #[mval m l, .slice sa seen.length sc] w fun e w' => HidePost w m seen e w' := by
  by_cases hb : mayB m = false ∨ rowB m.ev seen = false
  · refine (rhide_err m l sa sc seen w (Hid.of h) (Hid.of hs) (Hid.of hsl) (Hid.of hb)).mono fun e w' he => ?_
    unfold HidePost; rw [if_pos hb]; exact he
  · have hm : mayB m = true := by cases e : mayB m with
      | true => rfl
      | false => exact absurd (Or.inl e) hb
    have hr : rowB m.ev seen = true := by cases e : rowB m.ev seen with
      | true => rfl
      | false => exact absurd (Or.inr e) hb
    have hz := mayB_size hm
    obtain ⟨st, ev, starts, ars, ends⟩ := m
    obtain ⟨a1, c1, a2, c2, a3, c3⟩ := l
    obtain ⟨z1, -⟩ := hz
    simp only at z1
    obtain ⟨s, rfl⟩ : ∃ s : Nat, st = (s : Int) := ⟨st.toNat, by omega⟩
    refine (rhide_ok s ev starts ars ends a1 c1 a2 c2 a3 c3 sa sc seen w (Hid.of h) (Hid.of hs) (Hid.of hsl) (Hid.of hm) (Hid.of hr)).mono fun e w' he => ?_
    unfold HidePost; rw [if_neg hb]; exact he

end Go.Proofs.YtmlkpdeidpcidaaDoor
namespace Go.Proofs.YtmlkpdeidpcidaaDoor
open Go.RowKit
set_option linter.unusedVariables false

/-- What Hide answers. -/
def hideOut (m : Mach) (seen : List Int) : Mach × Int := if mayB m = false ∨ rowB m.ev seen = false then (m0, 2) else if (hAll m seen m.st.toNat).length ≤ 4096 then (hideM m seen, 0) else (m0, 1)
theorem hidePost_out {w w' : World} {m : Mach} {seen : List Int} {e : Ending} (h : HidePost w m seen e w') : ∃ L, e = .returned (.tuple #[mval (hideOut m seen).1 L, .int .i64 (hideOut m seen).2]) ∧ MAt w' (hideOut m seen).1 L ∧ Below w.heap.size w w' := by
  unfold HidePost at h
  unfold hideOut
  by_cases h1 : mayB m = false ∨ rowB m.ev seen = false
  · rw [if_pos h1] at h ⊢
    exact ⟨ml0, h.1, mat0 _, h.2⟩
  · rw [if_neg h1] at h ⊢
    by_cases h2 : (hAll m seen m.st.toNat).length ≤ 4096
    · rw [if_pos h2] at h ⊢
      exact h
    · rw [if_neg h2] at h ⊢
      exact ⟨ml0, h.1, mat0 _, h.2⟩

set_option maxRecDepth 100000 in
set_option maxHeartbeats 4000000 in
theorem htells_any (m : Mach) (l : ML) (sa wa : Option Addr) (sc wc : Nat) (seen word : List Int) (w : World) (hT : Hid (Tab w)) (h : Hid (MAt w m l)) (hs : Hid (At w sa seen)) (hsl : Hid (seen.length ≤ 17592186044416)) (hw : Hid (At w wa word)) (hwl : Hid (word.length ≤ 17592186044416)) :
    Calls Tryd.prog 5 #[mval m l, .slice sa seen.length sc, .slice wa word.length wc] w fun e w' => e = .returned (.bool true) ∧ Below w.heap.size w w' := by
  have hsl2 : Hid (seen.length ≤ maxLen) := Nat.le_trans hsl.out (by decide)
  have B0 : Hid (Below w.heap.size w (w.alloc (.cells (mcells m l) 25))) := (Below.refl _ _).alloc (Nat.le_refl _) _
  have K0 : Hid (Blk (w.alloc (.cells (mcells m l) 25)) w.heap.size 25 (mcells m l)) := Blk.new w _ _
  go_enter Tryd.func5, Tryd.ntmps5
  go_wp2_with fail
  revert B0 K0
  generalize w.alloc (.cells (mcells m l) 25) = V0
  intro B0 K0
  refine (pSeen_any wa sa wc sc word seen _ (hw.out.below B0.out (Nat.le_refl _)) hwl.out (hs.out.below B0.out (Nat.le_refl _)) hsl.out).mono ?_
  rintro e w1 ⟨v1, rfl, o1, hb1⟩
  have B1 := Hid.of (B0.out.trans (hb1.mono B0.out.size))
  have K1 := Hid.of (K0.out.below hb1 K0.out.lt)
  obtain ⟨s1, c1, rfl, at1, l1, l2, -⟩ := o1.at2
  have A1 := Hid.of at1
  have LN1 : Hid ((seenL seen word).length ≤ maxLen) := Nat.le_trans l1 l2
  clear hb1 B0 K0 o1 at1 l1 l2
  go_wp2_with fail
  refine (refSeen_any wa sa wc sc word seen _ (hw.out.below B1.out (Nat.le_refl _)) hwl.out (hs.out.below B1.out (Nat.le_refl _)) hsl2.out).mono ?_
  rintro e w2 ⟨s2, c2, rfl, at2, l2, hb2⟩
  have B2 := Hid.of (B1.out.trans (hb2.mono B1.out.size))
  have K2 := Hid.of (K1.out.below hb2 K1.out.lt)
  have A2 := Hid.of at2
  have A1' := Hid.of (A1.out.below hb2 (Nat.le_refl _))
  clear hb2 B1 K1 A1 at2 l2
  go_wp2_with fail
  refine (same_any s1 s2 c1 c2 (seenL seen word) (seenL seen word) _ A1'.out A2.out LN1.out LN1.out).mono ?_
  rintro e w3 ⟨rfl, q, rfl⟩
  rw [sameB_self]
  have B3 := Hid.of (below_drewN B2.out q)
  have K3 : Hid (Blk (w2.drewN q) w.heap.size 25 (mcells m l)) := K2.out
  clear B2 K2 A1' A2 LN1
  revert B3 K3
  generalize w2.drewN q = U
  intro B3 K3
  obtain ⟨x0, x1, x2, x3, x4⟩ := mcell_at K3.out
  go_wp2_with fail
  refine (great_any m l _).mono ?_
  rintro e w4 ⟨⟨bb, rfl⟩, hb4⟩
  have B4 := Hid.of (B3.out.trans (hb4.mono B3.out.size))
  have K4 := Hid.of (K3.out.below hb4 K3.out.lt)
  clear hb4 B3 K3 x0 x1 x2 x3 x4
  obtain ⟨x0, x1, x2, x3, x4⟩ := mcell_at K4.out
  cases bb with
  | true =>
    go_wp2_with fail
    go_ret
    exact ⟨rfl, B4.out⟩
  | false =>
    go_wp2_with fail
    refine (pHide_any m l sa sc seen _ (h.out.below B4.out (Nat.le_refl _)) (hs.out.below B4.out (Nat.le_refl _)) hsl2.out (hT.out.below B4.out hT.out.lt)).mono ?_
    intro e w5 h5
    obtain ⟨L, rfl, mt5, hb5⟩ := hidePost_out h5
    clear h5
    obtain ⟨M, c, HR⟩ : ∃ M c, Hid (hideOut m seen = (M, c)) := ⟨_, _, rfl⟩
    rw [HR.out] at mt5 ⊢
    dsimp only at mt5 ⊢
    have B5 := Hid.of (B4.out.trans (hb5.mono B4.out.size))
    have b6 : Below w5.heap.size w5 (w5.alloc (.cells (mcells M L) 25)) := (Below.refl _ _).alloc (Nat.le_refl _) _
    have B6 := Hid.of (B5.out.trans (b6.mono B5.out.size))
    have K6 := Hid.of ((K4.out.below hb5 K4.out.lt).below b6 (K4.out.below hb5 K4.out.lt).lt)
    have N6 := Hid.of (Blk.new w5 25 (mcells M L))
    have MT6 := Hid.of (mt5.below b6 (Nat.le_refl _))
    clear hb5 b6 mt5 x0 x1 x2 x3 x4 B4 K4 B5
    obtain ⟨x0, x1, x2, x3, x4⟩ := mcell_at K6.out
    go_wp2_with fail
    revert B6 K6 N6 MT6
    show Hid (Below w.heap.size w (w5.alloc (.cells #[.int .i64 M.st, .int .i64 M.ev, .slice L.a1 M.starts.length L.c1, .slice L.a2 M.arrows.length L.c2, .slice L.a3 M.ends.length L.c3] 25))) → _
    generalize w5.alloc (.cells #[.int .i64 M.st, .int .i64 M.ev, .slice L.a1 M.starts.length L.c1, .slice L.a2 M.arrows.length L.c2, .slice L.a3 M.ends.length L.c3] 25) = w6
    intro B6 K6 N6 MT6
    refine (rHide_any m l sa sc seen _ (h.out.below B6.out (Nat.le_refl _)) (hs.out.below B6.out (Nat.le_refl _)) hsl2.out).mono ?_
    intro e w7 h7
    obtain ⟨L', rfl, mt7, hb7⟩ := hidePost_out h7
    clear h7
    rw [HR.out] at mt7 ⊢
    dsimp only at mt7 ⊢
    have B7 := Hid.of (B6.out.trans (hb7.mono B6.out.size))
    have b8 : Below w7.heap.size w7 (w7.alloc (.cells (mcells M L') 25)) := (Below.refl _ _).alloc (Nat.le_refl _) _
    have B8 := Hid.of (B7.out.trans (b8.mono B7.out.size))
    have N8 := Hid.of ((N6.out.below hb7 N6.out.lt).below b8 (N6.out.below hb7 N6.out.lt).lt)
    have P8 := Hid.of (Blk.new w7 25 (mcells M L'))
    have MT8 := Hid.of ((MT6.out.below hb7 (Nat.le_refl _)).below b8 (Nat.le_refl _))
    have MU8 := Hid.of (mt7.below b8 (Nat.le_refl _))
    clear hb7 b8 mt7 B6 K6 N6 MT6 B7
    try clear x0 x1 x2 x3 x4
    obtain ⟨x0, x1, x2, x3, x4⟩ := mcell_at N8.out
    obtain ⟨y0, y1, y2, y3, y4⟩ := mcell_at P8.out
    go_wp2_with fail
    revert B8 N8 P8 MT8 MU8
    show Hid (Below w.heap.size w (w7.alloc (.cells #[.int .i64 M.st, .int .i64 M.ev, .slice L'.a1 M.starts.length L'.c1, .slice L'.a2 M.arrows.length L'.c2, .slice L'.a3 M.ends.length L'.c3] 25))) → _
    generalize w7.alloc (.cells #[.int .i64 M.st, .int .i64 M.ev, .slice L'.a1 M.starts.length L'.c1, .slice L'.a2 M.arrows.length L'.c2, .slice L'.a3 M.ends.length L'.c3] 25) = w8
    intro B8 N8 P8 MT8 MU8
    refine (machines_any M M L L' _ MT8.out MU8.out).mono ?_
    rintro e w9 ⟨rfl, hb9⟩
    rw [sameM_self]
    have B9 := Hid.of (B8.out.trans (hb9.mono B8.out.size))
    clear hb9 B8 N8 P8 MT8 MU8
    try clear x0 x1 x2 x3 x4
    try clear y0 y1 y2 y3 y4
    go_wp2_with fail
    go_ret
    exact ⟨rfl, B9.out⟩

end Go.Proofs.YtmlkpdeidpcidaaDoor
