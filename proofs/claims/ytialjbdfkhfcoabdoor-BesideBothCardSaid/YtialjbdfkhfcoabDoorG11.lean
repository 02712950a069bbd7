/-
  The walks of machine.within and of its closure.
  The walks of cmp.Compare, cmp.Or (at integers) and of machine.compare: which of two arrows stands ahead.
  slices.SortFunc as it lies in this program: the kit's laying.
  slices.SortFunc at arrows, by where they lead to: what it leaves of the finder's row of arrows.
  The walk of finder.lead.
-/
import Derived.Test.YtialjbdfkhfcoabDoorG05
import Derived.Test.YtialjbdfkhfcoabDoorG06
import Derived.Laws.EntriesVeiled
import Derived.Laws.Bits64b
import Derived.BigQuiet
import Derived.BigRegion
import Derived.Deep.RegionHeld3
import Derived.Test.YtialjbdfkhfcoabDoorG03
import Derived.Test.YtialjbdfkhfcoabDoorProg
import Derived.Shelf.SlSortCmp.WholeK
import Derived.Shelf.SlSortCmp.NoneTotal
import Derived.Test.YtialjbdfkhfcoabDoorG10
namespace Go.Proofs.YtialjbdfkhfcoabDoor
open Go.RowKit
set_option linter.unusedVariables false

set_option maxHeartbeats 400000 in
theorem within_any (b : Int) (w : World) :
    Calls Tryd.prog 54 #[.int .i64 b] w fun e w' => e = .returned (.func (.func 78) #[] #[.pointer (some ⟨w.heap.size, 0, none⟩)]) ∧ w' = w.alloc (.cells #[.int .i64 b] 3) := by
  have hmf : ∀ (fn : Fn) (first cap : Array Value) (w : World), (Instr.makeFunc fn first cap).run Tryd.prog w = .ok (.func fn first cap) w := fun _ _ _ _ => rfl
  go_enter Tryd.func54, Tryd.ntmps54
  go_wp2
  go_ret
  exact ⟨rfl, rfl⟩

/-- Is a number from 0 to below a bound? -/
def inB (b n : Int) : Bool := decide (0 ≤ n ∧ n < b)

set_option maxHeartbeats 400000 in
theorem within1_any (b n : Int) (B : Nat) (w : World) (hc : w.cell? ⟨B, 0, none⟩ = some (.int .i64 b)) :
    Calls Tryd.prog 78 #[.int .i64 n, .pointer (some ⟨B, 0, none⟩)] w fun e w' => e = .returned (.bool (inB b n)) ∧ w' = w := by
  by_cases h1 : 0 ≤ n
  · by_cases h2 : n < b
    · have hr : Hid (true = inB b n) := show true = inB b n by simp [inB, h1, h2]
      have f1 : decide (0 ≤ n) = true := by simpa using h1
      have f2 : decide (n < b) = true := by simpa using h2
      go_enter Tryd.func78, Tryd.ntmps78
      go_wp2
      go_ret
      exact ⟨ret_bool hr.out, rfl⟩
    · have hr : Hid (false = inB b n) := show false = inB b n by simp [inB]; omega
      have f1 : decide (0 ≤ n) = true := by simpa using h1
      have f2 : decide (n < b) = false := by simpa using h2
      go_enter Tryd.func78, Tryd.ntmps78
      go_wp2
      go_ret
      exact ⟨ret_bool hr.out, rfl⟩
  · have hr : Hid (false = inB b n) := show false = inB b n by simp [inB]; omega
    have f1 : decide (0 ≤ n) = false := by simpa using h1
    go_enter Tryd.func78, Tryd.ntmps78
    go_wp2
    go_ret
    exact ⟨ret_bool hr.out, rfl⟩

theorem size_alloc2 (w : World) (o o' : Obj) : ((w.alloc o).alloc o').heap.size = w.heap.size + 2 := by simp

end Go.Proofs.YtialjbdfkhfcoabDoor
namespace Go.Proofs.YtialjbdfkhfcoabDoor
open Go.RowKit
set_option linter.unusedVariables false
set_option maxRecDepth 100000

set_option maxHeartbeats 400000 in
theorem isNaN_any (x : Int) (w : World) : Calls Tryd.prog 100 #[.int .i64 x] w fun e w' => e = .returned (.bool false) ∧ w' = w := by
  have h : (x != x) = false := by simp
  go_enter Tryd.func100, Tryd.ntmps100
  go_wp2
  go_ret
  exact ⟨rfl, rfl⟩

/-- -1, 0 or 1. -/
def cmpI (x y : Int) : Int := if x < y then -1 else if y < x then 1 else 0

theorem ret_i64 {a b : Int} (h : a = b) : Ending.returned (.int .i64 a) = .returned (.int .i64 b) := by rw [h]

set_option maxHeartbeats 1000000 in
theorem cmp_any (x y : Int) (w : World) : Calls Tryd.prog 80 #[.int .i64 x, .int .i64 y] w fun e w' => e = .returned (.int .i64 (cmpI x y)) ∧ w' = w := by
  have c1 := isNaN_any x
  have c2 := isNaN_any y
  by_cases h1 : x < y
  · have hr : Hid ((-1 : Int) = cmpI x y) := by show _ = _; simp [cmpI, h1]
    have f1 : decide (x < y) = true := by simpa using h1
    go_enter Tryd.func80, Tryd.ntmps80
    go_wp2_with (first | (go_at_call 100; refine (c1 _).mono ?_; rintro e w' ⟨rfl, rfl⟩) | (go_at_call 100; refine (c2 _).mono ?_; rintro e w' ⟨rfl, rfl⟩))
    go_ret
    exact ⟨ret_i64 hr.out, rfl⟩
  · have f1 : decide (x < y) = false := by simpa using h1
    by_cases h2 : y < x
    · have hr : Hid ((1 : Int) = cmpI x y) := by show _ = _; simp [cmpI, h1, h2]
      have f2 : decide (y < x) = true := by simpa using h2
      go_enter Tryd.func80, Tryd.ntmps80
      go_wp2_with (first | (go_at_call 100; refine (c1 _).mono ?_; rintro e w' ⟨rfl, rfl⟩) | (go_at_call 100; refine (c2 _).mono ?_; rintro e w' ⟨rfl, rfl⟩))
      go_ret
      exact ⟨ret_i64 hr.out, rfl⟩
    · have hr : Hid ((0 : Int) = cmpI x y) := by show _ = _; simp [cmpI, h1, h2]
      have f2 : decide (y < x) = false := by simpa using h2
      go_enter Tryd.func80, Tryd.ntmps80
      go_wp2_with (first | (go_at_call 100; refine (c1 _).mono ?_; rintro e w' ⟨rfl, rfl⟩) | (go_at_call 100; refine (c2 _).mono ?_; rintro e w' ⟨rfl, rfl⟩))
      go_ret
      exact ⟨ret_i64 hr.out, rfl⟩

/-- The first that is not 0. -/
def orI (x y z : Int) : Int := if x = 0 then (if y = 0 then z else y) else x

set_option maxHeartbeats 1000000 in
theorem or_any (x y z : Int) (b : Nat) (w : World) (h0 : w.cell? ⟨b, 0, none⟩ = some (.int .i64 x)) (h1 : w.cell? ⟨b, 1, none⟩ = some (.int .i64 y)) (h2 : w.cell? ⟨b, 2, none⟩ = some (.int .i64 z)) :
    Calls Tryd.prog 79 #[.slice (some ⟨b, 0, none⟩) 3 3] w fun e w' => e = .returned (.int .i64 (orI x y z)) ∧ w' = w := by
  by_cases e0 : x = 0
  · subst e0
    by_cases e1 : y = 0
    · subst e1
      by_cases e2 : z = 0
      · subst e2
        go_enter Tryd.func79, Tryd.ntmps79
        go_wp2
        refine wp_loop_rounds 4 ?_
        rw [rounds_succ]
        go_wp2
        rw [rounds_succ]
        go_wp2
        rw [rounds_succ]
        go_wp2
        rw [rounds_succ]
        go_wp2
        go_ret
        exact ⟨ret_i64 (by simp [orI]), rfl⟩
      · have f2 : (z == 0) = false := by simpa using e2
        have f2' : (z != 0) = true := by simpa using e2
        have hr : Hid (z = orI 0 0 z) := by show _ = _; simp [orI]
        go_enter Tryd.func79, Tryd.ntmps79
        go_wp2
        refine wp_loop_rounds 4 ?_
        rw [rounds_succ]
        go_wp2
        rw [rounds_succ]
        go_wp2
        rw [rounds_succ]
        go_wp2
        go_ret
        exact ⟨ret_i64 hr.out, rfl⟩
    · have f1 : (y == 0) = false := by simpa using e1
      have f1' : (y != 0) = true := by simpa using e1
      have hr : Hid (y = orI 0 y z) := by show _ = _; simp [orI, e1]
      go_enter Tryd.func79, Tryd.ntmps79
      go_wp2
      refine wp_loop_rounds 4 ?_
      rw [rounds_succ]
      go_wp2
      rw [rounds_succ]
      go_wp2
      go_ret
      exact ⟨ret_i64 hr.out, rfl⟩
  · have f0 : (x == 0) = false := by simpa using e0
    have f0' : (x != 0) = true := by simpa using e0
    have hr : Hid (x = orI x y z) := by show _ = _; simp [orI, e0]
    go_enter Tryd.func79, Tryd.ntmps79
    go_wp2
    refine wp_loop_rounds 4 ?_
    rw [rounds_succ]
    go_wp2
    go_ret
    exact ⟨ret_i64 hr.out, rfl⟩

/-- Which of two arrows stands ahead, by its sign. -/
def cmpA (a b : Arr) : Int := orI (cmpI a.f b.f) (cmpI a.e b.e) (cmpI a.t b.t)

theorem cmpA_ahead (a b : Arr) : decide (0 ≤ cmpA a b) = !aheadB a b := by
  unfold cmpA aheadB orI cmpI
  by_cases h1 : a.f < b.f
  · simp [h1, show ¬ a.f = b.f by omega]
  · by_cases h2 : b.f < a.f
    · simp [h1, h2, show ¬ a.f = b.f by omega]
    · have e : a.f = b.f := by omega
      by_cases h3 : a.e < b.e
      · simp [e, h3, show ¬ a.e = b.e by omega]
      · by_cases h4 : b.e < a.e
        · simp [e, h3, h4, show ¬ a.e = b.e by omega]
        · have e' : a.e = b.e := by omega
          by_cases h5 : a.t < b.t
          · simp [e, e', h5]
          · by_cases h6 : b.t < a.t
            · simp [e, e', h5, h6]
            · simp [e, e', h5, h6]

end Go.Proofs.YtialjbdfkhfcoabDoor
namespace Go.Proofs.YtialjbdfkhfcoabDoor
open Go.Shelf

def Tryd.sortA_ren : Go.Shelf.Ren := ⟨fun | 6 => 87 | 15 => 66 | 14 => 102 | 28 => 98 | 29 => 99 | 20 => 109 | 21 => 110 | 22 => 111 | 23 => 112 | 24 => 113 | 25 => 114 | 26 => 115 | 27 => 116 | 46 => 118 | 47 => 105 | 48 => 106 | 49 => 119 | 50 => 120 | 57 => 121 | n => n, fun | 22 => 23 | 24 => 81 | 25 => 91 | 3 => 3 | 39 => 104 | 0 => 0 | 53 => 123 | 55 => 44 | 4 => 4 | 46 => 117 | 45 => 116 | 50 => 68 | 5 => 5 | 9 => 9 | 66 => 128 | 70 => 132 | 76 => 139 | 77 => 140 | n => n, fun | n => n⟩
theorem Tryd.sortA : Go.Proofs.SlLaysF0.n6 Tryd.prog Tryd.sortA_ren := {
  mixed := by kernel_rfl
  f6 := ⟨Tryd.f87.name, by decide, Tryd.func87.trans (congrArg some (by kernel_rfl))⟩
  f14 := ⟨Tryd.f102.name, by decide, Tryd.func102.trans (congrArg some (by kernel_rfl))⟩
  f15 := Tryd.func66.trans (congrArg some (by kernel_rfl))
  f20 := ⟨Tryd.f109.name, by decide, Tryd.func109.trans (congrArg some (by kernel_rfl))⟩
  f21 := ⟨Tryd.f110.name, by decide, Tryd.func110.trans (congrArg some (by kernel_rfl))⟩
  f22 := ⟨Tryd.f111.name, by decide, Tryd.func111.trans (congrArg some (by kernel_rfl))⟩
  f23 := ⟨Tryd.f112.name, by decide, Tryd.func112.trans (congrArg some (by kernel_rfl))⟩
  f24 := ⟨Tryd.f113.name, by decide, Tryd.func113.trans (congrArg some (by kernel_rfl))⟩
  f25 := ⟨Tryd.f114.name, by decide, Tryd.func114.trans (congrArg some (by kernel_rfl))⟩
  f26 := ⟨Tryd.f115.name, by decide, Tryd.func115.trans (congrArg some (by kernel_rfl))⟩
  f27 := ⟨Tryd.f116.name, by decide, Tryd.func116.trans (congrArg some (by kernel_rfl))⟩
  f28 := Tryd.func98.trans (congrArg some (by kernel_rfl))
  f29 := Tryd.func99.trans (congrArg some (by kernel_rfl))
  f46 := ⟨Tryd.f118.name, by decide, Tryd.func118.trans (congrArg some (by kernel_rfl))⟩
  f47 := Tryd.func105.trans (congrArg some (by kernel_rfl))
  f48 := Tryd.func106.trans (congrArg some (by kernel_rfl))
  f49 := ⟨Tryd.f119.name, by decide, Tryd.func119.trans (congrArg some (by kernel_rfl))⟩
  f50 := ⟨Tryd.f120.name, by decide, Tryd.func120.trans (congrArg some (by kernel_rfl))⟩
  f57 := ⟨Tryd.f121.name, by decide, Tryd.func121.trans (congrArg some (by kernel_rfl))⟩
  t0 := Tryd.underlying0
  a0 := Tryd.isAgg0
  z0 := Tryd.sizeOf0
  v0 := Tryd.zeroValue0
  t3 := Tryd.underlying3
  a3 := Tryd.isAgg3
  z3 := Tryd.sizeOf3
  v3 := Tryd.zeroValue3
  t4 := Tryd.underlying4
  a4 := Tryd.isAgg4
  z4 := Tryd.sizeOf4
  v4 := Tryd.zeroValue4
  t5 := Tryd.underlying5
  a5 := Tryd.isAgg5
  z5 := Tryd.sizeOf5
  v5 := Tryd.zeroValue5
  t9 := Tryd.underlying9
  a9 := Tryd.isAgg9
  z9 := Tryd.sizeOf9
  v9 := Tryd.zeroValue9
  t22 := Tryd.underlying23
  a22 := Tryd.isAgg23
  z22 := Tryd.sizeOf23
  v22 := Tryd.zeroValue23
  t25 := Tryd.underlying91
  a25 := Tryd.isAgg91
  z25 := Tryd.sizeOf91
  v25 := Tryd.zeroValue91
  t39 := Tryd.underlying104
  a39 := Tryd.isAgg104
  z39 := Tryd.sizeOf104
  v39 := Tryd.zeroValue104
  t45 := Tryd.underlying116
  a45 := Tryd.isAgg116
  z45 := Tryd.sizeOf116
  v45 := Tryd.zeroValue116
  t46 := Tryd.underlying117
  a46 := Tryd.isAgg117
  z46 := Tryd.sizeOf117
  v46 := Tryd.zeroValue117
  t50 := Tryd.underlying68
  a50 := Tryd.isAgg68
  z50 := Tryd.sizeOf68
  v50 := Tryd.zeroValue68
  t53 := Tryd.underlying123
  a53 := Tryd.isAgg123
  z53 := Tryd.sizeOf123
  v53 := Tryd.zeroValue123
  t55 := Tryd.underlying44
  a55 := Tryd.isAgg44
  z55 := Tryd.sizeOf44
  v55 := Tryd.zeroValue44
  t66 := Tryd.underlying128
  a66 := Tryd.isAgg128
  z66 := Tryd.sizeOf128
  v66 := Tryd.zeroValue128
  t70 := Tryd.underlying132
  a70 := Tryd.isAgg132
  z70 := Tryd.sizeOf132
  v70 := Tryd.zeroValue132
  t76 := Tryd.underlying139
  a76 := Tryd.isAgg139
  z76 := Tryd.sizeOf139
  v76 := Tryd.zeroValue139
  t77 := Tryd.underlying140
  a77 := Tryd.isAgg140
  z77 := Tryd.sizeOf140
  v77 := Tryd.zeroValue140 }

end Go.Proofs.YtialjbdfkhfcoabDoor
namespace Go.Proofs.YtialjbdfkhfcoabDoor
open Go.RowKit Go.Shelf Go.Lib Go.Sort
set_option linter.unusedVariables false

def encA (a : Arr) : List Value := [.int .i64 a.f, .int .i64 a.e, .int .i64 a.t]

set_option maxHeartbeats 1000000 in
theorem lead1_cmp (x y : Arr) (W : World) : Calls Tryd.prog 88 #[.agg #[.int .i64 x.f, .int .i64 x.e, .int .i64 x.t], .agg #[.int .i64 y.f, .int .i64 y.e, .int .i64 y.t]] W fun e w' => e = .returned (.int .i64 (cmpI x.t y.t)) ∧ ∃ q os', w' = grow (W.drewN q) os' := by
  have hcon := fun W' => cmp_any x.t y.t W'
  generalize cmpI x.t y.t = r at hcon ⊢
  go_enter Tryd.func88, Tryd.ntmps88
  go_wp2_with (go_at_call 80; refine (hcon _).mono ?_; rintro e w' ⟨rfl, rfl⟩)
  go_ret
  exact ⟨rfl, 0, _, by rw [alloc_eq_grow, alloc_eq_grow, grow_grow]; rfl⟩

theorem ltA (x y : Arr) : ltOf (fun x y : Arr => cmpI x.t y.t) x y = decide (x.t < y.t) := by
  unfold ltOf cmpI
  by_cases h1 : x.t < y.t
  · simp [h1]
  · by_cases h2 : y.t < x.t <;> simp [h1, h2]
theorem swoA : SWO (ltOf fun x y : Arr => cmpI x.t y.t) where
  irrefl x := by rw [ltA]; simp
  trans x y z h1 h2 := by rw [ltA] at *; simp at *; omega
  ntrans x y z h1 h2 := by rw [ltA] at *; simp at *; omega

theorem isAggArrow (w : World) : (isAgg 81).run Tryd.prog w = .ok true w := by kernel_rfl
theorem sizeOfArrow (w : World) : (Go.sizeOf 81).run Tryd.prog w = .ok 3 w := by kernel_rfl

theorem aflat_get {N : List Arr} {t : Nat} (h : t < N.length * 3) : (aflat N)[t]? = some ((encA (N[t / 3]?.getD arr0))[t % 3]?.getD undef) := by
  have hk : t / 3 < N.length := by omega
  obtain ⟨h1, h2, h3⟩ := aflat_at hk
  have hm : t % 3 = 0 ∨ t % 3 = 1 ∨ t % 3 = 2 := by omega
  rcases hm with hm | hm | hm
  · rw [show t = t / 3 * 3 by omega, h1]; simp [encA]
  · rw [show t = t / 3 * 3 + 1 by omega, h2]
    rw [show (t / 3 * 3 + 1) / 3 = t / 3 by omega, show (t / 3 * 3 + 1) % 3 = 1 by omega]; simp [encA]
  · rw [show t = t / 3 * 3 + 2 by omega, h3]
    rw [show (t / 3 * 3 + 2) / 3 = t / 3 by omega, show (t / 3 * 3 + 2) % 3 = 2 by omega]; simp [encA]

theorem flat_aflat (N : Array Arr) : letI : Inhabited Arr := ⟨arr0⟩; flatK encA 3 N = (aflat N.toList).toArray := by
  letI : Inhabited Arr := ⟨arr0⟩
  refine ext_get! (by simp [aflat_len]) fun t ht => ?_
  have ht' : t < N.size * 3 := by simpa using ht
  rw [get_flatK _ _ _ t ht']
  have h1 := aflat_get (N := N.toList) (t := t) (by simpa using ht')
  have h2 : ((aflat N.toList).toArray)[t]! = (encA (N.toList[t / 3]?.getD arr0))[t % 3]?.getD undef := by
    rw [Array.getElem!_eq_getD, Array.getD_eq_getD_getElem?]
    simp only [List.getElem?_toArray, h1]; rfl
  rw [h2]
  have hk : t / 3 < N.size := by omega
  have h3 : N[t / 3]! = N.toList[t / 3]?.getD arr0 := by
    rw [Array.getElem!_eq_getD, Array.getD_eq_getD_getElem?, Array.getElem?_toList]; rfl
  rw [h3, List.getElem!_eq_getElem?_getD]
  have hm : t % 3 < 3 := Nat.mod_lt _ (by decide)
  generalize N.toList[t / 3]?.getD arr0 = a
  have : t % 3 = 0 ∨ t % 3 = 1 ∨ t % 3 = 2 := by omega
  rcases this with h | h | h <;> rw [h] <;> simp [encA]

theorem putRow_heap (w : World) (blk off : Nat) (F : Array Value) (j : Nat) : (putRow id w blk off F).heap[j]? = if blk = j then (w.heap[j]?).map (fun o => match o with | .cells c e fr => .cells (putCells id off F c) e fr | o => o) else w.heap[j]? := by
  unfold putRow mapBlock
  simp only [Array.getElem?_modify]
  by_cases h : blk = j
  · simp only [h, if_true]
    cases w.heap[j]? with
    | none => rfl
    | some o => cases o <;> rfl
  · simp [h]
theorem grow_heap (w : World) (os : Array Obj) (j : Nat) (h : j < w.heap.size) : (grow w os).heap[j]? = w.heap[j]? := by
  unfold grow; exact Array.getElem?_append_left h
theorem put_take (cur : Array Value) (F : List Value) (off : Nat) (X : List Value) (hX : cur.toList.take off = X) (hoff : off + F.length ≤ cur.size) : (putCells id off F.toArray cur).toList.take (off + F.length) = X ++ F := by
  apply List.ext_getElem?
  intro t
  have hXl : X.length = off := by rw [← hX, List.length_take]; simp; omega
  by_cases ht : t < off + F.length
  · rw [List.getElem?_take_of_lt ht, Array.getElem?_toList]
    simp only [putCells, Array.getElem?_mapIdx]
    have hlt : t < cur.size := by omega
    rw [Array.getElem?_eq_getElem hlt, Option.map_some]
    by_cases h1 : off ≤ t
    · rw [if_pos ⟨h1, by simpa using ht⟩, List.getElem?_append_right (by omega), hXl]
      have h2 : t - off < F.length := by omega
      rw [List.getElem?_eq_getElem h2]
      simp [h2]
    · rw [if_neg (by omega), List.getElem?_append_left (by omega), ← hX, List.getElem?_take_of_lt (by omega), Array.getElem?_toList, Array.getElem?_eq_getElem hlt]
  · rw [List.getElem?_eq_none (by simp; omega), List.getElem?_eq_none (by simp; omega)]
theorem sorted_pairs {D : List Arr} (h : letI : Inhabited Arr := ⟨arr0⟩; SortedIn (ltOf fun x y : Arr => cmpI x.t y.t) 0 D.toArray.size D.toArray) : D.Pairwise fun x y => x.t ≤ y.t := by
  rw [List.pairwise_iff_getElem]
  intro i j hi hj hij
  have h1 := h i j (Nat.zero_le _) hij (by simpa using hj)
  rw [ltA] at h1
  simp [hi, hj] at h1
  exact h1

set_option maxHeartbeats 1000000 in
/-- The arrows behind the first ones, sorted by where they lead to. -/
theorem sort_go (W : World) (B g cap c : Nat) (A N : List Arr) (h : OwnA W B (.slice (some ⟨g, 0, none⟩) (A ++ N).length cap) (A ++ N)) (hN : N.length ≤ 1000000000) :
    Calls Tryd.prog 87 #[.slice (some ⟨g, A.length * 3, none⟩) N.length c, .func (.func 88) #[] #[]] W fun e W' => e = .returned (.tuple #[]) ∧ ∃ D : List Arr, D.Perm N ∧ (D.Pairwise fun x y => x.t ≤ y.t) ∧ OwnA W' B (.slice (some ⟨g, 0, none⟩) (A ++ N).length cap) (A ++ D) ∧ Turn (fun j => j = g) (fun j => j = g) W W' := by
  letI : Inhabited Arr := ⟨arr0⟩
  rcases h.2 with ⟨h0, -⟩ | ⟨g', cap', cur, h0, hg, hh, hnc, hcm, hcs, ht⟩
  · simp at h0
  simp only [Value.slice.injEq, Option.some.injEq, Addr.mk.injEq, and_true] at h0
  obtain ⟨rfl, -, rfl⟩ := h0
  have hbk : g < W.heap.size := (Array.getElem?_eq_some_iff.1 hh).1
  have hl : (A ++ N).length = A.length + N.length := List.length_append
  have eg : ∀ args w, (callFunc 88 args).run Tryd.prog w = .ok (.enter 88 args) w := enters_of Tryd.func88 (by kernel_rfl) rfl
  have hcell : ∀ t, t < N.length * 3 → cur[A.length * 3 + t]? = (aflat N)[t]? := by
    intro t hlt
    have h1 : (cur.toList.take ((A ++ N).length * 3))[A.length * 3 + t]? = (aflat (A ++ N))[A.length * 3 + t]? := by rw [ht]
    rw [List.getElem?_take_of_lt (by omega), Array.getElem?_toList, aflat_append, List.getElem?_append_right (by rw [aflat_len]; omega), aflat_len] at h1
    rw [h1]; congr 1; omega
  have hH : HoldsK encA 3 W g (A.length * 3) N.toArray := by
    unfold HoldsK
    rw [flat_aflat]
    intro j hj
    have hj' : j < N.length * 3 := by simpa [aflat_len] using hj
    have hB : Blk W g 81 cur := hh
    refine ⟨hB.cell _ ?_, hB.frozen _⟩
    rw [hcell j hj']
    have : j < (aflat N).length := by rw [aflat_len]; exact hj'
    rw [List.getElem?_eq_getElem this]
    simp [this]
  have hcon := AnyQ.slices_SortFunc Tryd.sortA 3 isAggArrow sizeOfArrow encA (fun _ => rfl) (fun x v hv => by simp [encA] at hv; rcases hv with rfl | rfl | rfl <;> rfl) (fun x y => cmpI x.t y.t) swoA 88 #[] g (A.length * 3) c N.toArray W eg (fun _ _ _ _ x y => lead1_cmp x y _) hH hbk (by simp; omega)
  refine hcon.mono ?_
  rintro e W' ⟨rfl, d', n, os, hp, hs, rfl⟩
  refine ⟨rfl, d'.toList, ?_, ?_, ?_, ?_⟩
  · have h3 := hp.2.2
    have e1 : (d'.extract 0 N.toArray.size).toList = d'.toList := by
      rw [← hp.1]; simp
    have e2 : (N.toArray.extract 0 N.toArray.size).toList = N := by simp
    rw [e1, e2] at h3
    exact h3
  · refine sorted_pairs ?_
    rw [Array.toArray_toList]
    rw [hp.1]; exact hs
  · have hdl : d'.toList.length = N.length := by have := hp.1; simpa using this
    have hl2 : (A ++ d'.toList).length = (A ++ N).length := by rw [List.length_append, List.length_append, hdl]
    unfold OwnA
    rw [hl2]
    refine ⟨by rw [aflat_len, hl2], .inr ⟨g, cap, putCells id (A.length * 3) (aflat d'.toList).toArray cur, rfl, hg, ?_, hnc, hcm, by simp [putCells, hcs], ?_⟩⟩
    · unfold sortWorldK putRowK
      rw [grow_heap _ _ _ (by rw [size_putRow]; exact hbk), putRow_heap, if_pos rfl, flat_aflat]
      show Option.map _ (W.heap[g]?) = _
      rw [hh]; rfl
    · have h4 := put_take cur (aflat d'.toList) (A.length * 3) (aflat A) (by
        have h5 : (cur.toList.take ((A ++ N).length * 3)).take (A.length * 3) = (aflat (A ++ N)).take (A.length * 3) := by rw [ht]
        rw [List.take_take, aflat_append, List.take_left' (aflat_len A)] at h5
        rw [← h5]; congr 1; omega) (by rw [aflat_len, hdl, hcs]; have := hnc; omega)
      rw [aflat_append, ← h4, aflat_len, hdl]
      congr 1; omega
  · refine ⟨rfl, rfl, rfl, ?_, fun j hj hne => ?_, fun j hj => .inl hj⟩
    · unfold sortWorldK putRowK grow
      rw [Array.size_append, size_putRow]; exact Nat.le_add_right _ _
    · unfold sortWorldK putRowK
      rw [grow_heap _ _ _ (by rw [size_putRow]; exact hj), putRow_heap, if_neg (fun e => hne e.symm)]; rfl

theorem sort_none (p : Option Addr) (cap : Nat) (fv : Value) (w : World) : Calls Tryd.prog 87 #[.slice p 0 cap, fv] w fun e w' => e = .returned (.tuple #[]) ∧ w' = w :=
  AnyF.slices_SortFunc_none { Tryd.sortA with } p cap fv w

end Go.Proofs.YtialjbdfkhfcoabDoor
namespace Go.Proofs.YtialjbdfkhfcoabDoor
open Go.RowKit
set_option linter.unusedVariables false

/-- A slice of integers that lies in no block of F. -/
def AtF (W : World) (F : Nat → Prop) (a : Option Addr) (xs : List Int) : Prop := xs = [] ∨ ∃ b off, a = some ⟨b, off, none⟩ ∧ b < W.heap.size ∧ ¬ F b ∧ Cells W b off xs
theorem AtF.turn {F F' : Nat → Prop} {W W' : World} {a : Option Addr} {xs : List Int} (h : AtF W F a xs) (t : Turn F F' W W') : AtF W' F' a xs := by
  rcases h with h1 | ⟨b, off, h1, hb, hF, hc⟩
  · exact .inl h1
  · refine .inr ⟨b, off, h1, Nat.lt_of_lt_of_le hb t.size, fun hF' => ?_, fun j hj => by rw [World.cell?_of_block (w := W) (t.block b hb hF)]; exact hc j hj⟩
    rcases t.fp b hF' with h2 | h2
    · exact hF h2
    · omega
theorem AtF.get {F : Nat → Prop} {W : World} {a : Option Addr} {xs : List Int} (h : AtF W F a xs) {k : Nat} (hk : k < xs.length) : ∃ b off x, a = some ⟨b, off, none⟩ ∧ b < W.heap.size ∧ Hid (x = xs[k]?.getD 0) ∧ W.cell? ⟨b, off + k, none⟩ = some (.int .i64 x) := by
  rcases h with h | ⟨b, off, h1, hb, -, hc⟩
  · subst h; simp at hk
  · obtain ⟨x, h2, h3⟩ := hc.at hk
    exact ⟨b, off, x, h1, hb, h2, h3⟩
theorem cells_three (W W' : World) (hW : W'.heap = W.heap) (t : TypeId) (x y z : Value) : ∀ j u, ([x, y, z] : List Value)[j]? = some u → (W'.alloc (.cells #[x, y, z] t)).cell? ((⟨W.heap.size, 0, none⟩ : Addr).add j) = some u := by
  intro j u hu
  rw [addr0_add, Nat.zero_add, ← hW]
  exact (Blk.new W' t #[x, y, z]).cell j (by rw [← Array.getElem?_toList]; exact hu)
section
variable {B : Nat} {W W' : World} {bf br : Nat} {st ev : Int} {vs va ve vp : Value} {S : List Int} {A A' : List Arr} {E : List Int} {P : List (Int × Int)}
/-- The row of arrows is written anew in its own block. -/
theorem FD.sorted {g : Nat} (h : FD B W bf br st ev vs va ve vp S A E P) (hg : va.ownBlock = some g) (ho : OwnA W' B va A') (t : Turn (fun j => j = g) (fun j => j = g) W W') : FD B W' bf br st ev vs va ve vp S A' E P ∧ Turn (FF bf br vs va ve vp) (FF bf br vs va ve vp) W W' := by
  obtain ⟨a1, a2⟩ := h.apart
  obtain ⟨r1, r2⟩ := h.rows
  have ng : g ≠ bf ∧ g ≠ br := ⟨fun e => (a2 va (by simp)).1 (by rw [hg, e]), fun e => (a2 va (by simp)).2 (by rw [hg, e])⟩
  rw [hg] at r1 r2
  have hne : (some g : Option Nat) ≠ none := by simp
  have r2' := r2.resolve_left hne
  refine ⟨⟨(t.block bf h.blk.lt (Ne.symm ng.1)).trans h.blk, own_same h.st (fun k hk => t.block k (World.ownsRow.lt h.st k hk).2 (fun e => r2'.1 (by rw [hk, e]))), ho, own_same h.en (fun k hk => t.block k (World.ownsRow.lt h.en k hk).2 (fun e => r2'.2.2 (by rw [hk, e]))), own_same h.ps (fun k hk => t.block k (World.ownsRow.lt h.ps k hk).2 (fun e => r2'.2.1 (by rw [hk, e]))), (t.block br (Array.getElem?_eq_some_iff.1 h.mp).1 (Ne.symm ng.2)).trans h.mp, h.ne, h.nd, h.cr, h.lof, h.lor⟩, t.os, t.tape, t.output, t.size, fun j hj hn => t.block j hj (fun e => hn (.inr (.inr (.inr (.inl (by rw [hg, e])))))), fun j hj => .inl hj⟩
end
theorem own_arr {W : World} {B : Nat} {v : Value} {A : List Arr} {x : Arr} (h : W.ownsRow B 81 3 v (A.length + 1) (aflat A ++ [.int .i64 x.f, .int .i64 x.e, .int .i64 x.t])) : OwnA W B v (A ++ [x]) := by
  unfold OwnA
  rw [List.length_append, aflat_append]
  exact h
theorem fits_big (s : BS) : (decide ((s.ps.length : Int) ≤ 256) && decide ((s.ar.length : Int) ≤ 4096)) = !bBig s := by
  have h1 : decide ((s.ps.length : Int) ≤ 256) = !decide (256 < s.ps.length) := by
    by_cases h : 256 < s.ps.length <;> simp [h] <;> omega
  have h2 : decide ((s.ar.length : Int) ≤ 4096) = !decide (4096 < s.ar.length) := by
    by_cases h : 4096 < s.ar.length <;> simp [h] <;> omega
  rw [h1, h2]; unfold bBig; rw [Bool.not_or]
/-- What lead leaves. -/
def LeadPost (B : Nat) (W : World) (bf br : Nat) (ev : Int) (vs va ve vp : Value) (S E : List Int) (s' : BS) (e : Ending) (W' : World) : Prop :=
  ∃ va' vp', e = .returned (.bool (!bBig s')) ∧ Turn (FF bf br vs va ve vp) (FF bf br vs va' ve vp') W W' ∧ W'.cell? ⟨bf, 1, none⟩ = some (.int .i64 ev) ∧ (bBig s' = false → FD B W' bf br s'.ps.length ev vs va' ve vp' S (srtA s'.ar) E s'.ps ∧ (srtA s'.ar).length = s'.ar.length)

theorem pair_lt {D N : List Arr} (hp : D.Perm N) (hs : D.Pairwise fun x y => x.t ≤ y.t) (hn : N.Pairwise fun x y => x.t ≠ y.t) : D.Pairwise fun x y => x.t < y.t := by
  have h2 : D.Pairwise fun x y => x.t ≠ y.t := (hp.pairwise_iff (fun {a b} (h : a.t ≠ b.t) => h.symm)).2 hn
  exact (hs.and h2).imp (fun h => by omega)

set_option maxHeartbeats 8000000 in
set_option maxRecDepth 100000 in
theorem lead_any (B : Nat) (W : World) (bf br : Nat) (ev : Int) (vs va ve vp : Value) (S E : List Int) (s : BS) (a b : Mach) (i : Nat) (e : Int) (ta tb : Option Addr) (ca cb : Nat) (LA LB : List Int)
    (hF : Hid (FD B W bf br s.ps.length ev vs va ve vp S (srtA s.ar) E s.ps)) (hbig : Hid (bBig s = false)) (hlen : Hid ((srtA s.ar).length = s.ar.length)) (hlo : Hid (∀ x ∈ s.ar, x.f < i ∨ (x.f = i ∧ x.e < e))) (hi : i ≤ 256) (he : 0 ≤ e ∧ e < 8)
    (hA : Hid (AtF W (FF bf br vs va ve vp) ta LA)) (hB : Hid (AtF W (FF bf br vs va ve vp) tb LB)) (lA : LA.length ≤ 4096) (lB : LB.length ≤ 4096) (iA : Hid (Inc LA)) (iB : Hid (Inc LB)) (bA : Hid (∀ x ∈ LA, 0 ≤ x ∧ x < 256)) (bB : Hid (∀ x ∈ LB, 0 ≤ x ∧ x < 256)) :
    Calls Tryd.prog 63 #[.pointer (some ⟨bf, 0, none⟩), .int .i64 i, .int .i64 e, .slice ta LA.length ca, .slice tb LB.length cb] W fun r W' => LeadPost B W bf br ev vs va ve vp S E ((crossP LA LB).foldl (bAdd i e) s) r W' := by
  obtain ⟨j0, ji, jz0, jz1, jz2⟩ := info_parts Tryd.infoArrow
  obtain ⟨aa, ac, hva, -, ha1, ha2, ha3⟩ := hF.out.ar.at
  have hb0 := bBig_some hbig.out
  have hal : (srtA s.ar).length ≤ 4096 := by rw [hlen.out]; exact hb0.2
  have c3 := hF.out.cells.2.2.2.1
  rw [hva] at c3
  clear hb0
  go_enter Tryd.func63, Tryd.ntmps63
  go_wp2_with fail
  clear c3 hva ha1 ha2 ha3
  go_loopw [24] (fun r wr => ∃ (k : Nat) (va' vp' : Value), k ≤ LA.length ∧ r = .int .i64 k ∧ Hid (FD B wr bf br ((crossP (LA.take k) LB).foldl (bAdd i e) s).ps.length ev vs va' ve vp' S (srtA s.ar ++ newA i e s (crossP (LA.take k) LB)) E ((crossP (LA.take k) LB).foldl (bAdd i e) s).ps) ∧ Hid (Turn (FF bf br vs va ve vp) (FF bf br vs va' ve vp') W wr) ∧ Hid (bBig ((crossP (LA.take k) LB).foldl (bAdd i e) s) = false)) (fun r _ => LA.length - (intOf r).toNat)
  case atStart => exact ⟨0, va, vp, Nat.zero_le _, rfl, by show FD _ _ _ _ _ _ _ _ _ _ _ _ _ _; simpa [crossP, newA] using hF.out, Turn.refl _ _, by show _ = _; simpa [crossP] using hbig.out⟩
  case round =>
    obtain ⟨k, va1, vp1, hk, rfl, HF, HT, HG⟩ := hrel
    by_cases hlt : k < LA.length
    · obtain ⟨bs, os, x, hsa, hbs, HX, cx0⟩ := (hA.out.turn HT.out).get hlt
      rw [hsa]
      have HXM : Hid (0 ≤ x ∧ x < 256) := bA.out x (by rw [HX.out, List.getElem?_eq_getElem hlt]; exact List.getElem_mem hlt)
      go_wp2_with fail
      go_loopw [30] (fun r wr => ∃ (q : Nat) (va' vp' : Value), q ≤ LB.length ∧ r = .int .i64 q ∧ Hid (FD B wr bf br ((crossP (LA.take k) LB ++ (LB.take q).map fun z => (x, z)).foldl (bAdd i e) s).ps.length ev vs va' ve vp' S (srtA s.ar ++ newA i e s (crossP (LA.take k) LB ++ (LB.take q).map fun z => (x, z))) E ((crossP (LA.take k) LB ++ (LB.take q).map fun z => (x, z)).foldl (bAdd i e) s).ps) ∧ Hid (Turn (FF bf br vs va ve vp) (FF bf br vs va' ve vp') W wr) ∧ Hid (bBig ((crossP (LA.take k) LB ++ (LB.take q).map fun z => (x, z)).foldl (bAdd i e) s) = false)) (fun r _ => LB.length - (intOf r).toNat)
      case atStart => exact ⟨0, va1, vp1, Nat.zero_le _, rfl, by show FD _ _ _ _ _ _ _ _ _ _ _ _ _ _; rw [List.take_zero, List.map_nil, List.append_nil]; exact HF.out, HT, by show _ = _; rw [List.take_zero, List.map_nil, List.append_nil]; exact HG.out⟩
      case round =>
        clear HF HT HG cx0 hbs
        obtain ⟨q, va1, vp1, hq, rfl, HF, HT, HG⟩ := hrel
        by_cases hqt : q < LB.length
        · obtain ⟨bt, ot, y, hta, hbt, HY, cy0⟩ := (hB.out.turn HT.out).get hqt
          rw [hta]
          have HYM : Hid (0 ≤ y ∧ y < 256) := bB.out y (by rw [HY.out, List.getElem?_eq_getElem hqt]; exact List.getElem_mem hqt)
          have HP : Hid (StP (x, y)) := ⟨HXM.out, HYM.out⟩
          have HN : Hid ((crossP (LA.take k) LB ++ (LB.take (q + 1)).map fun z => (x, z)) = (crossP (LA.take k) LB ++ (LB.take q).map fun z => (x, z)) ++ [(x, y)]) := by
            show _ = _
            rw [mapP_take hqt HY, ← List.append_assoc]
          have HC : Hid (∃ t, crossP LA LB = ((crossP (LA.take k) LB ++ (LB.take q).map fun z => (x, z)) ++ [(x, y)]) ++ t) := by
            show ∃ t, _
            have e1 : LA = LA.take (k + 1) ++ LA.drop (k + 1) := (List.take_append_drop _ _).symm
            have e2 : LB = LB.take (q + 1) ++ LB.drop (q + 1) := (List.take_append_drop _ _).symm
            have e3 : crossP LA LB = crossP (LA.take (k + 1)) LB ++ crossP (LA.drop (k + 1)) LB := by
              conv => lhs; rw [e1]
              unfold crossP; rw [List.flatMap_append]
            have e4 : (LB.map fun z => (x, z)) = ((LB.take (q + 1)).map fun z => (x, z)) ++ ((LB.drop (q + 1)).map fun z => (x, z)) := by
              conv => lhs; rw [e2]
              rw [List.map_append]
            rw [e3, crossP_take hlt HX, e4, mapP_take hqt HY]
            exact ⟨((LB.drop (q + 1)).map fun z => (x, z)) ++ crossP (LA.drop (k + 1)) LB, by simp⟩
          generalize (crossP (LA.take k) LB ++ (LB.take q).map fun z => (x, z)) = L at *
          have hs1 := bBig_some HG.out
          have hLl : (srtA s.ar ++ newA i e s L).length = (L.foldl (bAdd i e) s).ar.length := by rw [List.length_append, newA_len, bFold_ar, hlen.out]
          have NA : Hid (newA i e s (L ++ [(x, y)]) = newA i e s L ++ [⟨(i : Int), e, (findP (L.foldl (bAdd i e) s).ps x y : Nat)⟩]) := newA_snoc i e L s (x, y)
          have NF : Hid ((L ++ [(x, y)]).foldl (bAdd i e) s = bAdd i e (L.foldl (bAdd i e) s) (x, y)) := by show _ = _; rw [List.foldl_append]; rfl
          obtain ⟨s1, HS1⟩ : ∃ s1, Hid (s1 = L.foldl (bAdd i e) s) := ⟨_, rfl⟩
          obtain ⟨A1, HA1⟩ : ∃ A1, Hid (A1 = srtA s.ar ++ newA i e s L) := ⟨_, rfl⟩
          rw [← HS1.out, ← HA1.out] at HF
          rw [← HS1.out] at HG hs1 NA NF
          rw [← HS1.out, ← HA1.out] at hLl
          have HLl := Hid.of hLl
          have hA1l : A1.length ≤ 4096 := by rw [hLl]; exact hs1.2
          have hP1 := hs1.1
          clear hLl hs1
          have HAD : Hid (addP s1.ps (x, y) = (bAdd i e s1 (x, y)).ps) := rfl
          obtain ⟨fa, fc, hfa, hf1, hf2, hf3⟩ := own_form2 HF.out.ar
          subst hfa
          have c3 := HF.out.cells.2.2.2.1
          have lb1 := HF.out.blk.lt
          obtain ⟨p1, Hp1⟩ : ∃ p1, Hid (p1 = findP s1.ps x y) := ⟨_, rfl⟩
          have hp1 : p1 ≤ 256 := by rw [Hp1.out]; exact Nat.le_trans (findP_le _ _ _) hP1
          go_wp2_with fail
          go_region_law (first | (refine step_append_block rfl (.tmp 39) (.tmp 48) 23 rfl B 81 j0 (aval arr0) 3 24 Tryd.underlying23 ji jz0 jz1 jz2 rfl (by decide) _ A1.length (aflat A1) rfl (World.ownsRow.alloc F1.out.ar _) ⟨w1.heap.size, 0, none⟩ 1 1 [.int .i64 i, .int .i64 e, .int .i64 p1] rfl rfl (cells_three w1 _ rfl _ _ _ _) (by intro u hu; simp at hu; rcases hu with rfl | rfl | rfl <;> rfl) (by decide) (by unfold maxLen; omega) (by omega) (Nat.le_trans (Nat.le_trans F1.out.lof (Nat.le_of_lt F1.out.blk.lt)) (by rw [World.size_alloc]; exact Nat.le_succ _)) ?_; intro v9 w9 o9 g9 n9; obtain ⟨ga, gc, hv9, -, -, -⟩ := own_form2 o9; subst hv9; obtain ⟨e1, e2⟩ := F1.out.pushA ((Below.refl _ _).alloc (Nat.le_refl _) _) (own_arr (x := ⟨(i : Int), e, (p1 : Int)⟩) o9) g9 n9; have z2 := e1.cell 3 rfl; have zf := e1.frozen; have E2 := Hid.of e2.1; have T2 := Hid.of (T1.out.trans e2.2); clear e2 o9 g9 n9) | (go_simp; go_at_call 61; refine (number_any B _ bf br ev _ _ _ _ _ _ _ s1.ps x y HF.out.drew HP.out (by omega)).mono ?_; rintro r w1 ⟨rfl, vp2, hF1, hT1⟩; rw [← Hp1.out]; rw [HAD.out] at hF1; have F1 := Hid.of hF1; have T1 := Hid.of (HT.out.drew.trans hT1); have d2 := hF1.cells.2.2.2.1; have d3 : ∀ o, (w1.alloc o).cell? ⟨bf, 3, none⟩ = some (.slice fa A1.length fc) := fun o => (hF1.alloc o).cells.2.2.2.1; clear hF1 hT1))
          all_goals
            clear F1 T1 e1 d2 d3 z2 zf c3
            revert E2 T2
            generalize w9.setCell ⟨bf, 3, none⟩ (.slice ga (A1.length + 1) gc) = Y
            generalize Value.slice ga (A1.length + 1) gc = va9
            intro E2 T2
            have hL2 : (A1 ++ [(⟨(i : Int), e, (p1 : Int)⟩ : Arr)]).length = (bAdd i e s1 (x, y)).ar.length := by
              rw [List.length_append, HLl.out]; simp [bAdd]
            have hBB : (decide (((bAdd i e s1 (x, y)).ps.length : Int) ≤ 256) && decide (((A1 ++ [(⟨(i : Int), e, (p1 : Int)⟩ : Arr)]).length : Int) ≤ 4096)) = !bBig (bAdd i e s1 (x, y)) := by
              rw [hL2]; exact fits_big _
            have HBB := Hid.of hBB
            clear hBB hL2
            by_cases hfit : bBig (bAdd i e s1 (x, y)) = false
            · go_wp2_with fail
              refine (fits_any B _ bf br _ ev _ _ _ _ _ _ _ _ E2 (by rw [List.length_append]; simp; omega)).mono ?_
              rintro r w2 ⟨rfl, rfl⟩
              rw [HBB.out, hfit]
              go_wp2_with fail
              go_roundw
              case rel => exact ⟨q + 1, va9, vp2, by omega, by go_num, by show FD _ _ _ _ _ _ _ _ _ _ _ _ _ _; rw [HN.out, NF.out, NA.out, ← List.append_assoc, ← HA1.out, ← Hp1.out]; exact E2.out, T2, by show _ = _; rw [HN.out, NF.out]; exact hfit⟩
              case measure => simp [intOf]; omega
            · have hfit' : bBig (bAdd i e s1 (x, y)) = true := by simpa using hfit
              have HEND : Hid (bBig ((crossP LA LB).foldl (bAdd i e) s) = true) := by
                obtain ⟨t, ht⟩ := HC.out
                show _ = _
                rw [ht, List.foldl_append, NF.out]
                exact bBig_fold _ hfit'
              go_wp2_with fail
              refine (fits_any B _ bf br _ ev _ _ _ _ _ _ _ _ E2 (by rw [List.length_append]; simp; omega)).mono ?_
              rintro r w2 ⟨rfl, rfl⟩
              rw [HBB.out, hfit']
              go_wp2_with fail
              go_ret
              exact ⟨va9, vp2, ret_bool (by rw [HEND.out]; rfl), T2.out, E2.out.cells.2.1, fun h => by rw [HEND.out] at h; cases h⟩
        · rw [List.take_of_length_le (show LB.length ≤ q by omega)] at HF HG
          have HN : Hid (crossP (LA.take (k + 1)) LB = crossP (LA.take k) LB ++ LB.map fun z => (x, z)) := crossP_take hlt HX
          go_wp2_with fail
          go_roundw
          case rel => exact ⟨k + 1, va1, vp1, by omega, by go_num, by show FD _ _ _ _ _ _ _ _ _ _ _ _ _ _; rw [HN.out]; exact HF.out, HT, by show _ = _; rw [HN.out]; exact HG.out⟩
          case measure => simp [intOf]; omega
    · rw [List.take_of_length_le (show LA.length ≤ k by omega)] at HF HG
      have ND : Hid ((newA i e s (crossP LA LB)).Pairwise fun x y => x.t ≠ y.t) := newA_nd i e _ s (nodup_crossP (inc_nodup iA.out) (inc_nodup iB.out))
      have NI : Hid (∀ x ∈ newA i e s (crossP LA LB), x.f = i ∧ x.e = e) := newA_in i e _ s
      have FA : Hid (((crossP LA LB).foldl (bAdd i e) s).ar = s.ar ++ newA i e s (crossP LA LB)) := fold_ar i e _ s
      have FL : Hid ((srtA s.ar ++ newA i e s (crossP LA LB)).length = ((crossP LA LB).foldl (bAdd i e) s).ar.length) := by show _ = _; rw [List.length_append, newA_len, bFold_ar, hlen.out]
      have hb1 := (bBig_some HG.out).2
      rw [← FL.out] at hb1
      have lb1 := HF.out.blk.lt
      have c3 := HF.out.cells.2.2.2.1
      rcases HF.out.ar.forms with ⟨hv, hnil⟩ | ⟨g, cap, hv, hg1, hg2, -, hg4, hg5⟩
      · have hA0 : srtA s.ar = [] := (List.append_eq_nil_iff.1 hnil).1
        have hN0 : newA i e s (crossP LA LB) = [] := (List.append_eq_nil_iff.1 hnil).2
        have FIN : Hid (srtA ((crossP LA LB).foldl (bAdd i e) s).ar = []) := by
          show _ = _
          rw [FA.out, hN0, List.append_nil]; exact hA0
        have hz : (srtA s.ar).length = 0 := by rw [hA0]; rfl
        rw [hnil] at HF
        subst hv
        rw [hz]
        clear hb1 hnil hA0
        go_wp2_with fail
        refine (sort_none none 0 _ _).mono ?_
        rintro r w2 ⟨rfl, rfl⟩
        go_wp2_with fail
        go_ret
        exact ⟨.slice none 0 0, vp1, ret_bool (by rw [HG.out]; rfl), HT.out, HF.out.cells.2.1, fun _ => by rw [FIN.out]; exact ⟨HF.out, by rw [FA.out, hN0, List.append_nil, ← hlen.out, hz]; rfl⟩⟩
      · subst hv
        have hAN : (srtA s.ar ++ newA i e s (crossP LA LB)).length = (srtA s.ar).length + (newA i e s (crossP LA LB)).length := List.length_append
        generalize hN : newA i e s (crossP LA LB) = N at *
        generalize hAA : srtA s.ar = A0 at *
        obtain ⟨n1, Hn1⟩ : ∃ n1, Hid (n1 = (A0 ++ N).length) := ⟨_, rfl⟩
        rw [← Hn1.out] at hg4 hb1 c3 hAN
        have HNl : Hid (N.length ≤ 4096) := show _ ≤ _ by omega
        have SB : Hid (∀ D : List Arr, D.Perm N → (D.Pairwise fun x y => x.t ≤ y.t) → A0 ++ D = srtA ((crossP LA LB).foldl (bAdd i e) s).ar) := fun D h1 h2 => by
          rw [FA.out, ← hAA]
          exact srtA_behind hlo.out NI.out h1 (pair_lt h1 h2 ND.out)
        have hc4 := hg4
        rw [hAN] at hc4
        by_cases hcap : A0.length < cap
        · go_wp2_with fail
          refine (sort_go _ B g cap _ A0 N HF.out.ar (by have := HNl.out; omega)).mono ?_
          rintro r w2 ⟨rfl, D, hD1, hD2, hD3, hD4⟩
          have hD5 := HF.out.sorted (g := g) rfl hD3 hD4
          rw [SB.out D hD1 hD2] at hD5
          have HD5 := Hid.of hD5
          have HDL : Hid ((srtA ((crossP LA LB).foldl (bAdd i e) s).ar).length = ((crossP LA LB).foldl (bAdd i e) s).ar.length) := by
            show _ = _
            rw [← SB.out D hD1 hD2, ← FL.out, List.length_append, List.length_append, hD1.length_eq]
          clear hD5 hD3 hD4
          go_wp2_with fail
          go_ret
          exact ⟨_, vp1, ret_bool (by rw [HG.out]; rfl), HT.out.trans HD5.out.2, HD5.out.1.cells.2.1, fun _ => ⟨HD5.out.1, HDL.out⟩⟩
        · have hN0 : N = [] := List.eq_nil_of_length_eq_zero (by omega)
          have hSE := SB.out [] (by rw [hN0]) List.Pairwise.nil
          rw [List.append_nil] at hSE
          have HSE := Hid.of hSE
          rw [hN0, List.append_nil, HSE.out] at HF
          have HDL : Hid ((srtA ((crossP LA LB).foldl (bAdd i e) s).ar).length = ((crossP LA LB).foldl (bAdd i e) s).ar.length) := by
            show _ = _
            rw [← HSE.out, ← FL.out, hN0, List.append_nil]
          have hn0 : n1 = A0.length := by rw [hAN, hN0]; rfl
          have hcc : cap = A0.length := by omega
          subst hcc
          rw [hn0] at c3
          clear hSE
          go_wp2_with fail
          refine (sort_none _ _ _ _).mono ?_
          rintro r w2 ⟨rfl, rfl⟩
          go_wp2_with fail
          go_ret
          exact ⟨_, vp1, ret_bool (by rw [HG.out]; rfl), HT.out, HF.out.cells.2.1, fun _ => ⟨by have h := HF.out; rw [← HSE.out] at h; rw [hN0, List.append_nil, ← HSE.out]; exact h, HDL.out⟩⟩

end Go.Proofs.YtialjbdfkhfcoabDoor
