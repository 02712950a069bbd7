/-
  The walks of least.endings and least.signs: what is known of each state.
  The walk of least.kinds: which states are of one kind.
  The walks of cmp.Less, slices.isNaN, cmp.isNaN and slices.BinarySearch: the place of a number in a row that rises.
  The walks of reach.renumber, of the closure that it answers, and of reach.rowAnew.
  What is said on the way through reach.part: what lies where.
-/
import Derived.Test.YtkkkacmccndinaaDoorG30
import Derived.Test.YtkkkacmccndinaaDoorG03
import Derived.Test.YtkkkacmccndinaaDoorG07
import Derived.Test.YtkkkacmccndinaaDoorG04
import Derived.Test.YtkkkacmccndinaaDoorG05
import Derived.RangeFuncBox
import Derived.Test.YtkkkacmccndinaaDoorG08
import Derived.Test.YtkkkacmccndinaaDoorG21
import Derived.Deep.RegionHeld3
namespace Go.Proofs.YtkkkacmccndinaaDoor
open Go.RowKit
set_option linter.unusedVariables false

theorem Tryd.infoSign : (Tryd.prog.info? 150).map (fun i => (i.zero, i.size, i.bytes)) = some (some (.agg #[.int .i64 0, .int .i64 0, .int .i64 0, .int .i64 0, .int .i64 0, .int .i64 0, .int .i64 0, .int .i64 0, .int .i64 0]), 9, 72) := by kernel_rfl
theorem RowC.made9 {W : World} {b n : Nat} {t : TypeId} {x : Value} (h : Blk W b t (madeCells #[x, x, x, x, x, x, x, x, x] n)) : RowC W b t n (fun _ => x) := by
  refine ⟨_, h, by simp [madeCells], fun j hj => ?_⟩
  simp only [madeCells, Array.getElem?_map, Array.getElem?_range, hj, if_true, Option.map_some, Option.some.injEq]
  have h9 : j % 9 < 9 := by omega
  have : ∀ i, i < 9 → (#[x, x, x, x, x, x, x, x, x] : Array Value)[i]! = x := fun i hi => by
    match i, hi with
    | 0, _ | 1, _ | 2, _ | 3, _ | 4, _ | 5, _ | 6, _ | 7, _ | 8, _ => rfl
    | i + 9, hi => omega
  exact this (j % 9) h9
theorem run_makeSigns (N : Nat) (hN : N ≤ 256) : ∀ w : World, (Instr.makeSlice 130 (.int .i64 N) (.int .i64 N)).run Tryd.prog w = .ok (.slice (some ⟨w.heap.size, 0, none⟩) N N) (w.alloc (.cells (madeCells #[.int .i64 0, .int .i64 0, .int .i64 0, .int .i64 0, .int .i64 0, .int .i64 0, .int .i64 0, .int .i64 0, .int .i64 0] (N * 9)) 150)) := fun w => by
  obtain ⟨i0, hi, hz0, hz1, hz2⟩ := info_parts Tryd.infoSign
  have := run_make (P := Tryd.prog) w 130 150 i0 _ Tryd.underlying130 hi hz0 .i64 .i64 N N (by omega) (by omega) (by rw [hz2]; omega) (by omega)
  rw [hz1, Int.toNat_natCast] at this
  exact this
/-- What these walks know of the memory: the machine's block, and the row of signs. -/
structure SI9 (w W : World) (m : Mach) (l : ML) (N : Nat) (F : Nat → Nat) : Prop where
  low : Below w.heap.size w W
  kb : Blk W w.heap.size 25 (mcells m l)
  sg : RowC W (w.heap.size + 1) 150 (N * 9) (fun j => .int .i64 ((F j : Nat) : Int))
section
variable {w W : World} {m : Mach} {l : ML} {N : Nat} {F : Nat → Nat}
theorem SI9.below {W' : World} (h : SI9 w W m l N F) (hb : Below W.heap.size W W') : SI9 w W' m l N F :=
  ⟨h.low.trans (hb.mono h.low.size), h.kb.below hb h.kb.lt, h.sg.below hb h.sg.lt⟩
theorem SI9.set (h : SI9 w W m l N F) {j : Nat} (hj : j < N * 9) (v : Nat) {F' : Nat → Nat} (hF : ∀ i, i < N * 9 → F' i = if i = j then v else F i) : SI9 w (W.setCell ⟨w.heap.size + 1, j, none⟩ (.int .i64 ((v : Nat) : Int))) m l N F' :=
  ⟨h.low.setCell (p := ⟨w.heap.size + 1, j, none⟩) (show w.heap.size ≤ w.heap.size + 1 by omega) _, Blk.other h.kb (by omega) _, (h.sg.set hj _).congr (fun i hi => by
    rw [hF i hi]
    by_cases e : i = j
    · rw [if_pos e, if_pos e]
    · rw [if_neg e, if_neg e])⟩
theorem SI9.facts (h : SI9 w W m l N F) {j : Nat} (hj : j < N * 9) : W.cell? ⟨w.heap.size + 1, j, none⟩ = some (.int .i64 ((F j : Nat) : Int)) ∧ W.frozen? ⟨w.heap.size + 1, j, none⟩ = false := by
  refine ⟨h.sg.cell hj, ?_⟩
  obtain ⟨cs, hb, -, -⟩ := h.sg
  exact hb.frozen j
end
theorem si9_start (w : World) (m : Mach) (l : ML) (N : Nat) : SI9 w ((w.alloc (.cells (mcells m l) 25)).alloc (.cells (madeCells #[.int .i64 0, .int .i64 0, .int .i64 0, .int .i64 0, .int .i64 0, .int .i64 0, .int .i64 0, .int .i64 0, .int .i64 0] (N * 9)) 150)) m l N (fun _ => 0) := by
  refine ⟨((Below.refl _ _).alloc (Nat.le_refl _) _).alloc (by simp) _, (Blk.new w _ _).alloc _, ?_⟩
  have := Blk.new (w.alloc (.cells (mcells m l) 25)) 150 (madeCells #[.int .i64 0, .int .i64 0, .int .i64 0, .int .i64 0, .int .i64 0, .int .i64 0, .int .i64 0, .int .i64 0, .int .i64 0] (N * 9))
  rw [World.size_alloc] at this
  exact RowC.made9 this

theorem endC_step {E : List Int} {i k : Nat} (h : E[i]? = some (k : Int)) (j : Nat) : endC (E.take (i + 1)) j = if j = k * 9 then 1 else endC (E.take i) j := by
  have e : E.take (i + 1) = E.take i ++ [(k : Int)] := by rw [List.take_add_one, h]; rfl
  unfold endC
  rw [e]
  have hm : hasB (E.take i ++ [(k : Int)]) ((j / 9 : Nat) : Int) = true ↔ hasB (E.take i) ((j / 9 : Nat) : Int) = true ∨ j / 9 = k := by
    rw [hasB_iff, hasB_iff, List.mem_append, List.mem_singleton]
    exact or_congr Iff.rfl ⟨fun h => by omega, fun h => by omega⟩
  by_cases e1 : j = k * 9
  · rw [if_pos e1, if_pos ⟨by omega, hm.2 (.inr (by omega))⟩]
  · rw [if_neg e1]
    by_cases e2 : j % 9 = 0 ∧ hasB (E.take i) ((j / 9 : Nat) : Int) = true
    · rw [if_pos e2, if_pos ⟨e2.1, hm.2 (.inl e2.2)⟩]
    · rw [if_neg e2, if_neg (fun q => by
        rcases hm.1 q.2 with h1 | h1
        · exact e2 ⟨q.1, h1⟩
        · exact e1 (by have := q.1; omega))]

set_option maxRecDepth 100000 in
set_option maxHeartbeats 4000000 in
theorem endings_any (N : Nat) (ev : Int) (starts : List Int) (ars : List Arr) (ends : List Int) (a1 : Option Addr) (c1 : Nat) (a2 : Option Addr) (c2 : Nat) (a3 : Option Addr) (c3 : Nat) (w : World) (hN : N ≤ 256) (hel : ends.length ≤ 256) (h : Hid (At w a3 ends)) (hE : Hid (∀ x ∈ ends, 0 ≤ x ∧ x < (N : Int))) :
    Calls Tryd.prog 100 #[mval ⟨(N : Int), ev, starts, ars, ends⟩ ⟨a1, c1, a2, c2, a3, c3⟩] w fun e w' => e = .returned (.slice (some ⟨w.heap.size + 1, 0, none⟩) N N) ∧ RowC w' (w.heap.size + 1) 150 (N * 9) (fun j => .int .i64 ((endC ends j : Nat) : Int)) ∧ Below w.heap.size w w' := by
  have hmk := run_makeSigns N hN
  have S0 := Hid.of (si9_start w ⟨(N : Int), ev, starts, ars, ends⟩ ⟨a1, c1, a2, c2, a3, c3⟩ N)
  have x0 : (w.alloc (.cells (mcells ⟨(N : Int), ev, starts, ars, ends⟩ ⟨a1, c1, a2, c2, a3, c3⟩) 25)).cell? ⟨w.heap.size, 0, none⟩ = some (.int .i64 N) := (Blk.new w _ _).cell 0 rfl
  have x4 := S0.out.kb.cell 4 rfl
  go_enter Tryd.func100, Tryd.ntmps100
  go_wp2
  clear x0 x4 hmk
  revert S0
  generalize (w.alloc (.cells (mcells ⟨(N : Int), ev, starts, ars, ends⟩ ⟨a1, c1, a2, c2, a3, c3⟩) 25)).alloc (.cells (madeCells #[.int .i64 0, .int .i64 0, .int .i64 0, .int .i64 0, .int .i64 0, .int .i64 0, .int .i64 0, .int .i64 0, .int .i64 0] (N * 9)) 150) = W0
  intro S0
  go_loopw [12] (fun i wr => ∃ (n : Nat), i = .int .i64 n ∧ n ≤ ends.length ∧ Hid (SI9 w wr ⟨(N : Int), ev, starts, ars, ends⟩ ⟨a1, c1, a2, c2, a3, c3⟩ N (endC (ends.take n)))) (fun i _ => ends.length - (intOf i).toNat)
  case atStart => exact ⟨0, rfl, Nat.zero_le _, ⟨S0.out.low, S0.out.kb, S0.out.sg.congr (fun j hj => by simp [endC, hasB])⟩⟩
  case round =>
    clear S0
    obtain ⟨n, rfl, hnn, HS⟩ := hrel
    by_cases hlt : n < ends.length
    · rcases h.out.below HS.out.low (Nat.le_refl _) with h0 | ⟨b, off, ha, hb, hc⟩
      · rw [h0] at hlt; simp at hlt
      obtain ⟨x, hx⟩ : ∃ x, ends[n]? = some x := ⟨_, List.getElem?_eq_getElem hlt⟩
      have hxb := hE.out x (List.mem_of_getElem? hx)
      obtain ⟨k, rfl⟩ : ∃ k : Nat, x = (k : Int) := ⟨x.toNat, by omega⟩
      have hk : k < N := by omega
      have y0 := hc n hlt
      rw [List.getD_eq_getElem?_getD, hx, Option.getD_some] at y0
      obtain ⟨f1, f2⟩ := HS.out.facts (j := k * 9) (by omega)
      have HN : Hid _ := HS.out.set (j := k * 9) (by omega) 1 (F' := endC (ends.take (n + 1))) (fun i _ => endC_step hx i)
      obtain ⟨ov, hov⟩ : ∃ ov, Hid (ov = endC (ends.take n) (k * 9)) := ⟨_, rfl⟩
      rw [← hov.out] at f1
      subst ha
      clear hc hx HS hxb
      go_wp2_with fail
      go_roundw
      case rel => exact ⟨n + 1, by go_num, by omega, HN⟩
      case measure => simp [intOf]; omega
    · have e2 : n = ends.length := by omega
      subst e2
      rw [List.take_length] at HS
      go_wp2
      refine bodyPost_ret (v := .slice (some ⟨w.heap.size + 1, 0, none⟩) N N) (by simp [results, go_sem]) rfl ⟨rfl, HS.out.sg, HS.out.low⟩

/-- The signs on the way: what the first arrows give. -/
def midC (D : List Arr) (ev i : Nat) (c : Nat → Nat) (j : Nat) : Nat := if j % 9 = 0 then c (j / 9) else if j % 9 - 1 < ev ∧ j / 9 * ev + (j % 9 - 1) < i then c (toI D ((j / 9 : Nat) : Int) ((j % 9 - 1 : Nat) : Int)).toNat else 0
theorem midC_step {D : List Arr} {ev i f e t : Nat} {c : Nat → Nat} (he : e < ev) (h8 : ev ≤ 8) (hi : f * ev + e = i) (ht : toI D (f : Int) (e : Int) = (t : Int)) (j : Nat) : midC D ev (i + 1) c j = if j = f * 9 + 1 + e then c t else midC D ev i c j := by
  unfold midC
  by_cases e1 : j = f * 9 + 1 + e
  · have q1 : j % 9 = 1 + e := by omega
    have q2 : j / 9 = f := by omega
    rw [if_pos e1, q1, q2, if_neg (by omega), show 1 + e - 1 = e by omega, if_pos ⟨he, by omega⟩, ht, Int.toNat_natCast]
  · rw [if_neg e1]
    by_cases e2 : j % 9 = 0
    · rw [if_pos e2, if_pos e2]
    · rw [if_neg e2, if_neg e2]
      by_cases e3 : j % 9 - 1 < ev
      · have hne : ¬ (j / 9 * ev + (j % 9 - 1) = i) := fun q => by
          obtain ⟨r1, r2⟩ := code_inj e3 he (q.trans hi.symm)
          omega
        by_cases e4 : j / 9 * ev + (j % 9 - 1) < i
        · rw [if_pos ⟨e3, by omega⟩, if_pos ⟨e3, e4⟩]
        · rw [if_neg (fun q => by omega), if_neg (fun q => e4 q.2)]
      · rw [if_neg (fun q => e3 q.1), if_neg (fun q => e3 q.1)]
theorem midC_end {D : List Arr} {N ev : Nat} {c : Nat → Nat} {j : Nat} (hj : j < N * 9) : midC D ev (N * ev) c j = stepC D ev c j := by
  unfold midC stepC
  by_cases e2 : j % 9 = 0
  · rw [if_pos e2, if_pos e2]
  · rw [if_neg e2, if_neg e2]
    by_cases e3 : j % 9 - 1 < ev
    · rw [if_pos e3, if_pos ⟨e3, code_bd (by omega) e3⟩]
    · rw [if_neg e3, if_neg (fun q => e3 q.1)]

set_option maxRecDepth 100000 in
set_option maxHeartbeats 4000000 in
theorem signs_any (N ev : Nat) (starts : List Int) (ars : List Arr) (ends : List Int) (a1 : Option Addr) (c1 : Nat) (a2 : Option Addr) (c2 : Nat) (a3 : Option Addr) (c3 : Nat) (gk : Nat) (c : Nat → Nat) (w : World) (hN : N ≤ 256) (hev : ev ≤ 8) (hal : ars.length = N * ev) (h : Hid (AtA w a2 ars)) (hA : Hid (∀ f e : Nat, f < N → e < ev → ∃ t : Nat, ars[f * ev + e]? = some ⟨(f : Int), (e : Int), (t : Int)⟩ ∧ toI ars (f : Int) (e : Int) = (t : Int) ∧ t < N)) (hk : Hid (RowC w gk 3 N (fun x => .int .i64 ((c x : Nat) : Int)))) :
    Calls Tryd.prog 101 #[mval ⟨(N : Int), (ev : Int), starts, ars, ends⟩ ⟨a1, c1, a2, c2, a3, c3⟩, .slice (some ⟨gk, 0, none⟩) N N] w fun e w' => e = .returned (.slice (some ⟨w.heap.size + 1, 0, none⟩) N N) ∧ RowC w' (w.heap.size + 1) 150 (N * 9) (fun j => .int .i64 ((stepC ars ev c j : Nat) : Int)) ∧ Below w.heap.size w w' := by
  have hmk := run_makeSigns N hN
  have hgk := Hid.of hk.out.lt
  have HAL := Hid.of hal
  have hal2 : ars.length ≤ 2048 := by rw [hal]; exact Nat.mul_le_mul hN hev
  clear hal
  have S0 := Hid.of (si9_start w ⟨(N : Int), (ev : Int), starts, ars, ends⟩ ⟨a1, c1, a2, c2, a3, c3⟩ N)
  have x0 : (w.alloc (.cells (mcells ⟨(N : Int), (ev : Int), starts, ars, ends⟩ ⟨a1, c1, a2, c2, a3, c3⟩) 25)).cell? ⟨w.heap.size, 0, none⟩ = some (.int .i64 N) := (Blk.new w _ _).cell 0 rfl
  go_enter Tryd.func101, Tryd.ntmps101
  go_wp2
  clear x0 hmk
  revert S0
  generalize (w.alloc (.cells (mcells ⟨(N : Int), (ev : Int), starts, ars, ends⟩ ⟨a1, c1, a2, c2, a3, c3⟩) 25)).alloc (.cells (madeCells #[.int .i64 0, .int .i64 0, .int .i64 0, .int .i64 0, .int .i64 0, .int .i64 0, .int .i64 0, .int .i64 0, .int .i64 0] (N * 9)) 150) = W0
  intro S0
  go_loopw [15] (fun i wr => ∃ (n : Nat), i = .int .i64 n ∧ n ≤ N ∧ Hid (SI9 w wr ⟨(N : Int), (ev : Int), starts, ars, ends⟩ ⟨a1, c1, a2, c2, a3, c3⟩ N (fun j => if j % 9 = 0 ∧ j / 9 < n then c (j / 9) else 0))) (fun i _ => N - (intOf i).toNat)
  case atStart => exact ⟨0, rfl, Nat.zero_le _, ⟨S0.out.low, S0.out.kb, S0.out.sg.congr (fun j hj => by simp)⟩⟩
  case round =>
    clear S0
    obtain ⟨n, rfl, hnn, HS⟩ := hrel
    by_cases hlt : n < N
    · have y0 := (hk.out.below HS.out.low hgk.out).cell hlt
      obtain ⟨f1, f2⟩ := HS.out.facts (j := n * 9) (by omega)
      have HN : Hid _ := HS.out.set (j := n * 9) (by omega) (c n) (F' := fun j => if j % 9 = 0 ∧ j / 9 < n + 1 then c (j / 9) else 0) (fun i _ => by
        by_cases e1 : i = n * 9
        · have q1 : i / 9 = n := by omega
          rw [if_pos e1, q1, if_pos ⟨by omega, by omega⟩]
        · rw [if_neg e1]
          by_cases e2 : i % 9 = 0 ∧ i / 9 < n
          · rw [if_pos e2, if_pos ⟨e2.1, by omega⟩]
          · rw [if_neg e2, if_neg (fun q => by omega)])
      obtain ⟨ov, hov⟩ : ∃ ov, Hid (ov = (if n * 9 % 9 = 0 ∧ n * 9 / 9 < n then c (n * 9 / 9) else 0)) := ⟨_, rfl⟩
      rw [← hov.out] at f1
      clear HS
      go_wp2_with fail
      go_roundw
      case rel => exact ⟨n + 1, by go_num, by omega, HN⟩
      case measure => simp [intOf]; omega
    · have e2 : n = N := by omega
      subst e2
      have S1 : Hid (SI9 w wr ⟨(n : Int), (ev : Int), starts, ars, ends⟩ ⟨a1, c1, a2, c2, a3, c3⟩ n (midC ars ev 0 c)) := ⟨HS.out.low, HS.out.kb, HS.out.sg.congr (fun j hj => by
        unfold midC
        by_cases e1 : j % 9 = 0
        · rw [if_pos e1, if_pos ⟨e1, by omega⟩]
        · rw [if_neg e1, if_neg (fun q => e1 q.1), if_neg (fun q => by omega)])⟩
      have x3 := S1.out.kb.cell 3 rfl
      clear HS
      go_wp2_with fail
      clear x3
      go_loopw [29] (fun i wr => ∃ (k : Nat), i = .int .i64 k ∧ k ≤ ars.length ∧ Hid (SI9 w wr ⟨(n : Int), (ev : Int), starts, ars, ends⟩ ⟨a1, c1, a2, c2, a3, c3⟩ n (midC ars ev k c))) (fun i _ => ars.length - (intOf i).toNat)
      case atStart => exact ⟨0, rfl, Nat.zero_le _, S1⟩
      case round =>
        clear S1
        obtain ⟨k, rfl, hkk, HS⟩ := hrel
        by_cases hla : k < ars.length
        · rcases h.out.below HS.out.low (Nat.le_refl _) with h0 | ⟨b, off, ha, hb, hc⟩
          · rw [h0] at hla; simp at hla
          obtain ⟨q1, q2, q3⟩ := code_of (by rw [← HAL.out]; exact hla : k < n * ev)
          obtain ⟨f, hf⟩ : ∃ f, Hid (f = k / ev) := ⟨_, rfl⟩
          obtain ⟨e, he⟩ : ∃ e, Hid (e = k % ev) := ⟨_, rfl⟩
          rw [← hf.out] at q1 q3
          rw [← he.out] at q2 q3
          obtain ⟨t, t1, t2, t3⟩ := hA.out f e q1 q2
          rw [q3] at t1
          obtain ⟨a, HA, y0, y1, y2⟩ := hc.at hla
          have ea := HA.out
          rw [t1, Option.getD_some] at ea
          subst ea
          dsimp only at y0 y1 y2
          have B1 : Below wr.heap.size wr (wr.alloc (.cells #[.int .i64 (f : Int), .int .i64 (e : Int), .int .i64 (t : Int)] 54)) := (Below.refl _ _).alloc (Nat.le_refl _) _
          have H1 := HS.out.below B1
          have z0 := ((hk.out.below HS.out.low hgk.out).below B1 (Nat.lt_of_lt_of_le hgk.out HS.out.low.size)).cell t3
          have hfe : f * 9 + 1 + e < n * 9 := by omega
          obtain ⟨f1, f2⟩ := H1.facts hfe
          have HN : Hid _ := (H1.set hfe (c t) (F' := midC ars ev (k + 1) c) (fun i _ => midC_step q2 hev q3 t2 i)).below (Below.refl _ _).drew
          obtain ⟨ov, hov⟩ : ∃ ov, Hid (ov = midC ars ev k c (f * 9 + 1 + e)) := ⟨_, rfl⟩
          rw [← hov.out] at f1
          obtain ⟨ct, HCT⟩ : ∃ ct, Hid (ct = c t) := ⟨_, rfl⟩
          rw [← HCT.out] at z0 HN
          have hgl := hgk.out
          have hsl := HS.out.sg.lt
          have he8 : e < 8 := by omega
          have he8I : (e : Int) < 8 := by omega
          subst ha
          clear hc t1 t2 HS HA H1 B1
          have n0 : (wr.alloc (.cells #[.int .i64 (f : Int), .int .i64 (e : Int), .int .i64 (t : Int)] 54)).cell? ⟨wr.heap.size, 0, none⟩ = some (.int .i64 (f : Int)) := (Blk.new wr _ _).cell 0 rfl
          have n1 : (wr.alloc (.cells #[.int .i64 (f : Int), .int .i64 (e : Int), .int .i64 (t : Int)] 54)).cell? ⟨wr.heap.size, 1, none⟩ = some (.int .i64 (e : Int)) := (Blk.new wr _ _).cell 1 rfl
          have n2 : (wr.alloc (.cells #[.int .i64 (f : Int), .int .i64 (e : Int), .int .i64 (t : Int)] 54)).cell? ⟨wr.heap.size, 2, none⟩ = some (.int .i64 (t : Int)) := (Blk.new wr _ _).cell 2 rfl
          go_wp2_with fail
          clear y0 y1 y2
          revert f1 f2 z0 HN n0 n1 n2
          generalize wr.alloc (.cells #[.int .i64 (f : Int), .int .i64 (e : Int), .int .i64 (t : Int)] 54) = V
          intro f1 f2 z0 HN n0 n1 n2
          go_region_held3 (fun w' => w'.cell? ⟨wr.heap.size, 0, none⟩ = some (.int .i64 (f : Int)) ∧ w'.cell? ⟨wr.heap.size, 1, none⟩ = some (.int .i64 (e : Int)) ∧ w'.cell? ⟨wr.heap.size, 2, none⟩ = some (.int .i64 (t : Int)) ∧ w'.cell? ⟨gk, t, none⟩ = some (.int .i64 (ct : Int))) (first | exact ⟨keepC (by omega) n0, keepC (by omega) n1, keepC (by omega) n2, keepC (by omega) z0⟩ | go_keep) (fail)
          clear f1 f2 z0 n0 n1 n2
          revert HN
          generalize (V.setCell ⟨w.heap.size + 1, f * 9 + 1 + e, none⟩ (.int .i64 (ct : Int))).drew = Y
          intro HN
          go_wp2_with fail
          go_roundw
          case rel => exact ⟨k + 1, by go_num, by omega, HN⟩
          case measure => simp [intOf]; omega
        · have e2 : k = n * ev := by rw [← HAL.out]; omega
          have HF : Hid (RowC wr (w.heap.size + 1) 150 (n * 9) (fun j => .int .i64 ((stepC ars ev c j : Nat) : Int))) := by
            have := HS.out.sg
            rw [e2] at this
            exact this.congr (fun j hj => by rw [midC_end hj])
          clear e2
          go_wp2
          refine bodyPost_ret (v := .slice (some ⟨w.heap.size + 1, 0, none⟩) n n) (by simp [results, go_sem]) rfl ⟨rfl, HF.out, HS.out.low⟩

end Go.Proofs.YtkkkacmccndinaaDoor
namespace Go.Proofs.YtkkkacmccndinaaDoor
open Go.RowKit
set_option linter.unusedVariables false

section
variable {d : Mach} {N ev : Nat} {F : Nat → Nat}
theorem endC_le (E : List Int) (j : Nat) : endC E j ≤ 256 := by unfold endC; split <;> omega
theorem cls_le {σ : Type} [DecidableEq σ] (f : Nat → σ) (n x : Nat) : cls f n x ≤ n := Nat.le_trans (List.idxOf_le_length) (fnd_len f n)
theorem stepC_le {D : List Arr} {c : Nat → Nat} (h : ∀ x, c x ≤ 256) (j : Nat) : stepC D ev c j ≤ 256 := by
  unfold stepC
  split
  · exact h _
  · split
    · exact h _
    · omega
theorem kin_first (hN : d.st = (N : Int)) : SG d (cls (sigF (endC d.ends)) N) :=
  sg_first fun x y hx hy => (cls_iff _ (by omega) (by omega)).trans (endC_iff _ x y)
theorem kin_next (hd : detB d = true) (hN : d.st = (N : Int)) (hE : d.ev = (ev : Int)) (h8 : ev ≤ 8) {c : Nat → Nat} (h : SG d c) : SG d (cls (sigF (stepC d.arrows ev c)) N) :=
  sg_next hd h fun x y hx hy => (cls_iff _ (by omega) (by omega)).trans (stepC_iff hE h8 c x y)
theorem kin_len (hE : d.ev = (ev : Int)) (h8 : ev ≤ 8) (c : Nat → Nat) (n : Nat) : (fnd (sigF (stepC d.arrows ev c)) n).length = (fnd (sgn d c) n).length := fnd_same _ _ n fun x y _ _ => stepC_iff hE h8 c x y
theorem kin_same {σ : Type} [DecidableEq σ] (f : Nat → σ) (n : Nat) : (fnd (cls f n) n).length = (fnd f n).length := fnd_same _ _ n fun x y hx hy => cls_iff f hx hy
theorem kin_more (hE : d.ev = (ev : Int)) (h8 : ev ≤ 8) (f : Nat → List Nat) (n : Nat) : (fnd f n).length ≤ (fnd (sigF (stepC d.arrows ev (cls f n))) n).length := by
  rw [kin_len hE h8, ← kin_same f n]
  exact (fnd_fine (sgn d (cls f n)) (cls f n) n (fun x y _ _ e => (sgn_iff.1 e).1)).1
theorem kin_last (hd : detB d = true) (hN : d.st = (N : Int)) (hE : d.ev = (ev : Int)) (h8 : ev ≤ 8) {f : Nat → List Nat} (h : SG d (cls f N)) (hl : (fnd (sigF (stepC d.arrows ev (cls f N))) N).length = (fnd f N).length) : ∀ s t : Int, 0 ≤ s → s < d.st → 0 ≤ t → t < d.st → (decide (cls f N s.toNat ≠ cls f N t.toNat) = true ↔ langS d [s] ≠ langS d [t]) :=
  sg_last hd h hN.symm (by rw [kin_same, ← kin_len hE h8, hl])
end
/-- What kinds leaves. -/
def KinPost (w : World) (d : Mach) (N : Nat) (e : Ending) (w' : World) : Prop := ∃ (gk : Nat) (c : Nat → Nat), e = .returned (.slice (some ⟨gk, 0, none⟩) N N) ∧ RowC w' gk 3 N (fun x => .int .i64 ((c x : Nat) : Int)) ∧ Below w.heap.size w w' ∧ w.heap.size ≤ gk ∧ RGr c N ∧ (∀ s t : Int, 0 ≤ s → s < d.st → 0 ≤ t → t < d.st → (decide (c s.toNat ≠ c t.toNat) = true ↔ langS d [s] ≠ langS d [t]))

set_option maxRecDepth 100000 in
set_option maxHeartbeats 4000000 in
theorem kinds_any (N ev : Nat) (starts : List Int) (ars : List Arr) (ends : List Int) (a1 : Option Addr) (c1 : Nat) (a2 : Option Addr) (c2 : Nat) (a3 : Option Addr) (c3 : Nat) (w : World) (hN : N ≤ 256) (hev : ev ≤ 8) (hel : ends.length ≤ 256) (hal : Hid (ars.length = N * ev)) (hd : Hid (detB ⟨(N : Int), (ev : Int), starts, ars, ends⟩ = true)) (h : Hid (MAt w ⟨(N : Int), (ev : Int), starts, ars, ends⟩ ⟨a1, c1, a2, c2, a3, c3⟩)) (hE : Hid (∀ x ∈ ends, 0 ≤ x ∧ x < (N : Int))) (hA : Hid (∀ f e : Nat, f < N → e < ev → ∃ t : Nat, ars[f * ev + e]? = some ⟨(f : Int), (e : Int), (t : Int)⟩ ∧ toI ars (f : Int) (e : Int) = (t : Int) ∧ t < N)) :
    Calls Tryd.prog 74 #[mval ⟨(N : Int), (ev : Int), starts, ars, ends⟩ ⟨a1, c1, a2, c2, a3, c3⟩] w fun e w' => KinPost w ⟨(N : Int), (ev : Int), starts, ars, ends⟩ N e w' := by
  have B0 : Hid (Below w.heap.size w (w.alloc (.cells (mcells ⟨(N : Int), (ev : Int), starts, ars, ends⟩ ⟨a1, c1, a2, c2, a3, c3⟩) 25))) := (Below.refl _ _).alloc (Nat.le_refl _) _
  have K0 : Hid (Blk (w.alloc (.cells (mcells ⟨(N : Int), (ev : Int), starts, ars, ends⟩ ⟨a1, c1, a2, c2, a3, c3⟩) 25)) w.heap.size 25 (mcells ⟨(N : Int), (ev : Int), starts, ars, ends⟩ ⟨a1, c1, a2, c2, a3, c3⟩)) := Blk.new w _ _
  go_enter Tryd.func74, Tryd.ntmps74
  obtain ⟨x0, x1, x2, x3, x4⟩ := mcell_at K0.out
  dsimp only at x0 x1 x2 x3 x4
  go_wp2_with fail
  clear x0 x1 x2 x3 x4
  revert B0 K0
  generalize w.alloc (.cells (mcells ⟨(N : Int), (ev : Int), starts, ars, ends⟩ ⟨a1, c1, a2, c2, a3, c3⟩) 25) = V0
  intro B0 K0
  refine (endings_any N ev starts ars ends a1 c1 a2 c2 a3 c3 V0 hN hel (h.out.e.below B0.out (Nat.le_refl _)) hE).mono ?_
  rintro e V1 ⟨rfl, hR1, hb1⟩
  have HR1 := Hid.of hR1
  have B1 := Hid.of (B0.out.trans (hb1.mono B0.out.size))
  have K1 := Hid.of (K0.out.below hb1 K0.out.lt)
  clear hR1 hb1 B0 K0
  go_wp2_with fail
  refine (number_any (V0.heap.size + 1) N (endC ends) V1 hN HR1 (fun j => endC_le ends j)).mono ?_
  rintro e V2 ⟨rfl, hR2, hb2⟩
  have HR2 := Hid.of hR2
  have B2 := Hid.of (B1.out.trans (hb2.mono B1.out.size))
  have K2 := Hid.of (K1.out.below hb2 K1.out.lt)
  have S2 : Hid (SG ⟨(N : Int), (ev : Int), starts, ars, ends⟩ (cls (sigF (endC ends)) N)) := kin_first rfl
  have L2 : Hid (w.heap.size ≤ V1.heap.size + 1) := Nat.le_trans B1.out.size (Nat.le_succ _)
  clear hR2 hb2 B1 K1 HR1
  go_wp2_with fail
  go_loopw [3, 4] (fun v3 v4 wr => ∃ (gk K : Nat) (f : Nat → List Nat), v3 = .slice (some ⟨gk, 0, none⟩) N N ∧ v4 = .int .i64 (K : Int) ∧ Hid (K = (fnd f N).length) ∧ Hid (RowC wr gk 3 N (fun x => .int .i64 ((cls f N x : Nat) : Int))) ∧ Hid (Below w.heap.size w wr) ∧ Hid (Blk wr w.heap.size 25 (mcells ⟨(N : Int), (ev : Int), starts, ars, ends⟩ ⟨a1, c1, a2, c2, a3, c3⟩)) ∧ Hid (SG ⟨(N : Int), (ev : Int), starts, ars, ends⟩ (cls f N)) ∧ Hid (w.heap.size ≤ gk)) (fun _ v4 _ => N - (intOf v4).toNat)
  case atStart => exact ⟨V1.heap.size + 1, _, _, rfl, rfl, rfl, HR2, B2, K2, S2, L2⟩
  case round =>
    clear HR2 B2 K2 S2 L2
    obtain ⟨gk, K, f, rfl, rfl, HK, HR, HB, HM, HS, HL⟩ := hrel
    obtain ⟨x0, x1, x2, x3, x4⟩ := mcell_at HM.out
    dsimp only at x0 x1 x2 x3 x4
    go_wp2_with fail
    clear x0 x1 x2 x3 x4
    have hml := MAt.below h.out HB.out (Nat.le_refl _)
    refine (signs_any N ev starts ars ends a1 c1 a2 c2 a3 c3 gk (cls f N) wr hN hev hal.out hml.a hA HR).mono ?_
    rintro e V3 ⟨rfl, hR3, hb3⟩
    have HR3 := Hid.of hR3
    have B3 := Hid.of (HB.out.trans (hb3.mono HB.out.size))
    have K3 := Hid.of (HM.out.below hb3 HM.out.lt)
    have R3 := Hid.of (HR.out.below hb3 HR.out.lt)
    clear hR3 hb3 hml HB HM HR
    go_wp2_with fail
    refine (number_any (wr.heap.size + 1) N (stepC ars ev (cls f N)) V3 hN HR3 (fun j => stepC_le (fun x => Nat.le_trans (cls_le f N x) hN) j)).mono ?_
    rintro e V4 ⟨rfl, hR4, hb4⟩
    have HR4 := Hid.of hR4
    have B4 := Hid.of (B3.out.trans (hb4.mono B3.out.size))
    have K4 := Hid.of (K3.out.below hb4 K3.out.lt)
    have R4 := Hid.of (R3.out.below hb4 R3.out.lt)
    have L4 : Hid (w.heap.size ≤ V3.heap.size + 1) := Nat.le_trans B3.out.size (Nat.le_succ _)
    have S4 : Hid (SG ⟨(N : Int), (ev : Int), starts, ars, ends⟩ (cls (sigF (stepC ars ev (cls f N))) N)) := kin_next (d := ⟨(N : Int), (ev : Int), starts, ars, ends⟩) hd.out rfl rfl hev HS.out
    have hmore : (fnd f N).length ≤ (fnd (sigF (stepC ars ev (cls f N))) N).length := kin_more (d := ⟨(N : Int), (ev : Int), starts, ars, ends⟩) rfl hev f N
    have hfl := fnd_len (sigF (stepC ars ev (cls f N))) N
    obtain ⟨K', HK'⟩ : ∃ K', Hid (K' = (fnd (sigF (stepC ars ev (cls f N))) N).length) := ⟨_, rfl⟩
    rw [← HK'.out] at hmore hfl ⊢
    rw [← HK.out] at hmore
    clear hR4 hb4 B3 K3 R3 HR3
    by_cases heq : K' = K
    · have HFIN : Hid (∀ s t : Int, 0 ≤ s → s < (N : Int) → 0 ≤ t → t < (N : Int) → (decide (cls f N s.toNat ≠ cls f N t.toNat) = true ↔ langS ⟨(N : Int), (ev : Int), starts, ars, ends⟩ [s] ≠ langS ⟨(N : Int), (ev : Int), starts, ars, ends⟩ [t])) := kin_last (d := ⟨(N : Int), (ev : Int), starts, ars, ends⟩) hd.out rfl rfl hev HS.out (by rw [← HK.out, ← HK'.out, heq])
      have hbe : ((K' : Int) == (K : Int)) = true := by simp [heq]
      have heI : (K' : Int) = (K : Int) := by rw [heq]
      have HEQ := Hid.of heq
      clear heq
      go_wp2
      exact bodyPost_ret (v := .slice (some ⟨gk, 0, none⟩) N N) (by simp [results, go_sem]) rfl ⟨gk, cls f N, rfl, R4.out, B4.out, HL.out, (cls_rg f N).1, HFIN.out⟩
    · have hbe : ((K' : Int) == (K : Int)) = false := by simp; omega
      have heI : ¬ (K' : Int) = (K : Int) := by omega
      go_wp2_with fail
      go_roundw
      case rel => exact ⟨V3.heap.size + 1, K', _, rfl, rfl, HK', HR4, B4, K4, S4, L4⟩
      case measure => simp [intOf]; omega

end Go.Proofs.YtkkkacmccndinaaDoor
namespace Go.Proofs.YtkkkacmccndinaaDoor
open Go.RowKit
set_option linter.unusedVariables false

set_option maxHeartbeats 400000 in
theorem cmpNaN_any (x : Int) (w : World) : Calls Tryd.prog 122 #[.int .i64 x] w fun e w' => e = .returned (.bool false) ∧ w' = w := by
  go_enter Tryd.func122, Tryd.ntmps122
  go_wp2
  go_ret
  exact ⟨rfl, rfl⟩

set_option maxHeartbeats 400000 in
theorem slNaN_any (x : Int) (w : World) : Calls Tryd.prog 91 #[.int .i64 x] w fun e w' => e = .returned (.bool false) ∧ w' = w := by
  go_enter Tryd.func91, Tryd.ntmps91
  go_wp2
  go_ret
  exact ⟨rfl, rfl⟩

def lessBS (x y : Int) : Bool := decide (x < y)

set_option maxHeartbeats 400000 in
theorem less2_any (x y : Int) (w : World) : Calls Tryd.prog 90 #[.int .i64 x, .int .i64 y] w fun e w' => e = .returned (.bool (lessBS x y)) ∧ w' = w := by
  go_enter Tryd.func90, Tryd.ntmps90
  go_wp2_with (go_at_call 122; refine (cmpNaN_any x _).mono ?_; rintro e w' ⟨rfl, rfl⟩)
  go_ret
  exact ⟨rfl, rfl⟩

theorem inc_at {xs : List Int} (h : Inc xs) {p q : Nat} {x y : Int} (hp : xs[p]? = some x) (hq : xs[q]? = some y) (hpq : p < q) : x < y := by
  obtain ⟨p1, p2⟩ := List.getElem?_eq_some_iff.1 hp
  obtain ⟨q1, q2⟩ := List.getElem?_eq_some_iff.1 hq
  have := List.pairwise_iff_getElem.1 h p q p1 q1 hpq
  rwa [p2, q2] at this
theorem at_of {xs : List Int} {k : Nat} {x : Int} (h : k < xs.length) (hx : Hid (x = xs[k]?.getD 0)) : xs[k]? = some x := by
  rw [hx.out, List.getElem?_eq_getElem h]; rfl
theorem bs_found {xs : List Int} {n : Int} {k : Nat} (hi : Inc xs) (hk : xs[k]? = some n) : placeI xs n = (k : Int) := by
  obtain ⟨k1, k2⟩ := List.getElem?_eq_some_iff.1 hk
  have hm : n ∈ xs := by rw [← k2]; exact List.getElem_mem k1
  obtain ⟨j, hj⟩ := placeN_mem hm
  rw [placeI_of hj]
  have h2 := placeN_some hj
  rcases Nat.lt_trichotomy j k with h | h | h
  · have := inc_at hi h2 hk h; omega
  · rw [h]
  · have := inc_at hi hk h2 h; omega
theorem bs_has {xs : List Int} {n : Int} {k : Nat} (hk : xs[k]? = some n) : hasB xs n = true := by
  obtain ⟨k1, k2⟩ := List.getElem?_eq_some_iff.1 hk
  exact (hasB_iff _ _).2 (by rw [← k2]; exact List.getElem_mem k1)
theorem bs_none {xs : List Int} {n : Int} {i j : Nat} (hij : i = j) (hl : ∀ p x, p < i → xs[p]? = some x → x < n) (hu : ∀ p x, j ≤ p → xs[p]? = some x → n ≤ x) (hi : Inc xs) (hn : xs[i]? ≠ some n) : hasB xs n = false := by
  cases h : hasB xs n with
  | false => rfl
  | true =>
    exfalso
    obtain ⟨p, hp⟩ := List.getElem?_of_mem ((hasB_iff _ _).1 h)
    rcases Nat.lt_trichotomy p i with c | c | c
    · have := hl p n c hp; omega
    · subst c; exact hn hp
    · have hlt : i < xs.length := Nat.lt_trans c (List.getElem?_eq_some_iff.1 hp).1
      have h1 := hu i _ (by omega) (List.getElem?_eq_getElem hlt)
      have h2 := inc_at hi (List.getElem?_eq_getElem hlt) hp c
      omega

set_option maxHeartbeats 1000000 in
theorem bs_some (b off cap : Nat) (xs : List Int) (n : Int) (w : World) (hl : xs.length ≤ 4611686018427387903) (hc : Cells w b off xs) (hi : Hid (Inc xs)) :
    Calls Tryd.prog 56 #[.slice (some ⟨b, off, none⟩) xs.length cap, .int .i64 n] w fun e w' => ∃ k : Nat, e = .returned (.tuple #[.int .i64 k, .bool (hasB xs n)]) ∧ (hasB xs n = true → placeI xs n = (k : Int)) ∧ w' = w := by
  go_enter Tryd.func56, Tryd.ntmps56
  go_wp2
  go_loop [7, 8] (fun vi vj => ∃ i j : Nat, i ≤ j ∧ j ≤ xs.length ∧ vi = .int .i64 i ∧ vj = .int .i64 j ∧ Hid (∀ p x, p < i → xs[p]? = some x → x < n) ∧ Hid (∀ p x, j ≤ p → xs[p]? = some x → n ≤ x)) (fun vi vj => (intOf vj).toNat - (intOf vi).toNat)
  case atStart => exact ⟨0, xs.length, Nat.zero_le _, Nat.le_refl _, rfl, rfl, fun p x h => by omega, fun p x h hx => by have := (List.getElem?_eq_some_iff.1 hx).1; omega⟩
  case round =>
    obtain ⟨i, j, hij, hj, rfl, rfl, HL, HU⟩ := hrel
    by_cases hlt : i < j
    · have hh : (i + j) / 2 < xs.length := by omega
      obtain ⟨x, HX, hcx⟩ := hc.at hh
      by_cases hx : x < n
      · have d : lessBS x n = true := by simpa [lessBS] using hx
        have HH : Hid (x < n) := hx
        clear hx
        go_wp2_with (go_at_call 90; refine (less2_any x n _).mono ?_; rintro e w' ⟨rfl, rfl⟩)
        go_round
        case rel =>
          refine ⟨(i + j) / 2 + 1, j, by omega, hj, by go_num, rfl, fun p y hp hy => ?_, HU⟩
          have e1 := at_of hh HX
          have e2 := HH.out
          by_cases hpq : p < (i + j) / 2
          · have := inc_at hi.out hy e1 hpq; omega
          · have : p = (i + j) / 2 := by omega
            subst this
            rw [e1] at hy; cases hy; exact e2
        case measure => simp [intOf]; omega
      · have d : lessBS x n = false := by simpa [lessBS] using hx
        have HH : Hid (¬ x < n) := hx
        clear hx
        go_wp2_with (go_at_call 90; refine (less2_any x n _).mono ?_; rintro e w' ⟨rfl, rfl⟩)
        go_round
        case rel =>
          refine ⟨i, (i + j) / 2, by omega, by omega, rfl, by go_num, HL, fun p y hp hy => ?_⟩
          have e1 := at_of hh HX
          have e2 := HH.out
          by_cases hpq : (i + j) / 2 < p
          · have := inc_at hi.out e1 hy hpq; omega
          · have : p = (i + j) / 2 := by omega
            subst this
            rw [e1] at hy; cases hy; omega
        case measure => simp [intOf]; omega
    · have hE : Hid (i = j) := show i = j by omega
      by_cases hil : i < xs.length
      · obtain ⟨x, HX, hcx⟩ := hc.at hil
        have HY := Hid.of (at_of hil HX)
        by_cases hx : x = n
        · subst hx
          go_wp2_with (go_at_call 91; refine (slNaN_any _ _).mono ?_; rintro e w' ⟨rfl, rfl⟩)
          go_ret2
          exact ⟨i, by rw [bs_has HY.out]; rfl, fun _ => bs_found hi.out HY.out, rfl⟩
        · have d : (x == n) = false := by simpa using hx
          have HH : Hid (¬ x = n) := hx
          clear hx
          go_wp2_with (go_at_call 91; refine (slNaN_any _ _).mono ?_; rintro e w' ⟨rfl, rfl⟩)
          go_ret2
          have hf := bs_none hE.out HL.out HU.out hi.out (by rw [HY.out]; intro h; exact HH.out (Option.some.inj h))
          exact ⟨i, by rw [hf]; rfl, fun h => (by rw [hf] at h; cases h), rfl⟩
      · have hf := Hid.of (bs_none hE.out HL.out HU.out hi.out (by rw [List.getElem?_eq_none (by omega)]; intro h; cases h))
        go_wp2
        go_ret2
        exact ⟨i, by rw [hf.out]; rfl, fun h => (by rw [hf.out] at h; cases h), rfl⟩

set_option maxHeartbeats 400000 in
theorem bs_nil (a : Option Addr) (cap : Nat) (n : Int) (w : World) :
    Calls Tryd.prog 56 #[.slice a 0 cap, .int .i64 n] w fun e w' => ∃ k : Nat, e = .returned (.tuple #[.int .i64 k, .bool (hasB [] n)]) ∧ (hasB [] n = true → placeI [] n = (k : Int)) ∧ w' = w := by
  go_enter Tryd.func56, Tryd.ntmps56
  go_wp2
  refine wp_loop_rounds 1 ?_
  rw [rounds_succ]
  go_wp2
  go_ret2
  exact ⟨0, rfl, fun h => (by cases h), rfl⟩

theorem bs_any (a : Option Addr) (cap : Nat) (xs : List Int) (n : Int) (w : World) (hs : At w a xs) (hl : xs.length ≤ 4611686018427387903) (hi : Inc xs) :
    Calls Tryd.prog 56 #[.slice a xs.length cap, .int .i64 n] w fun e w' => ∃ k : Nat, e = .returned (.tuple #[.int .i64 k, .bool (hasB xs n)]) ∧ (hasB xs n = true → placeI xs n = (k : Int)) ∧ w' = w := by
  rcases hs with rfl | ⟨b, off, rfl, -, hc⟩
  · exact bs_nil a cap n w
  · exact bs_some b off cap xs n w hl hc hi

end Go.Proofs.YtkkkacmccndinaaDoor
namespace Go.Proofs.YtkkkacmccndinaaDoor
open Go.RowKit
set_option linter.unusedVariables false

set_option maxHeartbeats 400000 in
theorem renumber_any (a : Option Addr) (len cap : Nat) (w : World) :
    Calls Tryd.prog 86 #[.slice a len cap] w fun e w' => e = .returned (.func (.func 111) #[] #[.pointer (some ⟨w.heap.size, 0, none⟩)]) ∧ w' = w.alloc (.cells #[.slice a len cap] 22) := by
  have hmf : ∀ (fn : Fn) (first cap : Array Value) (w : World), (Instr.makeFunc fn first cap).run Tryd.prog w = .ok (.func fn first cap) w := fun _ _ _ _ => rfl
  go_enter Tryd.func86, Tryd.ntmps86
  go_wp2
  go_ret
  exact ⟨rfl, rfl⟩

set_option maxHeartbeats 400000 in
theorem anew_any (B : Nat) (a : Option Addr) (cap : Nat) (xs : List Int) (n : Int) (w : World) (hb : w.cell? ⟨B, 0, none⟩ = some (.slice a xs.length cap)) (hs : Hid (At w a xs)) (hl : Hid (xs.length ≤ 4611686018427387903)) (hi : Hid (Inc xs)) :
    Calls Tryd.prog 111 #[.int .i64 n, .pointer (some ⟨B, 0, none⟩)] w fun e w' => ∃ k : Nat, e = .returned (.tuple #[.int .i64 k, .bool (hasB xs n)]) ∧ (hasB xs n = true → placeI xs n = (k : Int)) ∧ w' = w := by
  go_enter Tryd.func111, Tryd.ntmps111
  go_wp2_with (go_at_call 56; refine (bs_any a cap xs n _ hs.out hl.out hi.out).mono ?_; rintro e w' ⟨k, rfl, hk, rfl⟩)
  go_ret2
  exact ⟨k, rfl, hk, rfl⟩

theorem anew_in {xs : List Int} {n : Int} {k : Nat} (h : hasB xs n = true) (hk : hasB xs n = true → placeI xs n = (k : Int)) : 0 ≤ placeI xs n ∧ placeI xs n = (k : Int) := by
  have := hk h; omega
theorem anew_out {xs : List Int} {n : Int} (h : hasB xs n = false) : ¬ 0 ≤ placeI xs n := fun h0 => by
  have := (hasB_iff xs n).2 ((placeI_nn _ _).1 h0)
  rw [h] at this; cases this

set_option maxRecDepth 100000 in
set_option maxHeartbeats 2000000 in
theorem rowAnew_some (B : Nat) (la : Option Addr) (lc b off cap : Nat) (l ss : List Int) (w : World) (hB : B < w.heap.size) (hbx : w.cell? ⟨B, 0, none⟩ = some (.slice la l.length lc)) (hat : At w la l) (hll : l.length ≤ 4611686018427387903) (hinc : Inc l) (hl : ss.length ≤ 17592186044416) (hb : b < w.heap.size) (hc : Cells w b off ss) :
    Calls Tryd.prog 87 #[.slice (some ⟨b, off, none⟩) ss.length cap, .func (.func 111) #[] #[.pointer (some ⟨B, 0, none⟩)]] w fun e w' => GivesO w (placesL l ss) e w' := by
  obtain ⟨i0, hi, hz0, hz1, hz2⟩ := info_parts Tryd.infoInt
  have HL : Hid (l.length ≤ 4611686018427387903) := hll
  have HI : Hid (Inc l) := hinc
  have HA0 : Hid (At w la l) := hat
  clear hll hat hinc
  go_enter Tryd.func87, Tryd.ntmps87
  go_wp2
  go_loopw [5, 12] (fun v i wr => ∃ k : Nat, k ≤ ss.length ∧ i = .int .i64 k ∧ Own wr w.heap.size v (placesL l (ss.take k)) ∧ Below w.heap.size w wr) (fun _ i _ => ss.length - (intOf i).toNat)
  case atStart => exact ⟨0, Nat.zero_le _, rfl, own_nil _ _, Below.refl _ _⟩
  case round =>
    obtain ⟨k, hk, rfl, hown, hbel⟩ := hrel
    have hsz := hbel.size
    by_cases hlt : k < ss.length
    · obtain ⟨x, HX, y0⟩ := hc.at hlt
      have y0' := (hbel.cell (p := ⟨b, off + k, none⟩) hb).trans y0
      have hbx' := (hbel.cell (p := ⟨B, 0, none⟩) hB).trans hbx
      clear y0
      have hlw := placesL_len l (ss.take k)
      rw [List.length_take] at hlw
      have HN : Hid (placesL l (ss.take (k + 1)) = if 0 ≤ placeI l x then placesL l (ss.take k) ++ [placeI l x] else placesL l (ss.take k)) := placesL_take hlt HX
      have HAT : Hid (At wr la l) := HA0.out.below hbel (Nat.le_refl _)
      go_wp2_with fail
      refine (anew_any B la lc l x _ hbx' HAT HL HI).mono ?_
      rintro e w1 ⟨q, rfl, hq, rfl⟩
      by_cases d : hasB l x = true
      · obtain ⟨d1, d2⟩ := anew_in d hq
        have HR : Hid (placesL l (ss.take (k + 1)) = placesL l (ss.take k) ++ [(q : Int)]) := by show _ = _; rw [HN.out, if_pos d1, d2]
        clear HN hq d1 d2
        rw [d]
        go_wp2_with (at_builtin; refine wpList_append_own _ rfl _ _ 22 rfl w.heap.size 3 i0 (.int .i64 0) 1 8 Tryd.underlying22 hi hz0 hz1 hz2 rfl (by decide) _ _ _ rfl (World.ownsRow.alloc hown _) ⟨_, 0, none⟩ 1 1 [.int .i64 (q : Int)] rfl rfl (cell_one_new _ _ _) (by intro u hu; simp at hu; subst hu; rfl) (by unfold maxLen; omega) (by omega) (by simp; omega) ?_)
        intro v' w2 hown' hgrow _
        obtain ⟨r1, r2, -⟩ := own_snoc hown hbel (by omega) hown' hgrow
        rw [← HR.out] at r1
        clear hown' hgrow hown
        go_wp2
        go_roundw
        case rel => exact ⟨k + 1, by omega, by go_num, r1, r2⟩
        case measure => simp [intOf]; omega
      · have d : hasB l x = false := by simpa using d
        have HR : Hid (placesL l (ss.take (k + 1)) = placesL l (ss.take k)) := by show _ = _; rw [HN.out, if_neg (anew_out d)]
        clear HN hq
        have r1 := hown
        rw [← HR.out] at r1
        rw [d]
        go_wp2
        go_roundw
        case rel => exact ⟨k + 1, by omega, by go_num, r1, hbel⟩
        case measure => simp [intOf]; omega
    · rw [List.take_of_length_le (by omega)] at hown
      go_wp2
      go_ret
      exact ⟨_, rfl, hown, hbel⟩

set_option maxHeartbeats 400000 in
theorem rowAnew_nil (B : Nat) (a : Option Addr) (cap : Nat) (l : List Int) (w : World) :
    Calls Tryd.prog 87 #[.slice a 0 cap, .func (.func 111) #[] #[.pointer (some ⟨B, 0, none⟩)]] w fun e w' => GivesO w (placesL l []) e w' := by
  go_enter Tryd.func87, Tryd.ntmps87
  go_wp2
  refine wp_loop_rounds 1 ?_
  rw [rounds_succ]
  go_wp2
  go_ret
  exact ⟨_, rfl, own_nil _ _, Below.refl _ _⟩

theorem rowAnew_any (B : Nat) (la a : Option Addr) (lc cap : Nat) (l ss : List Int) (w : World) (hB : B < w.heap.size) (hbx : w.cell? ⟨B, 0, none⟩ = some (.slice la l.length lc)) (hat : At w la l) (hll : l.length ≤ 4611686018427387903) (hinc : Inc l) (hs : At w a ss) (hl : ss.length ≤ 17592186044416) :
    Calls Tryd.prog 87 #[.slice a ss.length cap, .func (.func 111) #[] #[.pointer (some ⟨B, 0, none⟩)]] w fun e w' => GivesO w (placesL l ss) e w' := by
  rcases hs with rfl | ⟨b, off, rfl, hb, hc⟩
  · exact rowAnew_nil B a cap l w
  · exact rowAnew_some B la lc b off cap l ss w hB hbx hat hll hinc hl hb hc

end Go.Proofs.YtkkkacmccndinaaDoor
namespace Go.Proofs.YtkkkacmccndinaaDoor
open Go.RowKit
set_option linter.unusedVariables false

theorem Own.kept {w w' : World} {B B' : Nat} {v : Value} {L : List Int} (h : Own w B v L) (hb : Below B' w w') (hB : w.heap.size ≤ B') : Own w' B v L := by
  refine ⟨h.1, ?_⟩
  rcases h.2 with hn | ⟨g, cap, cur, rfl, hg, hgg, rest⟩
  · exact .inl hn
  · exact .inr ⟨g, cap, cur, rfl, hg, (hb.block g (Nat.lt_of_lt_of_le (Array.getElem?_eq_some_iff.1 hgg).1 hB)).trans hgg, rest⟩

theorem AtX.set5 {w : World} {r bn : Nat} {a : Option Addr} {xs : List Int} (h : AtX w r bn a xs) (v0 v1 v2 v3 v4 : Value) : AtX (((((w.setCell ⟨bn, 0, none⟩ v0).setCell ⟨bn, 1, none⟩ v1).setCell ⟨bn, 2, none⟩ v2).setCell ⟨bn, 3, none⟩ v3).setCell ⟨bn, 4, none⟩ v4) r bn a xs :=
  ((((h.set v0).set v1).set v2).set v3).set v4
/-- Where a slice lies, and its room. -/
structure AtC (w : World) (r bn : Nat) (a : Option Addr) (c : Nat) (xs : List Int) : Prop where
  at' : AtX w r bn a xs
  c1 : xs.length ≤ c
  c2 : c ≤ maxLen
  c3 : a = none → c = 0
  lo : xs = [] ∨ ∃ b off, a = some ⟨b, off, none⟩ ∧ r < b
theorem own_atC {w : World} {B n c : Nat} {a : Option Addr} {xs : List Int} (h : Own w B (.slice a n c) xs) (r bn : Nat) (hr : r < B) (hn : bn < B ∨ w.heap.size ≤ bn) : AtC w r bn a c xs := by
  obtain ⟨a', c', e, h1, h2, h3, h4⟩ := own_atX h r bn hr hn
  cases e
  refine ⟨h1, h2, h3, h4, ?_⟩
  rcases h.cells_of with ⟨-, h0⟩ | ⟨g, cap, h0, h5, -, -, -⟩
  · exact .inl h0
  · cases h0; exact .inr ⟨g, 0, rfl, by omega⟩
theorem AtC.below {w w' : World} {r bn c : Nat} {a : Option Addr} {xs : List Int} (h : AtC w r bn a c xs) (hb : Below w.heap.size w w') : AtC w' r bn a c xs := ⟨h.at'.below hb, h.c1, h.c2, h.c3, h.lo⟩
theorem AtC.set5 {w : World} {r bn c : Nat} {a : Option Addr} {xs : List Int} (h : AtC w r bn a c xs) (v0 v1 v2 v3 v4 : Value) : AtC (((((w.setCell ⟨bn, 0, none⟩ v0).setCell ⟨bn, 1, none⟩ v1).setCell ⟨bn, 2, none⟩ v2).setCell ⟨bn, 3, none⟩ v3).setCell ⟨bn, 4, none⟩ v4) r bn a c xs := ⟨h.at'.set5 v0 v1 v2 v3 v4, h.c1, h.c2, h.c3, h.lo⟩
abbrev ocells (M ev : Int) (sa : Option Addr) (sn sc : Nat) (v : Value) (ea : Option Addr) (en ec : Nat) : Array Value := #[.int .i64 M, .int .i64 ev, .slice sa sn sc, v, .slice ea en ec]
/-- What the walk knows where the machine has been laid out. -/
structure PI (w V W : World) (b6 : Nat) (m : Mach) (T : List Int) (M : Int) (sa : Option Addr) (sc : Nat) (ea : Option Addr) (ec : Nat) : Prop where
  out : Blk W b6 25 (ocells M m.ev sa (placesL T m.starts).length sc (.slice none 0 0) ea (placesL T m.ends).length ec)
  bel : Below V.heap.size V W
  lo : V.heap.size ≤ b6
  aS : AtC W (w.heap.size + 1) b6 sa sc (placesL T m.starts)
  aE : AtC W (w.heap.size + 1) b6 ea ec (placesL T m.ends)

theorem Kp.atC {bn r c : Nat} {X W : World} {a : Option Addr} {xs : List Int} (h : Kp bn X W) (ha : AtC X r bn a c xs) : AtC W r bn a c xs := by
  refine ⟨?_, ha.c1, ha.c2, ha.c3, ha.lo⟩
  rcases ha.at' with h0 | ⟨b, off, h1, h2, h3, h4⟩
  · exact .inl h0
  · exact .inr ⟨b, off, h1, h2, Nat.lt_of_lt_of_le h3 h.size, fun j hj => (World.cell?_of_block (w := X) (h.same b h3 h2.1)).trans (h4 j hj)⟩
theorem AtC.setr5 {w : World} {r bn c : Nat} {a : Option Addr} {xs : List Int} (h : AtC w r bn a c xs) (v0 v1 v2 v3 v4 : Value) : AtC (((((w.setCell ⟨r, 0, none⟩ v0).setCell ⟨r, 1, none⟩ v1).setCell ⟨r, 2, none⟩ v2).setCell ⟨r, 3, none⟩ v3).setCell ⟨r, 4, none⟩ v4) r bn a c xs :=
  ⟨((((h.at'.setr v0).setr v1).setr v2).setr v3).setr v4, h.c1, h.c2, h.c3, h.lo⟩
theorem OwnA.set {W : World} {B b j : Nat} {v : Value} {L : List Arr} (h : OwnA W B v L) (hb : b < B) (x : Value) : OwnA (W.setCell ⟨b, j, none⟩ x) B v L := by
  refine ⟨h.1, ?_⟩
  rcases h.2 with hn | ⟨g, cap, cur, rfl, hg, hgg, rest⟩
  · exact .inl hn
  · exact .inr ⟨g, cap, cur, rfl, hg, (Below.heap_setCell W ⟨b, j, none⟩ x g (by show g ≠ b; omega)).trans hgg, rest⟩
theorem OwnA.set5 {W : World} {B b : Nat} {v : Value} {L : List Arr} (h : OwnA W B v L) (hb : b < B) (v0 v1 v2 v3 v4 : Value) : OwnA (((((W.setCell ⟨b, 0, none⟩ v0).setCell ⟨b, 1, none⟩ v1).setCell ⟨b, 2, none⟩ v2).setCell ⟨b, 3, none⟩ v3).setCell ⟨b, 4, none⟩ v4) B v L :=
  ((((h.set hb v0).set hb v1).set hb v2).set hb v3).set hb v4

/-- What holds from round to round: the machine's block, its arrows so far. -/
structure PL (w X W : World) (b6 : Nat) (m : Mach) (T : List Int) (M : Int) (sa : Option Addr) (sc : Nat) (ea : Option Addr) (ec : Nat) (v : Value) (L : List Arr) : Prop where
  out : Blk W b6 25 (ocells M m.ev sa (placesL T m.starts).length sc v ea (placesL T m.ends).length ec)
  own : OwnA W X.heap.size v L
  kp : Kp b6 X W
  bel : Below w.heap.size w W
theorem PL.alloc {w X W : World} {b6 : Nat} {m : Mach} {T : List Int} {M : Int} {sa : Option Addr} {sc : Nat} {ea : Option Addr} {ec : Nat} {v : Value} {L : List Arr} (h : PL w X W b6 m T M sa sc ea ec v L) (o : Obj) : PL w X (W.alloc o) b6 m T M sa sc ea ec v L :=
  ⟨h.out.alloc o, World.ownsRow.alloc h.own o, h.kp.alloc o, h.bel.alloc h.bel.size o⟩
/-- One arrow more. -/
theorem PL.grow {w X W W' : World} {b6 : Nat} {m : Mach} {T : List Int} {M : Int} {sa : Option Addr} {sc : Nat} {ea : Option Addr} {ec : Nat} {v v' : Value} {L L' : List Arr} {o o' : Obj} (h : PL w X W b6 m T M sa sc ea ec v L) (hlo : w.heap.size ≤ b6) (hX : b6 < X.heap.size) (hown : OwnA W' X.heap.size v' L') (g : ((W.alloc o).alloc o').grownBy W' v.ownBlock) :
    Blk W' b6 25 (ocells M m.ev sa (placesL T m.starts).length sc v ea (placesL T m.ends).length ec) ∧ PL w X (W'.setCell ⟨b6, 3, none⟩ v') b6 m T M sa sc ea ec v' L' := by
  have h2 := (h.alloc o).alloc o'
  have hr : ∀ j, v.ownBlock = some j → X.heap.size ≤ j := fun j hj => (World.ownsRow.lt h.own j hj).1
  have b1 : Blk W' b6 25 (ocells M m.ev sa (placesL T m.starts).length sc v ea (placesL T m.ends).length ec) := (g.block b6 h2.out.lt (fun e => by have := hr b6 e.symm; omega)).trans h2.out
  have hwX : w.heap.size ≤ X.heap.size := Nat.le_trans hlo (Nat.le_of_lt hX)
  refine ⟨b1, b1.set 3 v', hown.set hX v', (h2.kp.grown g hr).set 3 v', ?_⟩
  exact (h2.bel.grown g h2.bel.size (fun j hj => Nat.le_trans hwX (hr j hj))).setCell (p := ⟨b6, 3, none⟩) hlo v'

/-- A machine's slices lie from block B on. -/
structure FrM (B : Nat) (m : Mach) (l : ML) : Prop where
  s : m.starts = [] ∨ ∃ b off, l.a1 = some ⟨b, off, none⟩ ∧ B ≤ b
  a : m.arrows = [] ∨ ∃ b off, l.a2 = some ⟨b, off, none⟩ ∧ B ≤ b
  e : m.ends = [] ∨ ∃ b off, l.a3 = some ⟨b, off, none⟩ ∧ B ≤ b
theorem At.set {w : World} {a : Option Addr} {xs : List Int} {B b j : Nat} (h : At w a xs) (hf : xs = [] ∨ ∃ b off, a = some ⟨b, off, none⟩ ∧ B ≤ b) (hb : b < B) (v : Value) : At (w.setCell ⟨b, j, none⟩ v) a xs := by
  rcases h with h | ⟨g, off, h1, h2, h3⟩
  · exact .inl h
  · rcases hf with hf | ⟨g', off', h1', h4⟩
    · exact .inl hf
    · rw [h1] at h1'; cases h1'
      exact .inr ⟨g, off, h1, by rw [size_set]; exact h2, fun i hi => (World.cell?_of_block (w := w) (Below.heap_setCell w ⟨b, j, none⟩ v g (by show g ≠ b; omega))).trans (h3 i hi)⟩
theorem AtA.set {w : World} {a : Option Addr} {xs : List Arr} {B b j : Nat} (h : AtA w a xs) (hf : xs = [] ∨ ∃ b off, a = some ⟨b, off, none⟩ ∧ B ≤ b) (hb : b < B) (v : Value) : AtA (w.setCell ⟨b, j, none⟩ v) a xs := by
  rcases h with h | ⟨g, off, h1, h2, h3⟩
  · exact .inl h
  · rcases hf with hf | ⟨g', off', h1', h4⟩
    · exact .inl hf
    · rw [h1] at h1'; cases h1'
      have e : ∀ q, (w.setCell ⟨b, j, none⟩ v).cell? ⟨g, q, none⟩ = w.cell? ⟨g, q, none⟩ := fun q => World.cell?_of_block (w := w) (Below.heap_setCell w ⟨b, j, none⟩ v g (by show g ≠ b; omega))
      exact .inr ⟨g, off, h1, by rw [size_set]; exact h2, fun i hi => by rw [e, e, e]; exact h3 i hi⟩
theorem MAt.set {w : World} {m : Mach} {l : ML} {B b j : Nat} (h : MAt w m l) (hf : FrM B m l) (hb : b < B) (v : Value) : MAt (w.setCell ⟨b, j, none⟩ v) m l :=
  ⟨h.s.set hf.s hb v, h.a.set hf.a hb v, h.e.set hf.e hb v, h.s1, h.s2, h.s3, h.a1, h.a2, h.a3, h.e1, h.e2, h.e3⟩
theorem MAt.set5 {w : World} {m : Mach} {l : ML} {B b : Nat} (h : MAt w m l) (hf : FrM B m l) (hb : b < B) (v0 v1 v2 v3 v4 : Value) : MAt (((((w.setCell ⟨b, 0, none⟩ v0).setCell ⟨b, 1, none⟩ v1).setCell ⟨b, 2, none⟩ v2).setCell ⟨b, 3, none⟩ v3).setCell ⟨b, 4, none⟩ v4) m l :=
  ((((h.set hf hb v0).set hf hb v1).set hf hb v2).set hf hb v3).set hf hb v4
theorem At.set5 {w : World} {a : Option Addr} {xs : List Int} {B b : Nat} (h : At w a xs) (hf : xs = [] ∨ ∃ b off, a = some ⟨b, off, none⟩ ∧ B ≤ b) (hb : b < B) (v0 v1 v2 v3 v4 : Value) : At (((((w.setCell ⟨b, 0, none⟩ v0).setCell ⟨b, 1, none⟩ v1).setCell ⟨b, 2, none⟩ v2).setCell ⟨b, 3, none⟩ v3).setCell ⟨b, 4, none⟩ v4) a xs :=
  ((((h.set hf hb v0).set hf hb v1).set hf hb v2).set hf hb v3).set hf hb v4
theorem Own.fr {w : World} {B n c : Nat} {a : Option Addr} {xs : List Int} (h : Own w B (.slice a n c) xs) : xs = [] ∨ ∃ b off, a = some ⟨b, off, none⟩ ∧ B ≤ b := by
  rcases h.cells_of with ⟨-, h0⟩ | ⟨g, cap, h0, h5, -, -, -⟩
  · exact .inl h0
  · cases h0; exact .inr ⟨g, 0, rfl, h5⟩
theorem OwnA.fr {w : World} {B n c : Nat} {a : Option Addr} {xs : List Arr} (h : OwnA w B (.slice a n c) xs) : xs = [] ∨ ∃ b off, a = some ⟨b, off, none⟩ ∧ B ≤ b := by
  rcases h.forms with ⟨-, h0⟩ | ⟨g, cap, h0, h5, -⟩
  · exact .inl h0
  · cases h0; exact .inr ⟨g, 0, rfl, h5⟩
theorem fr_mono {a : Option Addr} {n : Prop} {B B' : Nat} (h : n ∨ ∃ b off, a = some ⟨b, off, none⟩ ∧ B ≤ b) (hB : B' ≤ B) : n ∨ ∃ b off, a = some ⟨b, off, none⟩ ∧ B' ≤ b := by
  rcases h with h | ⟨b, off, h1, h2⟩
  · exact .inl h
  · exact .inr ⟨b, off, h1, by omega⟩

/-- The machine of those states that stay. -/
def partM (m : Mach) (T : List Int) (M : Int) : Mach := ⟨M, m.ev, placesL T m.starts, trimA T m.arrows, placesL T m.ends⟩

end Go.Proofs.YtkkkacmccndinaaDoor
