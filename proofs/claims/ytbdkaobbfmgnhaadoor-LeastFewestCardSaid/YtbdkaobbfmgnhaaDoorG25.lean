/-
  The walks of least.endings and least.signs: what is known of each state.
  The walk of least.kinds: which states are of one kind.
  The walk of least.fold: the machine whose states are the kinds.
  The walk of least.fold.
  What least.refuse tells; what least.Least leaves where it refuses; what is folded is the least machine.
-/
import Derived.Test.YtbdkaobbfmgnhaaDoorG24
import Derived.Test.YtbdkaobbfmgnhaaDoorG21
import Derived.Test.YtbdkaobbfmgnhaaDoorG20
import Derived.Test.YtbdkaobbfmgnhaaDoorG08
import Derived.Test.YtbdkaobbfmgnhaaDoorG23
import Derived.Test.YtbdkaobbfmgnhaaDoorG10
import Derived.Test.YtbdkaobbfmgnhaaDoorG12
namespace Go.Proofs.YtbdkaobbfmgnhaaDoor
open Go.RowKit
set_option linter.unusedVariables false

theorem Tryd.infoSign : (Tryd.prog.info? 175).map (fun i => (i.zero, i.size, i.bytes)) = some (some (.agg #[.int .i64 0, .int .i64 0, .int .i64 0, .int .i64 0, .int .i64 0, .int .i64 0, .int .i64 0, .int .i64 0, .int .i64 0]), 9, 72) := by kernel_rfl
theorem RowC.made9 {W : World} {b n : Nat} {t : TypeId} {x : Value} (h : Blk W b t (madeCells #[x, x, x, x, x, x, x, x, x] n)) : RowC W b t n (fun _ => x) := by
  refine ⟨_, h, by simp [madeCells], fun j hj => ?_⟩
  simp only [madeCells, Array.getElem?_map, Array.getElem?_range, hj, if_true, Option.map_some, Option.some.injEq]
  have h9 : j % 9 < 9 := by omega
  have : ∀ i, i < 9 → (#[x, x, x, x, x, x, x, x, x] : Array Value)[i]! = x := fun i hi => by
    match i, hi with
    | 0, _ | 1, _ | 2, _ | 3, _ | 4, _ | 5, _ | 6, _ | 7, _ | 8, _ => rfl
    | i + 9, hi => omega
  exact this (j % 9) h9
theorem run_makeSigns (N : Nat) (hN : N ≤ 256) : ∀ w : World, (Instr.makeSlice 152 (.int .i64 N) (.int .i64 N)).run Tryd.prog w = .ok (.slice (some ⟨w.heap.size, 0, none⟩) N N) (w.alloc (.cells (madeCells #[.int .i64 0, .int .i64 0, .int .i64 0, .int .i64 0, .int .i64 0, .int .i64 0, .int .i64 0, .int .i64 0, .int .i64 0] (N * 9)) 175)) := fun w => by
  obtain ⟨i0, hi, hz0, hz1, hz2⟩ := info_parts Tryd.infoSign
  have := run_make (P := Tryd.prog) w 152 175 i0 _ Tryd.underlying152 hi hz0 .i64 .i64 N N (by omega) (by omega) (by rw [hz2]; omega) (by omega)
  rw [hz1, Int.toNat_natCast] at this
  exact this
/-- What these walks know of the memory: the machine's block, and the row of signs. -/
structure SI9 (w W : World) (m : Mach) (l : ML) (N : Nat) (F : Nat → Nat) : Prop where
  low : Below w.heap.size w W
  kb : Blk W w.heap.size 25 (mcells m l)
  sg : RowC W (w.heap.size + 1) 175 (N * 9) (fun j => .int .i64 ((F j : Nat) : Int))
section
variable {w W : World} {m : Mach} {l : ML} {N : Nat} {F : Nat → Nat}
theorem SI9.below {W' : World} (h : SI9 w W m l N F) (hb : Below W.heap.size W W') : SI9 w W' m l N F :=
  ⟨h.low.trans (hb.mono h.low.size), h.kb.below hb h.kb.lt, h.sg.below hb h.sg.lt⟩
theorem SI9.set (h : SI9 w W m l N F) {j : Nat} (hj : j < N * 9) (v : Nat) {F' : Nat → Nat} (hF : ∀ i, i < N * 9 → F' i = if i = j then v else F i) : SI9 w (W.setCell ⟨w.heap.size + 1, j, none⟩ (.int .i64 ((v : Nat) : Int))) m l N F' :=
  ⟨h.low.setCell (p := ⟨w.heap.size + 1, j, none⟩) (show w.heap.size ≤ w.heap.size + 1 by omega) _, Blk.other h.kb (by omega) _, (h.sg.set hj _).congr (fun i hi => by
    rw [hF i hi]
    by_cases e : i = j
    · rw [if_pos e, if_pos e]
    · rw [if_neg e, if_neg e])⟩
theorem SI9.facts (h : SI9 w W m l N F) {j : Nat} (hj : j < N * 9) : W.cell? ⟨w.heap.size + 1, j, none⟩ = some (.int .i64 ((F j : Nat) : Int)) ∧ W.frozen? ⟨w.heap.size + 1, j, none⟩ = false := by
  refine ⟨h.sg.cell hj, ?_⟩
  obtain ⟨cs, hb, -, -⟩ := h.sg
  exact hb.frozen j
end
theorem si9_start (w : World) (m : Mach) (l : ML) (N : Nat) : SI9 w ((w.alloc (.cells (mcells m l) 25)).alloc (.cells (madeCells #[.int .i64 0, .int .i64 0, .int .i64 0, .int .i64 0, .int .i64 0, .int .i64 0, .int .i64 0, .int .i64 0, .int .i64 0] (N * 9)) 175)) m l N (fun _ => 0) := by
  refine ⟨((Below.refl _ _).alloc (Nat.le_refl _) _).alloc (by simp) _, (Blk.new w _ _).alloc _, ?_⟩
  have := Blk.new (w.alloc (.cells (mcells m l) 25)) 175 (madeCells #[.int .i64 0, .int .i64 0, .int .i64 0, .int .i64 0, .int .i64 0, .int .i64 0, .int .i64 0, .int .i64 0, .int .i64 0] (N * 9))
  rw [World.size_alloc] at this
  exact RowC.made9 this

theorem endC_step {E : List Int} {i k : Nat} (h : E[i]? = some (k : Int)) (j : Nat) : endC (E.take (i + 1)) j = if j = k * 9 then 1 else endC (E.take i) j := by
  have e : E.take (i + 1) = E.take i ++ [(k : Int)] := by rw [List.take_add_one, h]; rfl
  unfold endC
  rw [e]
  have hm : hasB (E.take i ++ [(k : Int)]) ((j / 9 : Nat) : Int) = true ↔ hasB (E.take i) ((j / 9 : Nat) : Int) = true ∨ j / 9 = k := by
    rw [hasB_iff, hasB_iff, List.mem_append, List.mem_singleton]
    exact or_congr Iff.rfl ⟨fun h => by omega, fun h => by omega⟩
  by_cases e1 : j = k * 9
  · rw [if_pos e1, if_pos ⟨by omega, hm.2 (.inr (by omega))⟩]
  · rw [if_neg e1]
    by_cases e2 : j % 9 = 0 ∧ hasB (E.take i) ((j / 9 : Nat) : Int) = true
    · rw [if_pos e2, if_pos ⟨e2.1, hm.2 (.inl e2.2)⟩]
    · rw [if_neg e2, if_neg (fun q => by
        rcases hm.1 q.2 with h1 | h1
        · exact e2 ⟨q.1, h1⟩
        · exact e1 (by have := q.1; omega))]

set_option maxRecDepth 100000 in
set_option maxHeartbeats 4000000 in
theorem endings_any (N : Nat) (ev : Int) (starts : List Int) (ars : List Arr) (ends : List Int) (a1 : Option Addr) (c1 : Nat) (a2 : Option Addr) (c2 : Nat) (a3 : Option Addr) (c3 : Nat) (w : World) (hN : N ≤ 256) (hel : ends.length ≤ 256) (h : Hid (At w a3 ends)) (hE : Hid (∀ x ∈ ends, 0 ≤ x ∧ x < (N : Int))) :
    Calls Tryd.prog 118 #[mval ⟨(N : Int), ev, starts, ars, ends⟩ ⟨a1, c1, a2, c2, a3, c3⟩] w fun e w' => e = .returned (.slice (some ⟨w.heap.size + 1, 0, none⟩) N N) ∧ RowC w' (w.heap.size + 1) 175 (N * 9) (fun j => .int .i64 ((endC ends j : Nat) : Int)) ∧ Below w.heap.size w w' := by
  have hmk := run_makeSigns N hN
  have S0 := Hid.of (si9_start w ⟨(N : Int), ev, starts, ars, ends⟩ ⟨a1, c1, a2, c2, a3, c3⟩ N)
  have x0 : (w.alloc (.cells (mcells ⟨(N : Int), ev, starts, ars, ends⟩ ⟨a1, c1, a2, c2, a3, c3⟩) 25)).cell? ⟨w.heap.size, 0, none⟩ = some (.int .i64 N) := (Blk.new w _ _).cell 0 rfl
  have x4 := S0.out.kb.cell 4 rfl
  go_enter Tryd.func118, Tryd.ntmps118
  go_wp2
  clear x0 x4 hmk
  revert S0
  generalize (w.alloc (.cells (mcells ⟨(N : Int), ev, starts, ars, ends⟩ ⟨a1, c1, a2, c2, a3, c3⟩) 25)).alloc (.cells (madeCells #[.int .i64 0, .int .i64 0, .int .i64 0, .int .i64 0, .int .i64 0, .int .i64 0, .int .i64 0, .int .i64 0, .int .i64 0] (N * 9)) 175) = W0
  intro S0
  go_loopw [12] (fun i wr => ∃ (n : Nat), i = .int .i64 n ∧ n ≤ ends.length ∧ Hid (SI9 w wr ⟨(N : Int), ev, starts, ars, ends⟩ ⟨a1, c1, a2, c2, a3, c3⟩ N (endC (ends.take n)))) (fun i _ => ends.length - (intOf i).toNat)
  case atStart => exact ⟨0, rfl, Nat.zero_le _, ⟨S0.out.low, S0.out.kb, S0.out.sg.congr (fun j hj => by simp [endC, hasB])⟩⟩
  case round =>
    clear S0
    obtain ⟨n, rfl, hnn, HS⟩ := hrel
    by_cases hlt : n < ends.length
    · rcases h.out.below HS.out.low (Nat.le_refl _) with h0 | ⟨b, off, ha, hb, hc⟩
      · rw [h0] at hlt; simp at hlt
      obtain ⟨x, hx⟩ : ∃ x, ends[n]? = some x := ⟨_, List.getElem?_eq_getElem hlt⟩
      have hxb := hE.out x (List.mem_of_getElem? hx)
      obtain ⟨k, rfl⟩ : ∃ k : Nat, x = (k : Int) := ⟨x.toNat, by omega⟩
      have hk : k < N := by omega
      have y0 := hc n hlt
      rw [List.getD_eq_getElem?_getD, hx, Option.getD_some] at y0
      obtain ⟨f1, f2⟩ := HS.out.facts (j := k * 9) (by omega)
      have HN : Hid _ := HS.out.set (j := k * 9) (by omega) 1 (F' := endC (ends.take (n + 1))) (fun i _ => endC_step hx i)
      obtain ⟨ov, hov⟩ : ∃ ov, Hid (ov = endC (ends.take n) (k * 9)) := ⟨_, rfl⟩
      rw [← hov.out] at f1
      subst ha
      clear hc hx HS hxb
      go_wp2_with fail
      go_roundw
      case rel => exact ⟨n + 1, by go_num, by omega, HN⟩
      case measure => simp [intOf]; omega
    · have e2 : n = ends.length := by omega
      subst e2
      rw [List.take_length] at HS
      go_wp2
      refine bodyPost_ret (v := .slice (some ⟨w.heap.size + 1, 0, none⟩) N N) (by simp [results, go_sem]) rfl ⟨rfl, HS.out.sg, HS.out.low⟩

/-- The signs on the way: what the first arrows give. -/
def midC (D : List Arr) (ev i : Nat) (c : Nat → Nat) (j : Nat) : Nat := if j % 9 = 0 then c (j / 9) else if j % 9 - 1 < ev ∧ j / 9 * ev + (j % 9 - 1) < i then c (toI D ((j / 9 : Nat) : Int) ((j % 9 - 1 : Nat) : Int)).toNat else 0
theorem midC_step {D : List Arr} {ev i f e t : Nat} {c : Nat → Nat} (he : e < ev) (h8 : ev ≤ 8) (hi : f * ev + e = i) (ht : toI D (f : Int) (e : Int) = (t : Int)) (j : Nat) : midC D ev (i + 1) c j = if j = f * 9 + 1 + e then c t else midC D ev i c j := by
  unfold midC
  by_cases e1 : j = f * 9 + 1 + e
  · have q1 : j % 9 = 1 + e := by omega
    have q2 : j / 9 = f := by omega
    rw [if_pos e1, q1, q2, if_neg (by omega), show 1 + e - 1 = e by omega, if_pos ⟨he, by omega⟩, ht, Int.toNat_natCast]
  · rw [if_neg e1]
    by_cases e2 : j % 9 = 0
    · rw [if_pos e2, if_pos e2]
    · rw [if_neg e2, if_neg e2]
      by_cases e3 : j % 9 - 1 < ev
      · have hne : ¬ (j / 9 * ev + (j % 9 - 1) = i) := fun q => by
          obtain ⟨r1, r2⟩ := code_inj e3 he (q.trans hi.symm)
          omega
        by_cases e4 : j / 9 * ev + (j % 9 - 1) < i
        · rw [if_pos ⟨e3, by omega⟩, if_pos ⟨e3, e4⟩]
        · rw [if_neg (fun q => by omega), if_neg (fun q => e4 q.2)]
      · rw [if_neg (fun q => e3 q.1), if_neg (fun q => e3 q.1)]
theorem midC_end {D : List Arr} {N ev : Nat} {c : Nat → Nat} {j : Nat} (hj : j < N * 9) : midC D ev (N * ev) c j = stepC D ev c j := by
  unfold midC stepC
  by_cases e2 : j % 9 = 0
  · rw [if_pos e2, if_pos e2]
  · rw [if_neg e2, if_neg e2]
    by_cases e3 : j % 9 - 1 < ev
    · rw [if_pos e3, if_pos ⟨e3, code_bd (by omega) e3⟩]
    · rw [if_neg e3, if_neg (fun q => e3 q.1)]

set_option maxRecDepth 100000 in
set_option maxHeartbeats 4000000 in
theorem signs_any (N ev : Nat) (starts : List Int) (ars : List Arr) (ends : List Int) (a1 : Option Addr) (c1 : Nat) (a2 : Option Addr) (c2 : Nat) (a3 : Option Addr) (c3 : Nat) (gk : Nat) (c : Nat → Nat) (w : World) (hN : N ≤ 256) (hev : ev ≤ 8) (hal : ars.length = N * ev) (h : Hid (AtA w a2 ars)) (hA : Hid (∀ f e : Nat, f < N → e < ev → ∃ t : Nat, ars[f * ev + e]? = some ⟨(f : Int), (e : Int), (t : Int)⟩ ∧ toI ars (f : Int) (e : Int) = (t : Int) ∧ t < N)) (hk : Hid (RowC w gk 3 N (fun x => .int .i64 ((c x : Nat) : Int)))) :
    Calls Tryd.prog 119 #[mval ⟨(N : Int), (ev : Int), starts, ars, ends⟩ ⟨a1, c1, a2, c2, a3, c3⟩, .slice (some ⟨gk, 0, none⟩) N N] w fun e w' => e = .returned (.slice (some ⟨w.heap.size + 1, 0, none⟩) N N) ∧ RowC w' (w.heap.size + 1) 175 (N * 9) (fun j => .int .i64 ((stepC ars ev c j : Nat) : Int)) ∧ Below w.heap.size w w' := by
  have hmk := run_makeSigns N hN
  have hgk := Hid.of hk.out.lt
  have HAL := Hid.of hal
  have hal2 : ars.length ≤ 2048 := by rw [hal]; exact Nat.mul_le_mul hN hev
  clear hal
  have S0 := Hid.of (si9_start w ⟨(N : Int), (ev : Int), starts, ars, ends⟩ ⟨a1, c1, a2, c2, a3, c3⟩ N)
  have x0 : (w.alloc (.cells (mcells ⟨(N : Int), (ev : Int), starts, ars, ends⟩ ⟨a1, c1, a2, c2, a3, c3⟩) 25)).cell? ⟨w.heap.size, 0, none⟩ = some (.int .i64 N) := (Blk.new w _ _).cell 0 rfl
  go_enter Tryd.func119, Tryd.ntmps119
  go_wp2
  clear x0 hmk
  revert S0
  generalize (w.alloc (.cells (mcells ⟨(N : Int), (ev : Int), starts, ars, ends⟩ ⟨a1, c1, a2, c2, a3, c3⟩) 25)).alloc (.cells (madeCells #[.int .i64 0, .int .i64 0, .int .i64 0, .int .i64 0, .int .i64 0, .int .i64 0, .int .i64 0, .int .i64 0, .int .i64 0] (N * 9)) 175) = W0
  intro S0
  go_loopw [15] (fun i wr => ∃ (n : Nat), i = .int .i64 n ∧ n ≤ N ∧ Hid (SI9 w wr ⟨(N : Int), (ev : Int), starts, ars, ends⟩ ⟨a1, c1, a2, c2, a3, c3⟩ N (fun j => if j % 9 = 0 ∧ j / 9 < n then c (j / 9) else 0))) (fun i _ => N - (intOf i).toNat)
  case atStart => exact ⟨0, rfl, Nat.zero_le _, ⟨S0.out.low, S0.out.kb, S0.out.sg.congr (fun j hj => by simp)⟩⟩
  case round =>
    clear S0
    obtain ⟨n, rfl, hnn, HS⟩ := hrel
    by_cases hlt : n < N
    · have y0 := (hk.out.below HS.out.low hgk.out).cell hlt
      obtain ⟨f1, f2⟩ := HS.out.facts (j := n * 9) (by omega)
      have HN : Hid _ := HS.out.set (j := n * 9) (by omega) (c n) (F' := fun j => if j % 9 = 0 ∧ j / 9 < n + 1 then c (j / 9) else 0) (fun i _ => by
        by_cases e1 : i = n * 9
        · have q1 : i / 9 = n := by omega
          rw [if_pos e1, q1, if_pos ⟨by omega, by omega⟩]
        · rw [if_neg e1]
          by_cases e2 : i % 9 = 0 ∧ i / 9 < n
          · rw [if_pos e2, if_pos ⟨e2.1, by omega⟩]
          · rw [if_neg e2, if_neg (fun q => by omega)])
      obtain ⟨ov, hov⟩ : ∃ ov, Hid (ov = (if n * 9 % 9 = 0 ∧ n * 9 / 9 < n then c (n * 9 / 9) else 0)) := ⟨_, rfl⟩
      rw [← hov.out] at f1
      clear HS
      go_wp2_with fail
      go_roundw
      case rel => exact ⟨n + 1, by go_num, by omega, HN⟩
      case measure => simp [intOf]; omega
    · have e2 : n = N := by omega
      subst e2
      have S1 : Hid (SI9 w wr ⟨(n : Int), (ev : Int), starts, ars, ends⟩ ⟨a1, c1, a2, c2, a3, c3⟩ n (midC ars ev 0 c)) := ⟨HS.out.low, HS.out.kb, HS.out.sg.congr (fun j hj => by
        unfold midC
        by_cases e1 : j % 9 = 0
        · rw [if_pos e1, if_pos ⟨e1, by omega⟩]
        · rw [if_neg e1, if_neg (fun q => e1 q.1), if_neg (fun q => by omega)])⟩
      have x3 := S1.out.kb.cell 3 rfl
      clear HS
      go_wp2_with fail
      clear x3
      go_loopw [29] (fun i wr => ∃ (k : Nat), i = .int .i64 k ∧ k ≤ ars.length ∧ Hid (SI9 w wr ⟨(n : Int), (ev : Int), starts, ars, ends⟩ ⟨a1, c1, a2, c2, a3, c3⟩ n (midC ars ev k c))) (fun i _ => ars.length - (intOf i).toNat)
      case atStart => exact ⟨0, rfl, Nat.zero_le _, S1⟩
      case round =>
        clear S1
        obtain ⟨k, rfl, hkk, HS⟩ := hrel
        by_cases hla : k < ars.length
        · rcases h.out.below HS.out.low (Nat.le_refl _) with h0 | ⟨b, off, ha, hb, hc⟩
          · rw [h0] at hla; simp at hla
          obtain ⟨q1, q2, q3⟩ := code_of (by rw [← HAL.out]; exact hla : k < n * ev)
          obtain ⟨f, hf⟩ : ∃ f, Hid (f = k / ev) := ⟨_, rfl⟩
          obtain ⟨e, he⟩ : ∃ e, Hid (e = k % ev) := ⟨_, rfl⟩
          rw [← hf.out] at q1 q3
          rw [← he.out] at q2 q3
          obtain ⟨t, t1, t2, t3⟩ := hA.out f e q1 q2
          rw [q3] at t1
          obtain ⟨a, HA, y0, y1, y2⟩ := hc.at hla
          have ea := HA.out
          rw [t1, Option.getD_some] at ea
          subst ea
          dsimp only at y0 y1 y2
          have B1 : Below wr.heap.size wr (wr.alloc (.cells #[.int .i64 (f : Int), .int .i64 (e : Int), .int .i64 (t : Int)] 58)) := (Below.refl _ _).alloc (Nat.le_refl _) _
          have H1 := HS.out.below B1
          have z0 := ((hk.out.below HS.out.low hgk.out).below B1 (Nat.lt_of_lt_of_le hgk.out HS.out.low.size)).cell t3
          have hfe : f * 9 + 1 + e < n * 9 := by omega
          obtain ⟨f1, f2⟩ := H1.facts hfe
          have HN : Hid _ := (H1.set hfe (c t) (F' := midC ars ev (k + 1) c) (fun i _ => midC_step q2 hev q3 t2 i)).below (Below.refl _ _).drew
          obtain ⟨ov, hov⟩ : ∃ ov, Hid (ov = midC ars ev k c (f * 9 + 1 + e)) := ⟨_, rfl⟩
          rw [← hov.out] at f1
          obtain ⟨ct, HCT⟩ : ∃ ct, Hid (ct = c t) := ⟨_, rfl⟩
          rw [← HCT.out] at z0 HN
          have hgl := hgk.out
          have hsl := HS.out.sg.lt
          have he8 : e < 8 := by omega
          have he8I : (e : Int) < 8 := by omega
          subst ha
          clear hc t1 t2 HS HA H1 B1
          have n0 : (wr.alloc (.cells #[.int .i64 (f : Int), .int .i64 (e : Int), .int .i64 (t : Int)] 58)).cell? ⟨wr.heap.size, 0, none⟩ = some (.int .i64 (f : Int)) := (Blk.new wr _ _).cell 0 rfl
          have n1 : (wr.alloc (.cells #[.int .i64 (f : Int), .int .i64 (e : Int), .int .i64 (t : Int)] 58)).cell? ⟨wr.heap.size, 1, none⟩ = some (.int .i64 (e : Int)) := (Blk.new wr _ _).cell 1 rfl
          have n2 : (wr.alloc (.cells #[.int .i64 (f : Int), .int .i64 (e : Int), .int .i64 (t : Int)] 58)).cell? ⟨wr.heap.size, 2, none⟩ = some (.int .i64 (t : Int)) := (Blk.new wr _ _).cell 2 rfl
          go_wp2_with fail
          clear y0 y1 y2
          revert f1 f2 z0 HN n0 n1 n2
          generalize wr.alloc (.cells #[.int .i64 (f : Int), .int .i64 (e : Int), .int .i64 (t : Int)] 58) = V
          intro f1 f2 z0 HN n0 n1 n2
          go_region_held3 (fun w' => w'.cell? ⟨wr.heap.size, 0, none⟩ = some (.int .i64 (f : Int)) ∧ w'.cell? ⟨wr.heap.size, 1, none⟩ = some (.int .i64 (e : Int)) ∧ w'.cell? ⟨wr.heap.size, 2, none⟩ = some (.int .i64 (t : Int)) ∧ w'.cell? ⟨gk, t, none⟩ = some (.int .i64 (ct : Int))) (first | exact ⟨keepC (by omega) n0, keepC (by omega) n1, keepC (by omega) n2, keepC (by omega) z0⟩ | go_keep) (fail)
          clear f1 f2 z0 n0 n1 n2
          revert HN
          generalize (V.setCell ⟨w.heap.size + 1, f * 9 + 1 + e, none⟩ (.int .i64 (ct : Int))).drew = Y
          intro HN
          go_wp2_with fail
          go_roundw
          case rel => exact ⟨k + 1, by go_num, by omega, HN⟩
          case measure => simp [intOf]; omega
        · have e2 : k = n * ev := by rw [← HAL.out]; omega
          have HF : Hid (RowC wr (w.heap.size + 1) 175 (n * 9) (fun j => .int .i64 ((stepC ars ev c j : Nat) : Int))) := by
            have := HS.out.sg
            rw [e2] at this
            exact this.congr (fun j hj => by rw [midC_end hj])
          clear e2
          go_wp2
          refine bodyPost_ret (v := .slice (some ⟨w.heap.size + 1, 0, none⟩) n n) (by simp [results, go_sem]) rfl ⟨rfl, HF.out, HS.out.low⟩

end Go.Proofs.YtbdkaobbfmgnhaaDoor
namespace Go.Proofs.YtbdkaobbfmgnhaaDoor
open Go.RowKit
set_option linter.unusedVariables false

section
variable {d : Mach} {N ev : Nat} {F : Nat → Nat}
theorem endC_le (E : List Int) (j : Nat) : endC E j ≤ 256 := by unfold endC; split <;> omega
theorem cls_le {σ : Type} [DecidableEq σ] (f : Nat → σ) (n x : Nat) : cls f n x ≤ n := Nat.le_trans (List.idxOf_le_length) (fnd_len f n)
theorem stepC_le {D : List Arr} {c : Nat → Nat} (h : ∀ x, c x ≤ 256) (j : Nat) : stepC D ev c j ≤ 256 := by
  unfold stepC
  split
  · exact h _
  · split
    · exact h _
    · omega
theorem kin_first (hN : d.st = (N : Int)) : SG d (cls (sigF (endC d.ends)) N) :=
  sg_first fun x y hx hy => (cls_iff _ (by omega) (by omega)).trans (endC_iff _ x y)
theorem kin_next (hd : detB d = true) (hN : d.st = (N : Int)) (hE : d.ev = (ev : Int)) (h8 : ev ≤ 8) {c : Nat → Nat} (h : SG d c) : SG d (cls (sigF (stepC d.arrows ev c)) N) :=
  sg_next hd h fun x y hx hy => (cls_iff _ (by omega) (by omega)).trans (stepC_iff hE h8 c x y)
theorem kin_len (hE : d.ev = (ev : Int)) (h8 : ev ≤ 8) (c : Nat → Nat) (n : Nat) : (fnd (sigF (stepC d.arrows ev c)) n).length = (fnd (sgn d c) n).length := fnd_same _ _ n fun x y _ _ => stepC_iff hE h8 c x y
theorem kin_same {σ : Type} [DecidableEq σ] (f : Nat → σ) (n : Nat) : (fnd (cls f n) n).length = (fnd f n).length := fnd_same _ _ n fun x y hx hy => cls_iff f hx hy
theorem kin_more (hE : d.ev = (ev : Int)) (h8 : ev ≤ 8) (f : Nat → List Nat) (n : Nat) : (fnd f n).length ≤ (fnd (sigF (stepC d.arrows ev (cls f n))) n).length := by
  rw [kin_len hE h8, ← kin_same f n]
  exact (fnd_fine (sgn d (cls f n)) (cls f n) n (fun x y _ _ e => (sgn_iff.1 e).1)).1
theorem kin_last (hd : detB d = true) (hN : d.st = (N : Int)) (hE : d.ev = (ev : Int)) (h8 : ev ≤ 8) {f : Nat → List Nat} (h : SG d (cls f N)) (hl : (fnd (sigF (stepC d.arrows ev (cls f N))) N).length = (fnd f N).length) : ∀ s t : Int, 0 ≤ s → s < d.st → 0 ≤ t → t < d.st → (decide (cls f N s.toNat ≠ cls f N t.toNat) = true ↔ langS d [s] ≠ langS d [t]) :=
  sg_last hd h hN.symm (by rw [kin_same, ← kin_len hE h8, hl])
end
/-- What kinds leaves. -/
def KinPost (w : World) (d : Mach) (N : Nat) (e : Ending) (w' : World) : Prop := ∃ (gk : Nat) (c : Nat → Nat), e = .returned (.slice (some ⟨gk, 0, none⟩) N N) ∧ RowC w' gk 3 N (fun x => .int .i64 ((c x : Nat) : Int)) ∧ Below w.heap.size w w' ∧ w.heap.size ≤ gk ∧ RGr c N ∧ (∀ s t : Int, 0 ≤ s → s < d.st → 0 ≤ t → t < d.st → (decide (c s.toNat ≠ c t.toNat) = true ↔ langS d [s] ≠ langS d [t]))

set_option maxRecDepth 100000 in
set_option maxHeartbeats 4000000 in
theorem kinds_any (N ev : Nat) (starts : List Int) (ars : List Arr) (ends : List Int) (a1 : Option Addr) (c1 : Nat) (a2 : Option Addr) (c2 : Nat) (a3 : Option Addr) (c3 : Nat) (w : World) (hN : N ≤ 256) (hev : ev ≤ 8) (hel : ends.length ≤ 256) (hal : Hid (ars.length = N * ev)) (hd : Hid (detB ⟨(N : Int), (ev : Int), starts, ars, ends⟩ = true)) (h : Hid (MAt w ⟨(N : Int), (ev : Int), starts, ars, ends⟩ ⟨a1, c1, a2, c2, a3, c3⟩)) (hE : Hid (∀ x ∈ ends, 0 ≤ x ∧ x < (N : Int))) (hA : Hid (∀ f e : Nat, f < N → e < ev → ∃ t : Nat, ars[f * ev + e]? = some ⟨(f : Int), (e : Int), (t : Int)⟩ ∧ toI ars (f : Int) (e : Int) = (t : Int) ∧ t < N)) :
    Calls Tryd.prog 86 #[mval ⟨(N : Int), (ev : Int), starts, ars, ends⟩ ⟨a1, c1, a2, c2, a3, c3⟩] w fun e w' => KinPost w ⟨(N : Int), (ev : Int), starts, ars, ends⟩ N e w' := by
  have B0 : Hid (Below w.heap.size w (w.alloc (.cells (mcells ⟨(N : Int), (ev : Int), starts, ars, ends⟩ ⟨a1, c1, a2, c2, a3, c3⟩) 25))) := (Below.refl _ _).alloc (Nat.le_refl _) _
  have K0 : Hid (Blk (w.alloc (.cells (mcells ⟨(N : Int), (ev : Int), starts, ars, ends⟩ ⟨a1, c1, a2, c2, a3, c3⟩) 25)) w.heap.size 25 (mcells ⟨(N : Int), (ev : Int), starts, ars, ends⟩ ⟨a1, c1, a2, c2, a3, c3⟩)) := Blk.new w _ _
  go_enter Tryd.func86, Tryd.ntmps86
  obtain ⟨x0, x1, x2, x3, x4⟩ := mcell_at K0.out
  dsimp only at x0 x1 x2 x3 x4
  go_wp2_with fail
  clear x0 x1 x2 x3 x4
  revert B0 K0
  generalize w.alloc (.cells (mcells ⟨(N : Int), (ev : Int), starts, ars, ends⟩ ⟨a1, c1, a2, c2, a3, c3⟩) 25) = V0
  intro B0 K0
  refine (endings_any N ev starts ars ends a1 c1 a2 c2 a3 c3 V0 hN hel (h.out.e.below B0.out (Nat.le_refl _)) hE).mono ?_
  rintro e V1 ⟨rfl, hR1, hb1⟩
  have HR1 := Hid.of hR1
  have B1 := Hid.of (B0.out.trans (hb1.mono B0.out.size))
  have K1 := Hid.of (K0.out.below hb1 K0.out.lt)
  clear hR1 hb1 B0 K0
  go_wp2_with fail
  refine (number_any (V0.heap.size + 1) N (endC ends) V1 hN HR1 (fun j => endC_le ends j)).mono ?_
  rintro e V2 ⟨rfl, hR2, hb2⟩
  have HR2 := Hid.of hR2
  have B2 := Hid.of (B1.out.trans (hb2.mono B1.out.size))
  have K2 := Hid.of (K1.out.below hb2 K1.out.lt)
  have S2 : Hid (SG ⟨(N : Int), (ev : Int), starts, ars, ends⟩ (cls (sigF (endC ends)) N)) := kin_first rfl
  have L2 : Hid (w.heap.size ≤ V1.heap.size + 1) := Nat.le_trans B1.out.size (Nat.le_succ _)
  clear hR2 hb2 B1 K1 HR1
  go_wp2_with fail
  go_loopw [3, 4] (fun v3 v4 wr => ∃ (gk K : Nat) (f : Nat → List Nat), v3 = .slice (some ⟨gk, 0, none⟩) N N ∧ v4 = .int .i64 (K : Int) ∧ Hid (K = (fnd f N).length) ∧ Hid (RowC wr gk 3 N (fun x => .int .i64 ((cls f N x : Nat) : Int))) ∧ Hid (Below w.heap.size w wr) ∧ Hid (Blk wr w.heap.size 25 (mcells ⟨(N : Int), (ev : Int), starts, ars, ends⟩ ⟨a1, c1, a2, c2, a3, c3⟩)) ∧ Hid (SG ⟨(N : Int), (ev : Int), starts, ars, ends⟩ (cls f N)) ∧ Hid (w.heap.size ≤ gk)) (fun _ v4 _ => N - (intOf v4).toNat)
  case atStart => exact ⟨V1.heap.size + 1, _, _, rfl, rfl, rfl, HR2, B2, K2, S2, L2⟩
  case round =>
    clear HR2 B2 K2 S2 L2
    obtain ⟨gk, K, f, rfl, rfl, HK, HR, HB, HM, HS, HL⟩ := hrel
    obtain ⟨x0, x1, x2, x3, x4⟩ := mcell_at HM.out
    dsimp only at x0 x1 x2 x3 x4
    go_wp2_with fail
    clear x0 x1 x2 x3 x4
    have hml := MAt.below h.out HB.out (Nat.le_refl _)
    refine (signs_any N ev starts ars ends a1 c1 a2 c2 a3 c3 gk (cls f N) wr hN hev hal.out hml.a hA HR).mono ?_
    rintro e V3 ⟨rfl, hR3, hb3⟩
    have HR3 := Hid.of hR3
    have B3 := Hid.of (HB.out.trans (hb3.mono HB.out.size))
    have K3 := Hid.of (HM.out.below hb3 HM.out.lt)
    have R3 := Hid.of (HR.out.below hb3 HR.out.lt)
    clear hR3 hb3 hml HB HM HR
    go_wp2_with fail
    refine (number_any (wr.heap.size + 1) N (stepC ars ev (cls f N)) V3 hN HR3 (fun j => stepC_le (fun x => Nat.le_trans (cls_le f N x) hN) j)).mono ?_
    rintro e V4 ⟨rfl, hR4, hb4⟩
    have HR4 := Hid.of hR4
    have B4 := Hid.of (B3.out.trans (hb4.mono B3.out.size))
    have K4 := Hid.of (K3.out.below hb4 K3.out.lt)
    have R4 := Hid.of (R3.out.below hb4 R3.out.lt)
    have L4 : Hid (w.heap.size ≤ V3.heap.size + 1) := Nat.le_trans B3.out.size (Nat.le_succ _)
    have S4 : Hid (SG ⟨(N : Int), (ev : Int), starts, ars, ends⟩ (cls (sigF (stepC ars ev (cls f N))) N)) := kin_next (d := ⟨(N : Int), (ev : Int), starts, ars, ends⟩) hd.out rfl rfl hev HS.out
    have hmore : (fnd f N).length ≤ (fnd (sigF (stepC ars ev (cls f N))) N).length := kin_more (d := ⟨(N : Int), (ev : Int), starts, ars, ends⟩) rfl hev f N
    have hfl := fnd_len (sigF (stepC ars ev (cls f N))) N
    obtain ⟨K', HK'⟩ : ∃ K', Hid (K' = (fnd (sigF (stepC ars ev (cls f N))) N).length) := ⟨_, rfl⟩
    rw [← HK'.out] at hmore hfl ⊢
    rw [← HK.out] at hmore
    clear hR4 hb4 B3 K3 R3 HR3
    by_cases heq : K' = K
    · have HFIN : Hid (∀ s t : Int, 0 ≤ s → s < (N : Int) → 0 ≤ t → t < (N : Int) → (decide (cls f N s.toNat ≠ cls f N t.toNat) = true ↔ langS ⟨(N : Int), (ev : Int), starts, ars, ends⟩ [s] ≠ langS ⟨(N : Int), (ev : Int), starts, ars, ends⟩ [t])) := kin_last (d := ⟨(N : Int), (ev : Int), starts, ars, ends⟩) hd.out rfl rfl hev HS.out (by rw [← HK.out, ← HK'.out, heq])
      have hbe : ((K' : Int) == (K : Int)) = true := by simp [heq]
      have heI : (K' : Int) = (K : Int) := by rw [heq]
      have HEQ := Hid.of heq
      clear heq
      go_wp2
      exact bodyPost_ret (v := .slice (some ⟨gk, 0, none⟩) N N) (by simp [results, go_sem]) rfl ⟨gk, cls f N, rfl, R4.out, B4.out, HL.out, (cls_rg f N).1, HFIN.out⟩
    · have hbe : ((K' : Int) == (K : Int)) = false := by simp; omega
      have heI : ¬ (K' : Int) = (K : Int) := by omega
      go_wp2_with fail
      go_roundw
      case rel => exact ⟨V3.heap.size + 1, K', _, rfl, rfl, HK', HR4, B4, K4, S4, L4⟩
      case measure => simp [intOf]; omega

end Go.Proofs.YtbdkaobbfmgnhaaDoor
namespace Go.Proofs.YtbdkaobbfmgnhaaDoor
open Go.RowKit
set_option linter.unusedVariables false

/-- What fold knows of the memory. -/
structure FO (w W : World) (m : Mach) (l : ML) (K : Int) (va ve : Value) (A : List Arr) (E : List Int) : Prop where
  low : Below w.heap.size w W
  kb : Blk W w.heap.size 25 (mcells m l)
  zb : Blk W (w.heap.size + 1) 25 zcells
  s0 : Blk W (w.heap.size + 2) 3 #[.int .i64 0]
  nb : Blk W (w.heap.size + 3) 25 (rcells K m.ev (w.heap.size + 2) va ve)
  ar : OwnA W (w.heap.size + 4) va A
  en : Own W (w.heap.size + 4) ve E
  hB : w.heap.size + 4 ≤ W.heap.size
section
variable {w W : World} {m : Mach} {l : ML} {K : Int} {va ve : Value} {A : List Arr} {E : List Int}
theorem FO.below {W' : World} (h : FO w W m l K va ve A E) (hb : Below W.heap.size W W') : FO w W' m l K va ve A E :=
  ⟨h.low.trans (hb.mono h.low.size), h.kb.below hb h.kb.lt, h.zb.below hb h.zb.lt, h.s0.below hb h.s0.lt, h.nb.below hb h.nb.lt, h.ar.kept hb (Nat.le_refl _), own_same h.en (fun k hk => hb.block k (World.ownsRow.lt h.en k hk).2), Nat.le_trans h.hB hb.size⟩
/-- One state more. -/
theorem FO.inc (h : FO w W m l K va ve A E) (K' : Int) : FO w (W.setCell ⟨w.heap.size + 3, 0, none⟩ (.int .i64 K')) m l K' va ve A E :=
  ⟨h.low.setCell (p := ⟨w.heap.size + 3, 0, none⟩) (show w.heap.size ≤ w.heap.size + 3 by omega) _, Blk.other h.kb (by omega) _, Blk.other h.zb (by omega) _, Blk.other h.s0 (by omega) _, h.nb.set 0 (.int .i64 K'), ownsRow_set h.ar (by omega) _, ownsRow_set h.en (by omega) _, by have := h.hB; simp [World.setCell]; omega⟩
/-- One arrow more. -/
theorem FO.pushA {W2 W3 : World} {va' : Value} {x : Arr} (h : FO w W m l K va ve A E) (hW3 : Below W.heap.size W W3) (o1 : OwnA W2 (w.heap.size + 4) va' (A ++ [x])) (g : W3.grownBy W2 va.ownBlock) :
    Blk W2 (w.heap.size + 3) 25 (rcells K m.ev (w.heap.size + 2) va ve) ∧ FO w (W2.setCell ⟨w.heap.size + 3, 3, none⟩ va') m l K va' ve (A ++ [x]) E := by
  have h3 := h.below hW3
  have hB := h3.hB
  have kp : ∀ j, j < W3.heap.size → va.ownBlock ≠ some j → W2.heap[j]? = W3.heap[j]? := fun j hj hn => g.block j hj (fun e => hn e.symm)
  have hi : ∀ j, j < w.heap.size + 4 → va.ownBlock ≠ some j := fun j hj e => by have := (World.ownsRow.lt h3.ar j e).1; omega
  have lo : ∀ j, j < w.heap.size + 4 → W2.heap[j]? = W3.heap[j]? := fun j hj => kp j (by omega) (hi j hj)
  have nb2 : Blk W2 (w.heap.size + 3) 25 (rcells K m.ev (w.heap.size + 2) va ve) := (lo _ (by omega)).trans h3.nb
  refine ⟨nb2, (h3.low.grown g (by omega) (fun j hj => Nat.le_trans (by omega) (World.ownsRow.lt h3.ar j hj).1)).setCell (p := ⟨w.heap.size + 3, 3, none⟩) (show w.heap.size ≤ w.heap.size + 3 by omega) _, Blk.other ((lo _ (by omega)).trans h3.kb) (by omega) _, Blk.other ((lo _ (by omega)).trans h3.zb) (by omega) _, Blk.other ((lo _ (by omega)).trans h3.s0) (by omega) _, nb2.set 3 va', ownsRow_set o1 (by omega) va', ownsRow_set (own_same h3.en (fun k hk => kp k (World.ownsRow.lt h3.en k hk).2 (fun e => ?_))) (by omega) va', ?_⟩
  · rcases own_apart h3.ar h3.en (by decide) with r | r
    · rw [r] at e; cases e
    · exact r (e.trans hk.symm)
  · have := g.size
    simp [World.setCell]; omega
/-- One end more. -/
theorem FO.pushE {W2 W3 : World} {ve' : Value} {t : Int} (h : FO w W m l K va ve A E) (hW3 : Below W.heap.size W W3) (o1 : Own W2 (w.heap.size + 4) ve' (E ++ [t])) (g : W3.grownBy W2 ve.ownBlock) :
    Blk W2 (w.heap.size + 3) 25 (rcells K m.ev (w.heap.size + 2) va ve) ∧ FO w (W2.setCell ⟨w.heap.size + 3, 4, none⟩ ve') m l K va ve' A (E ++ [t]) := by
  have h3 := h.below hW3
  have hB := h3.hB
  have kp : ∀ j, j < W3.heap.size → ve.ownBlock ≠ some j → W2.heap[j]? = W3.heap[j]? := fun j hj hn => g.block j hj (fun e => hn e.symm)
  have hi : ∀ j, j < w.heap.size + 4 → ve.ownBlock ≠ some j := fun j hj e => by have := (World.ownsRow.lt h3.en j e).1; omega
  have lo : ∀ j, j < w.heap.size + 4 → W2.heap[j]? = W3.heap[j]? := fun j hj => kp j (by omega) (hi j hj)
  have nb2 : Blk W2 (w.heap.size + 3) 25 (rcells K m.ev (w.heap.size + 2) va ve) := (lo _ (by omega)).trans h3.nb
  refine ⟨nb2, (h3.low.grown g (by omega) (fun j hj => Nat.le_trans (by omega) (World.ownsRow.lt h3.en j hj).1)).setCell (p := ⟨w.heap.size + 3, 4, none⟩) (show w.heap.size ≤ w.heap.size + 3 by omega) _, Blk.other ((lo _ (by omega)).trans h3.kb) (by omega) _, Blk.other ((lo _ (by omega)).trans h3.zb) (by omega) _, Blk.other ((lo _ (by omega)).trans h3.s0) (by omega) _, nb2.set 4 ve', ownsRow_set (own_same h3.ar (fun k hk => kp k (World.ownsRow.lt h3.ar k hk).2 (fun e => ?_))) (by omega) ve', ownsRow_set o1 (by omega) ve', ?_⟩
  · rcases own_apart h3.en h3.ar (by decide) with r | r
    · rw [r] at e; cases e
    · exact r (e.trans hk.symm)
  · have := g.size
    simp [World.setCell]; omega
/-- The machine that stands there. -/
theorem FO.mat {aa : Option Addr} {ac : Nat} {ea : Option Addr} {ec : Nat} (h : FO w W m l K (.slice aa A.length ac) (.slice ea E.length ec) A E) : MAt W ⟨K, m.ev, [0], A, E⟩ ⟨some ⟨w.heap.size + 2, 0, none⟩, 1, aa, ac, ea, ec⟩ ∧ FrM (w.heap.size + 2) ⟨K, m.ev, [0], A, E⟩ ⟨some ⟨w.heap.size + 2, 0, none⟩, 1, aa, ac, ea, ec⟩ := by
  obtain ⟨a1, q1, e1, k1, k2, k3, k4⟩ := h.ar.at
  obtain ⟨a2, q2, e2, j1, j2, j3, j4⟩ := Own.at2 h.en
  cases e1; cases e2
  refine ⟨⟨.inr ⟨w.heap.size + 2, 0, rfl, h.s0.lt, fun j hj => ?_⟩, k1, j1, by simp, (by unfold maxLen; simp), (fun h => by cases h), k2, k3, k4, j2, j3, j4⟩, .inr ⟨_, 0, rfl, Nat.le_refl _⟩, fr_mono h.ar.fr (by omega), fr_mono (Own.fr h.en) (by omega)⟩
  have hj : j = 0 := by simpa using hj
  subst hj
  exact h.s0.cell 0 rfl
end

end Go.Proofs.YtbdkaobbfmgnhaaDoor
namespace Go.Proofs.YtbdkaobbfmgnhaaDoor
open Go.RowKit
set_option linter.unusedVariables false

theorem arrF_len (D : List Arr) (c : Nat → Nat) (ev : Nat) : ∀ n, (arrF D c ev n).length ≤ n * ev
  | 0 => by simp [arrF]
  | n + 1 => by
    have := arrF_len D c ev n
    rw [show arrF D c ev (n + 1) = if c n = (reps c n).length then arrF D c ev n ++ rowF D c (c n) n ev else arrF D c ev n from rfl, Nat.succ_mul]
    split
    · rw [List.length_append, rowF_len]; omega
    · omega
theorem endF_len (E : List Int) (c : Nat → Nat) : ∀ n, (endF E c n).length ≤ n
  | 0 => by simp [endF]
  | n + 1 => by
    have := endF_len E c n
    rw [show endF E c (n + 1) = if c n = (reps c n).length ∧ hasB E (n : Int) = true then endF E c n ++ [((c n : Nat) : Int)] else endF E c n from rfl]
    split
    · rw [List.length_append, List.length_singleton]; omega
    · omega
theorem arrF_new {D : List Arr} {c : Nat → Nat} {ev n : Nat} (h : c n = (reps c n).length) : arrF D c ev (n + 1) = arrF D c ev n ++ rowF D c (c n) n ev ∧ (reps c (n + 1)).length = (reps c n).length + 1 := by
  refine ⟨by rw [show arrF D c ev (n + 1) = if c n = (reps c n).length then arrF D c ev n ++ rowF D c (c n) n ev else arrF D c ev n from rfl, if_pos h], ?_⟩
  rw [show reps c (n + 1) = if c n = (reps c n).length then reps c n ++ [n] else reps c n from rfl, if_pos h, List.length_append]; rfl
theorem endF_new {E : List Int} {c : Nat → Nat} {n : Nat} (h : c n = (reps c n).length) : endF E c (n + 1) = if hasB E (n : Int) = true then endF E c n ++ [((c n : Nat) : Int)] else endF E c n := by
  rw [show endF E c (n + 1) = if c n = (reps c n).length ∧ hasB E (n : Int) = true then endF E c n ++ [((c n : Nat) : Int)] else endF E c n from rfl]
  by_cases q : hasB E (n : Int) = true
  · rw [if_pos q, if_pos ⟨h, q⟩]
  · rw [if_neg q, if_neg (fun z => q z.2)]
theorem fold_old {D : List Arr} {E : List Int} {c : Nat → Nat} {ev n : Nat} (h : ¬ c n = (reps c n).length) : arrF D c ev (n + 1) = arrF D c ev n ∧ endF E c (n + 1) = endF E c n ∧ (reps c (n + 1)).length = (reps c n).length := by
  refine ⟨by rw [show arrF D c ev (n + 1) = if c n = (reps c n).length then arrF D c ev n ++ rowF D c (c n) n ev else arrF D c ev n from rfl, if_neg h], by rw [show endF E c (n + 1) = if c n = (reps c n).length ∧ hasB E (n : Int) = true then endF E c n ++ [((c n : Nat) : Int)] else endF E c n from rfl, if_neg (fun z => h z.1)], ?_⟩
  rw [show reps c (n + 1) = if c n = (reps c n).length then reps c n ++ [n] else reps c n from rfl, if_neg h]
/-- A piece of a slice of arrows. -/
theorem slice_piece (a : Option Addr) (len cap P Q : Nat) (h1 : P ≤ Q) (h2 : Q ≤ cap) : ∃ X Y, (∀ w : World, (Instr.slice 23 (.slice a len cap) (some (.int .i64 (P : Int))) (some (.int .i64 (Q : Int))) none).run Tryd.prog w = .ok (.slice X (Q - P) Y) w) ∧ (P < cap → ∀ b off, a = some ⟨b, off, none⟩ → X = some ⟨b, off + P * 3, none⟩) := by
  refine ⟨if cap = P then a else a.map (·.add (P * 3)), cap - P, fun w => ?_, fun hlt b off ha => ?_⟩
  · have := run_slice_lh (P := Tryd.prog) (w := w) 23 a len cap (by kernel_rfl) .i64 .i64 (P : Int) (Q : Int) (by omega) (by omega) (by omega)
    rw [this]
    go_simp
  · rw [if_neg (by omega), ha, Option.map_some]; simp [Addr.add]

/-- What fold leaves. -/
def FoldPost (w : World) (M : Mach) (e : Ending) (w' : World) : Prop := ∃ L, e = .returned (mval M L) ∧ MAt w' M L ∧ FrM w.heap.size M L ∧ Below w.heap.size w w'

set_option maxRecDepth 100000 in
set_option maxHeartbeats 4000000 in
theorem fold_any (N ev : Nat) (starts : List Int) (ars : List Arr) (ends : List Int) (a1 : Option Addr) (c1 : Nat) (a2 : Option Addr) (c2 : Nat) (a3 : Option Addr) (c3 : Nat) (gk : Nat) (c : Nat → Nat) (w : World) (hN : N ≤ 256) (hev : ev ≤ 8) (hal : Hid (ars.length = N * ev)) (h : Hid (MAt w ⟨(N : Int), (ev : Int), starts, ars, ends⟩ ⟨a1, c1, a2, c2, a3, c3⟩)) (hA : Hid (∀ f e : Nat, f < N → e < ev → ∃ t : Nat, ars[f * ev + e]? = some ⟨(f : Int), (e : Int), (t : Int)⟩ ∧ toI ars (f : Int) (e : Int) = (t : Int) ∧ t < N)) (hk : Hid (RowC w gk 3 N (fun x => .int .i64 ((c x : Nat) : Int)))) :
    Calls Tryd.prog 85 #[mval ⟨(N : Int), (ev : Int), starts, ars, ends⟩ ⟨a1, c1, a2, c2, a3, c3⟩, .slice (some ⟨gk, 0, none⟩) N N] w fun e w' => FoldPost w ⟨((reps c N).length : Int), (ev : Int), [0], arrF ars c ev N, endF ends c N⟩ e w' := by
  obtain ⟨i0, hi, hz0, hz1, hz2⟩ := info_parts Tryd.infoInt
  obtain ⟨j0, ji, jz0, jz1, jz2⟩ := info_parts Tryd.infoArrow
  have hgk := Hid.of hk.out.lt
  have F0 : Hid (FO w ((((w.alloc (.cells (mcells ⟨(N : Int), (ev : Int), starts, ars, ends⟩ ⟨a1, c1, a2, c2, a3, c3⟩) 25)).alloc (.cells zcells 25)).alloc (.cells #[.int .i64 0] 3)).alloc (.cells (rcells 0 (ev : Int) (w.heap.size + 1 + 1) (.slice none 0 0) (.slice none 0 0)) 25)) ⟨(N : Int), (ev : Int), starts, ars, ends⟩ ⟨a1, c1, a2, c2, a3, c3⟩ 0 (.slice none 0 0) (.slice none 0 0) [] []) := by
    refine ⟨((((Below.refl _ _).alloc (Nat.le_refl _) _).alloc (by simp) _).alloc (by simp; omega) _).alloc (by simp; omega) _, (((Blk.new w _ _).alloc _).alloc _).alloc _, ?_, ?_, ?_, ownA_nil _ _, own_nil _ _, by simp⟩
    · have := ((Blk.new (w.alloc (.cells (mcells ⟨(N : Int), (ev : Int), starts, ars, ends⟩ ⟨a1, c1, a2, c2, a3, c3⟩) 25)) 25 zcells).alloc (.cells #[.int .i64 0] 3)).alloc (.cells (rcells 0 (ev : Int) (w.heap.size + 1 + 1) (.slice none 0 0) (.slice none 0 0)) 25)
      rwa [World.size_alloc] at this
    · have := (Blk.new ((w.alloc (.cells (mcells ⟨(N : Int), (ev : Int), starts, ars, ends⟩ ⟨a1, c1, a2, c2, a3, c3⟩) 25)).alloc (.cells zcells 25)) 3 #[.int .i64 0]).alloc (.cells (rcells 0 (ev : Int) (w.heap.size + 1 + 1) (.slice none 0 0) (.slice none 0 0)) 25)
      rwa [World.size_alloc, World.size_alloc] at this
    · have := Blk.new (((w.alloc (.cells (mcells ⟨(N : Int), (ev : Int), starts, ars, ends⟩ ⟨a1, c1, a2, c2, a3, c3⟩) 25)).alloc (.cells zcells 25)).alloc (.cells #[.int .i64 0] 3)) 25 (rcells 0 (ev : Int) (w.heap.size + 1 + 1) (.slice none 0 0) (.slice none 0 0))
      rwa [World.size_alloc, World.size_alloc, World.size_alloc] at this
  have x1 : ((w.alloc (.cells (mcells ⟨(N : Int), (ev : Int), starts, ars, ends⟩ ⟨a1, c1, a2, c2, a3, c3⟩) 25)).alloc (.cells zcells 25)).cell? ⟨w.heap.size, 1, none⟩ = some (.int .i64 ev) := ((Blk.new w _ _).alloc _).cell 1 rfl
  go_enter Tryd.func85, Tryd.ntmps85
  go_wp2
  clear x1
  revert F0
  generalize (((w.alloc (.cells (mcells ⟨(N : Int), (ev : Int), starts, ars, ends⟩ ⟨a1, c1, a2, c2, a3, c3⟩) 25)).alloc (.cells zcells 25)).alloc (.cells #[.int .i64 0] 3)).alloc (.cells (rcells 0 (ev : Int) (w.heap.size + 1 + 1) (.slice none 0 0) (.slice none 0 0)) 25) = W0
  intro F0
  go_loopw [16] (fun i wr => ∃ (n : Nat) (K : Int) (va ve : Value), i = .int .i64 n ∧ n ≤ N ∧ Hid (K = ((reps c n).length : Int)) ∧ Hid (FO w wr ⟨(N : Int), (ev : Int), starts, ars, ends⟩ ⟨a1, c1, a2, c2, a3, c3⟩ K va ve (arrF ars c ev n) (endF ends c n))) (fun i _ => N - (intOf i).toNat)
  case atStart => exact ⟨0, 0, _, _, rfl, Nat.zero_le _, rfl, F0⟩
  case round =>
    clear F0
    obtain ⟨n, K, va, ve, rfl, hnn, HK, HF⟩ := hrel
    by_cases hlt : n < N
    · have y0 := (hk.out.below HF.out.low hgk.out).cell hlt
      have o0 : wr.cell? ⟨w.heap.size + 3, 0, none⟩ = some (.int .i64 K) := HF.out.nb.cell 0 rfl
      by_cases hnew : c n = (reps c n).length
      · have hKc : ((c n : Nat) : Int) = K := by rw [HK.out, hnew]
        obtain ⟨e1, e2⟩ := arrF_new (D := ars) (ev := ev) hnew
        have HE1 := Hid.of e1
        have HE2 := Hid.of e2
        have HE3 := Hid.of (endF_new (E := ends) hnew)
        have HKC := Hid.of hKc
        rw [hKc] at y0
        have hKb : 0 ≤ K ∧ K ≤ 256 := by have := reps_len c n; rw [HK.out]; omega
        have hwK : IntKind.i64.wrap (K + 1) = K + 1 := by rw [IntKind.wrap_i64]; omega
        obtain ⟨P, HP⟩ : ∃ P, Hid (P = n * ev) := ⟨_, rfl⟩
        obtain ⟨Q, HQ⟩ : ∃ Q, Hid (Q = (n + 1) * ev) := ⟨_, rfl⟩
        have hPQ : Q = P + ev := by rw [HQ.out, HP.out, Nat.succ_mul]
        have hQl : Q ≤ ars.length := by rw [HQ.out, hal.out]; exact Nat.mul_le_mul_right ev hlt
        have hal2 : ars.length ≤ 2048 := by rw [hal.out]; exact Nat.mul_le_mul hN hev
        have hw1 : IntKind.i64.wrap ((n : Int) * (ev : Int)) = (P : Int) := by rw [IntKind.wrap_i64, ← Int.natCast_mul, ← HP.out]; omega
        have hw3 : IntKind.i64.wrap (((n : Int) + 1) * (ev : Int)) = (Q : Int) := by rw [IntKind.wrap_i64, show ((n : Int) + 1) = ((n + 1 : Nat) : Int) by omega, ← Int.natCast_mul, ← HQ.out]; omega
        have hcl := h.out.a1
        dsimp only at hcl
        obtain ⟨X, Y, hsl, hX⟩ := slice_piece a2 ars.length c2 P Q (by omega) (by omega)
        rw [show Q - P = ev by omega] at hsl
        have HX := Hid.of hX
        have HPQ := Hid.of hPQ
        have HQL := Hid.of hQl
        have HCL := Hid.of hcl
        have HF1 := Hid.of (HF.out.inc (K + 1))
        have nf := HF.out.nb.frozen
        have x1 : wr.cell? ⟨w.heap.size, 1, none⟩ = some (.int .i64 ev) := HF.out.kb.cell 1 rfl
        have x3 : wr.cell? ⟨w.heap.size, 3, none⟩ = some (.slice a2 ars.length c2) := HF.out.kb.cell 3 rfl
        have hAL : Hid ((arrF ars c ev n).length + ev ≤ 2048) := show _ ≤ _ by
          have := arrF_len ars c ev n
          rw [← HP.out] at this
          omega
        have hEL : Hid ((endF ends c n).length ≤ 256) := Nat.le_trans (endF_len ends c n) (by omega)
        clear hnew e1 e2 hKc hX hPQ hQl hcl HF
        go_wp2_with fail
        clear o0 x1 x3 nf y0 hw1 hw3 hsl hwK
        revert HF1
        generalize wr.setCell ⟨w.heap.size + 3, 0, none⟩ (.int .i64 (K + 1)) = W1
        intro HF1
        go_loopw [42] (fun i wr => ∃ (e : Nat) (va : Value), i = .int .i64 e ∧ e ≤ ev ∧ Hid (FO w wr ⟨(N : Int), (ev : Int), starts, ars, ends⟩ ⟨a1, c1, a2, c2, a3, c3⟩ (K + 1) va ve (arrF ars c ev n ++ rowF ars c (c n) n e) (endF ends c n))) (fun i _ => ev - (intOf i).toNat)
        case atStart => exact ⟨0, va, rfl, Nat.zero_le _, (by show FO _ _ _ _ _ _ _ _ _; rw [show rowF ars c (c n) n 0 = [] from rfl, List.append_nil]; exact HF1.out)⟩
        case round =>
          clear HF1
          obtain ⟨e, va, rfl, hee, HF⟩ := hrel
          by_cases hle : e < ev
          · rcases (h.out.below HF.out.low (Nat.le_refl _)).a with h0 | ⟨b, off, ha0, hb, hc⟩
            · exfalso
              have h0 : ars = [] := h0
              have q1 := HPQ.out
              have q2 := HQL.out
              rw [h0] at q2
              simp at q2; omega
            have ha : a2 = some ⟨b, off, none⟩ := ha0
            have eX := HX.out (by have := HPQ.out; have := HQL.out; have := HCL.out; omega) b off ha
            obtain ⟨t, t1, t2, t3⟩ := hA.out n e hlt hle
            rw [← HP.out] at t1
            obtain ⟨a, HAa, y0, y1, y2⟩ := hc.at (k := P + e) (by have := HPQ.out; have := HQL.out; show P + e < ars.length; omega)
            have ea := HAa.out
            rw [show (Mach.mk (N : Int) (ev : Int) starts ars ends).arrows[P + e]? = some ⟨(n : Int), (e : Int), (t : Int)⟩ from t1, Option.getD_some] at ea
            subst ea
            dsimp only at y0 y1 y2
            rw [show off + (P + e) * 3 = off + P * 3 + e * 3 by omega] at y0 y1 y2
            subst eX
            have HNX : Hid (arrF ars c ev n ++ rowF ars c (c n) n (e + 1) = (arrF ars c ev n ++ rowF ars c (c n) n e) ++ [⟨K, (e : Int), ((c t : Nat) : Int)⟩]) := by
              show _ = _
              rw [rowF_succ, t2, Int.toNat_natCast, HKC.out, List.append_assoc]
            have hAl : (arrF ars c ev n ++ rowF ars c (c n) n e).length ≤ 2048 := by
              have := hAL.out
              rw [List.length_append, rowF_len]; omega
            obtain ⟨A, HAA⟩ : ∃ A, Hid (A = arrF ars c ev n ++ rowF ars c (c n) n e) := ⟨_, rfl⟩
            rw [← HAA.out] at HF HNX hAl
            obtain ⟨ct, HCT⟩ : ∃ ct, Hid (ct = c t) := ⟨_, rfl⟩
            rw [← HCT.out] at HNX
            obtain ⟨fa, fc, hfa, -, -, -⟩ := own_form2 HF.out.ar
            subst hfa
            have B1 : Below wr.heap.size wr (wr.alloc (.cells #[.int .i64 (n : Int), .int .i64 (e : Int), .int .i64 (t : Int)] 58)) := (Below.refl _ _).alloc (Nat.le_refl _) _
            have HF1 := Hid.of (HF.out.below B1)
            have z0 : (wr.alloc (.cells #[.int .i64 (n : Int), .int .i64 (e : Int), .int .i64 (t : Int)] 58)).cell? ⟨gk, t, none⟩ = some (.int .i64 (ct : Int)) := by rw [HCT.out]; exact ((hk.out.below HF.out.low hgk.out).below B1 (Nat.lt_of_lt_of_le hgk.out HF.out.low.size)).cell t3
            have NB : Hid (Blk (wr.alloc (.cells #[.int .i64 (n : Int), .int .i64 (e : Int), .int .i64 (t : Int)] 58)) wr.heap.size 58 #[.int .i64 (n : Int), .int .i64 (e : Int), .int .i64 (t : Int)]) := Blk.new wr _ _
            have Z0 := Hid.of z0
            have OLT : Hid (∀ k, (Value.slice fa A.length fc).ownBlock = some k → w.heap.size + 4 ≤ k ∧ k < wr.heap.size) := fun k hk => World.ownsRow.lt HF.out.ar k hk
            have hbB := HF.out.hB
            clear hc t1 t2 HAa HF B1 z0 hb ha ha0
            go_wp2_with fail
            clear y0 y1 y2
            revert HF1 NB Z0
            generalize wr.alloc (.cells #[.int .i64 (n : Int), .int .i64 (e : Int), .int .i64 (t : Int)] 58) = V
            intro HF1 NB Z0
            have HLT : Hid (∀ k, (Value.slice fa A.length fc).ownBlock = some k → w.heap.size + 4 ≤ k ∧ k < wr.heap.size) := fun k hk => OLT.out k hk
            refine wp_region_held_drew (S := fun w' => w'.cell? ⟨wr.heap.size, 1, none⟩ = some (.int .i64 (e : Int)) ∧ w'.cell? ⟨wr.heap.size, 2, none⟩ = some (.int .i64 (t : Int)) ∧ w'.cell? ⟨gk, t, none⟩ = some (.int .i64 (ct : Int))) (by kernel_rfl) ⟨NB.out.cell 1 rfl, NB.out.cell 2 rfl, Z0.out⟩ (fun hS => ?_)
            have HY := Hid.of (HF1.out.below (Below.refl _ V).drew)
            have NY := Hid.of (NB.out.below (Below.refl _ V).drew NB.out.lt)
            have ZY : Hid (V.drew.cell? ⟨gk, t, none⟩ = some (.int .i64 (ct : Int))) := Z0.out
            clear HF1 NB Z0
            revert hS HY NY ZY
            generalize V.drew = Y0
            intro hS HY NY ZY
            have SA : Hid (∀ W : World, W.heap[wr.heap.size]? = Y0.heap[wr.heap.size]? → W.heap[gk]? = Y0.heap[gk]? → W.cell? ⟨wr.heap.size, 1, none⟩ = some (.int .i64 (e : Int)) ∧ W.cell? ⟨wr.heap.size, 2, none⟩ = some (.int .i64 (t : Int)) ∧ W.cell? ⟨gk, t, none⟩ = some (.int .i64 (ct : Int))) := fun W h1 h2 => ⟨(World.cell?_of_block (w := Y0) h1).trans (NY.out.cell 1 rfl), (World.cell?_of_block (w := Y0) h1).trans (NY.out.cell 2 rfl), (World.cell?_of_block (w := Y0) h2).trans ZY.out⟩
            have hYB := HY.out.hB
            have hgkl := hgk.out
            have hwY := NY.out.lt
            have d3 : Y0.cell? ⟨w.heap.size + 3, 3, none⟩ = some (.slice fa A.length fc) := HY.out.nb.cell 3 rfl
            have d3a : ∀ o, (Y0.alloc o).cell? ⟨w.heap.size + 3, 3, none⟩ = some (.slice fa A.length fc) := fun o => (HY.out.nb.alloc o).cell 3 rfl
            refine wpAnyH_take (i := 0) (v := .pointer (some ⟨w.heap.size + 3, 3, none⟩)) rfl (by kernel_rfl) (by kernel_rfl) (by kernel_rfl) (fun _ _ _ h => h) (Or.inl ⟨by kernel_rfl, fun w' hw' => by obtain ⟨q0, q1, q2⟩ := hw'; go_simp⟩) hS ?_
            refine wpAnyH_take (i := 2) (v := .int .i64 K) rfl (by kernel_rfl) (by kernel_rfl) (by kernel_rfl) (fun _ _ _ h => h) (Or.inl ⟨by kernel_rfl, fun w' hw' => by obtain ⟨q0, q1, q2⟩ := hw'; go_simp⟩) hS ?_
            refine wpAnyH_take (i := 3) (v := .pointer (some ⟨wr.heap.size, 1, none⟩)) rfl (by kernel_rfl) (by kernel_rfl) (by kernel_rfl) (fun _ _ _ h => h) (Or.inl ⟨by kernel_rfl, fun w' hw' => by obtain ⟨q0, q1, q2⟩ := hw'; go_simp⟩) hS ?_
            refine wpAnyH_take (i := 4) (v := .int .i64 (e : Int)) rfl (by kernel_rfl) (by kernel_rfl) (by kernel_rfl) (fun _ _ _ h => h) (Or.inl ⟨by kernel_rfl, fun w' hw' => by obtain ⟨q0, q1, q2⟩ := hw'; go_simp⟩) hS ?_
            refine wpAnyH_take (i := 5) (v := .slice (some ⟨gk, 0, none⟩) N N) rfl (by kernel_rfl) (by kernel_rfl) (by kernel_rfl) (fun _ _ _ h => h) (Or.inl ⟨by kernel_rfl, fun w' hw' => by obtain ⟨q0, q1, q2⟩ := hw'; go_simp⟩) hS ?_
            refine wpAnyH_take (i := 6) (v := .pointer (some ⟨wr.heap.size, 2, none⟩)) rfl (by kernel_rfl) (by kernel_rfl) (by kernel_rfl) (fun _ _ _ h => h) (Or.inl ⟨by kernel_rfl, fun w' hw' => by obtain ⟨q0, q1, q2⟩ := hw'; go_simp⟩) hS ?_
            refine wpAnyH_take (i := 7) (v := .int .i64 (t : Int)) rfl (by kernel_rfl) (by kernel_rfl) (by kernel_rfl) (fun _ _ _ h => h) (Or.inl ⟨by kernel_rfl, fun w' hw' => by obtain ⟨q0, q1, q2⟩ := hw'; go_simp⟩) hS ?_
            refine wpAnyH_take (i := 8) (v := .pointer (some ⟨gk, t, none⟩)) rfl (by kernel_rfl) (by kernel_rfl) (by kernel_rfl) (fun _ _ _ h => h) (Or.inl ⟨by kernel_rfl, fun w' hw' => by obtain ⟨q0, q1, q2⟩ := hw'; go_simp⟩) hS ?_
            refine wpAnyH_take (i := 9) (v := .int .i64 (ct : Int)) rfl (by kernel_rfl) (by kernel_rfl) (by kernel_rfl) (fun _ _ _ h => h) (Or.inl ⟨by kernel_rfl, fun w' hw' => by obtain ⟨q0, q1, q2⟩ := hw'; go_simp⟩) hS ?_
            refine wpAnyH_take (i := 10) (v := .agg #[.int .i64 K, .int .i64 (e : Int), .int .i64 (ct : Int)]) rfl (by kernel_rfl) (by kernel_rfl) (by kernel_rfl) (fun _ _ _ h => h) (Or.inl ⟨by kernel_rfl, fun w' hw' => by obtain ⟨q0, q1, q2⟩ := hw'; go_simp⟩) hS ?_
            simp only [Act.put, List.setIfInBounds_toArray]
            refine wpAnyH_ready (rs := [1, 11]) (by kernel_rfl) (by simp) ?_
            refine AllReadyH.cons rfl (fun K' hK' => ?_) (AllReadyH.cons rfl (fun K' hK' => ?_) AllReadyH.nil)
            · go_simp
              refine hK'.out _ _ hS (fun hS1 => ?_)
              clear hK' K'
              refine wpAnyH_ready (rs := [11]) (by kernel_rfl) (by simp) ?_
              refine AllReadyH.cons rfl (fun K' hK' => ?_) AllReadyH.nil
              go_simp
              refine hK'.out _ _ (SA.out _ (Below.heap_alloc Y0 _ _ hwY) (Below.heap_alloc Y0 _ _ (by omega))) (fun hS2 => ?_)
              clear hK' K'
              refine wpAnyH_ready (rs := [12]) (by kernel_rfl) (by simp) ?_
              refine AllReadyH.cons rfl (fun K' hK' => ?_) AllReadyH.nil
              refine step_append_block rfl (.tmp 47) (.tmp 57) 23 rfl (w.heap.size + 4) 58 j0 (aval arr0) 3 24 Tryd.underlying23 ji jz0 jz1 jz2 rfl (by decide) _ A.length (aflat A) rfl (World.ownsRow.alloc HY.out.ar _) ⟨Y0.heap.size, 0, none⟩ 1 1 [.int .i64 K, .int .i64 (e : Int), .int .i64 (ct : Int)] rfl rfl (cells_three Y0 _ rfl _ _ _ _) (by intro u hu; simp at hu; rcases hu with rfl | rfl | rfl <;> rfl) (by decide) (by unfold maxLen; omega) (by omega) (Nat.le_trans hYB (by simp)) ?_
              intro v9 w9 o9 g9 n9
              obtain ⟨ga, gc, hv9, -, -, -⟩ := own_form2 o9
              subst hv9
              obtain ⟨e1, e2⟩ := HY.out.pushA ((Below.refl _ Y0).alloc (Nat.le_refl _) _) (own_arr (x := ⟨K, (e : Int), (ct : Int)⟩) o9) g9
              have z2 := e1.cell 3 rfl
              have zf := e1.frozen
              have E2 := Hid.of e2
              have hg1 : w9.heap[wr.heap.size]? = Y0.heap[wr.heap.size]? := (g9.block _ (by rw [World.size_alloc]; omega) (fun q => by have := HLT.out _ q.symm; omega)).trans (Below.heap_alloc Y0 _ _ hwY)
              have hg2 : w9.heap[gk]? = Y0.heap[gk]? := (g9.block _ (by rw [World.size_alloc]; omega) (fun q => by have := HLT.out _ q.symm; omega)).trans (Below.heap_alloc Y0 _ _ (by omega))
              refine hK'.out _ _ (SA.out _ hg1 hg2) (fun hS3 => ?_)
              clear hK' K' e1 e2 o9 g9 n9
              refine wpAnyH_take (i := 13) (v := .pointer (some ⟨w.heap.size + 3, 3, none⟩)) rfl (by kernel_rfl) (by kernel_rfl) (by kernel_rfl) (fun _ _ _ h => h) (Or.inl ⟨by kernel_rfl, fun w' hw' => by obtain ⟨q0, q1, q2⟩ := hw'; go_simp⟩) hS3 ?_
              simp only [Act.put, List.setIfInBounds_toArray]
              refine wpAnyH_ready (rs := [14]) (by kernel_rfl) (by simp) ?_
              refine AllReadyH.cons rfl (fun K' hK' => ?_) AllReadyH.nil
              go_simp
              refine hK'.out _ _ (SA.out _ ((Below.heap_setCell w9 ⟨w.heap.size + 3, 3, none⟩ _ _ (show wr.heap.size ≠ w.heap.size + 3 by omega)).trans hg1) ((Below.heap_setCell w9 ⟨w.heap.size + 3, 3, none⟩ _ _ (show gk ≠ w.heap.size + 3 by omega)).trans hg2)) (fun hS4 => ?_)
              clear hK' K' hS4 hS3
              refine wpAnyH_done (by kernel_rfl) ?_ _
              clear z2 zf hg1 hg2 SA d3 d3a HY NY ZY
              revert E2
              generalize w9.setCell ⟨w.heap.size + 3, 3, none⟩ (.slice ga (A.length + 1) gc) = Y1
              generalize Value.slice ga (A.length + 1) gc = va9
              intro E2
              go_wp2_with fail
              go_roundw
              case rel => exact ⟨e + 1, va9, by go_num, by omega, (by show FO _ _ _ _ _ _ _ _ _; rw [HNX.out]; exact E2.out)⟩
              case measure => simp [intOf]; omega
            · go_simp
              refine hK'.out _ _ (SA.out _ (Below.heap_alloc Y0 _ _ hwY) (Below.heap_alloc Y0 _ _ (by omega))) (fun hS2 => ?_)
              clear hK' K'
              refine wpAnyH_ready (rs := [1]) (by kernel_rfl) (by simp) ?_
              refine AllReadyH.cons rfl (fun K' hK' => ?_) AllReadyH.nil
              go_simp
              refine hK'.out _ _ hS2 (fun hS1 => ?_)
              clear hK' K'
              refine wpAnyH_ready (rs := [12]) (by kernel_rfl) (by simp) ?_
              refine AllReadyH.cons rfl (fun K' hK' => ?_) AllReadyH.nil
              refine step_append_block rfl (.tmp 47) (.tmp 57) 23 rfl (w.heap.size + 4) 58 j0 (aval arr0) 3 24 Tryd.underlying23 ji jz0 jz1 jz2 rfl (by decide) _ A.length (aflat A) rfl (World.ownsRow.alloc HY.out.ar _) ⟨Y0.heap.size, 0, none⟩ 1 1 [.int .i64 K, .int .i64 (e : Int), .int .i64 (ct : Int)] rfl rfl (cells_three Y0 _ rfl _ _ _ _) (by intro u hu; simp at hu; rcases hu with rfl | rfl | rfl <;> rfl) (by decide) (by unfold maxLen; omega) (by omega) (Nat.le_trans hYB (by simp)) ?_
              intro v9 w9 o9 g9 n9
              obtain ⟨ga, gc, hv9, -, -, -⟩ := own_form2 o9
              subst hv9
              obtain ⟨e1, e2⟩ := HY.out.pushA ((Below.refl _ Y0).alloc (Nat.le_refl _) _) (own_arr (x := ⟨K, (e : Int), (ct : Int)⟩) o9) g9
              have z2 := e1.cell 3 rfl
              have zf := e1.frozen
              have E2 := Hid.of e2
              have hg1 : w9.heap[wr.heap.size]? = Y0.heap[wr.heap.size]? := (g9.block _ (by rw [World.size_alloc]; omega) (fun q => by have := HLT.out _ q.symm; omega)).trans (Below.heap_alloc Y0 _ _ hwY)
              have hg2 : w9.heap[gk]? = Y0.heap[gk]? := (g9.block _ (by rw [World.size_alloc]; omega) (fun q => by have := HLT.out _ q.symm; omega)).trans (Below.heap_alloc Y0 _ _ (by omega))
              refine hK'.out _ _ (SA.out _ hg1 hg2) (fun hS3 => ?_)
              clear hK' K' e1 e2 o9 g9 n9
              refine wpAnyH_take (i := 13) (v := .pointer (some ⟨w.heap.size + 3, 3, none⟩)) rfl (by kernel_rfl) (by kernel_rfl) (by kernel_rfl) (fun _ _ _ h => h) (Or.inl ⟨by kernel_rfl, fun w' hw' => by obtain ⟨q0, q1, q2⟩ := hw'; go_simp⟩) hS3 ?_
              simp only [Act.put, List.setIfInBounds_toArray]
              refine wpAnyH_ready (rs := [14]) (by kernel_rfl) (by simp) ?_
              refine AllReadyH.cons rfl (fun K' hK' => ?_) AllReadyH.nil
              go_simp
              refine hK'.out _ _ (SA.out _ ((Below.heap_setCell w9 ⟨w.heap.size + 3, 3, none⟩ _ _ (show wr.heap.size ≠ w.heap.size + 3 by omega)).trans hg1) ((Below.heap_setCell w9 ⟨w.heap.size + 3, 3, none⟩ _ _ (show gk ≠ w.heap.size + 3 by omega)).trans hg2)) (fun hS4 => ?_)
              clear hK' K' hS4 hS3
              refine wpAnyH_done (by kernel_rfl) ?_ _
              clear z2 zf hg1 hg2 SA d3 d3a HY NY ZY
              revert E2
              generalize w9.setCell ⟨w.heap.size + 3, 3, none⟩ (.slice ga (A.length + 1) gc) = Y1
              generalize Value.slice ga (A.length + 1) gc = va9
              intro E2
              go_wp2_with fail
              go_roundw
              case rel => exact ⟨e + 1, va9, by go_num, by omega, (by show FO _ _ _ _ _ _ _ _ _; rw [HNX.out]; exact E2.out)⟩
              case measure => simp [intOf]; omega
          · have e2 : e = ev := by omega
            subst e2
            rw [← HE1.out] at HF
            have x4 : wr.cell? ⟨w.heap.size, 4, none⟩ = some (.slice a3 ends.length c3) := HF.out.kb.cell 4 rfl
            have hml := h.out.below HF.out.low (Nat.le_refl _)
            have KEY := Hid.of (rowHas_any a3 c3 ends (n : Int) wr hml.e (Nat.le_trans hml.e1 hml.e2))
            clear hml
            go_wp2_with fail
            refine KEY.out.mono ?_
            rintro r w1 ⟨rfl, rfl⟩
            clear KEY x4
            cases hh : hasB ends (n : Int) with
            | false =>
              have HEN : Hid (endF ends c (n + 1) = endF ends c n) := by show _ = _; rw [HE3.out, hh]; simp
              clear hh
              go_wp2_with fail
              go_roundw
              case rel => exact ⟨n + 1, K + 1, va, ve, by go_num, by omega, (by show K + 1 = _; rw [HE2.out, HK.out]; rfl), (by show FO _ _ _ _ _ _ _ _ _; rw [HEN.out]; exact HF.out)⟩
              case measure => simp [intOf]; omega
            | true =>
              have HEN : Hid (endF ends c (n + 1) = endF ends c n ++ [K]) := by show _ = _; rw [HE3.out, hh, if_pos rfl, HKC.out]
              clear hh
              obtain ⟨fa, fc, hfa, -, -, -⟩ := own_form2 HF.out.en
              subst hfa
              have d4 : w1.cell? ⟨w.heap.size + 3, 4, none⟩ = some (.slice fa (endF ends c n).length fc) := HF.out.nb.cell 4 rfl
              have hbB := HF.out.hB
              have hel := hEL.out
              go_wp2_with (at_builtin; refine wpList_append_block _ rfl (.tmp 66) (.tmp 68) 22 rfl (w.heap.size + 4) 3 i0 (.int .i64 0) 1 8 Tryd.underlying22 hi hz0 hz1 hz2 rfl (by decide) _ _ _ rfl (World.ownsRow.alloc HF.out.en _) ⟨w1.heap.size, 0, none⟩ 1 1 [.int .i64 K] rfl rfl (cell_one_new _ _ _) (by intro u hu; simp at hu; subst hu; rfl) (by decide) (by unfold maxLen; omega) (by omega) (by simp; omega) ?_)
              intro v9 w9 o9 g9 n9
              obtain ⟨ga, gc, hv9, -, -, -⟩ := own_form2 o9
              subst hv9
              obtain ⟨e1, e2⟩ := HF.out.pushE (t := K) ((Below.refl _ w1).alloc (Nat.le_refl _) _) (by unfold Own; rw [List.length_append, List.map_append]; exact o9) g9
              have z2 := e1.cell 4 rfl
              have zf := e1.frozen
              have E2 := Hid.of e2
              clear e1 e2 o9 g9 n9 d4 HF
              go_wp2_with fail
              go_roundw
              case rel => exact ⟨n + 1, K + 1, va, _, by go_num, by omega, (by show K + 1 = _; rw [HE2.out, HK.out]; rfl), (by show FO _ _ _ _ _ _ _ _ _; rw [HEN.out]; exact E2.out)⟩
              case measure => simp [intOf]; omega
      · have hKc : ¬ ((c n : Nat) : Int) = K := by rw [HK.out]; omega
        have hbe : (((c n : Nat) : Int) != K) = true := by simp [hKc]
        have hbe2 : (((c n : Nat) : Int) == K) = false := by simp [hKc]
        obtain ⟨e1, e2, e3⟩ := fold_old (D := ars) (E := ends) (ev := ev) hnew
        have HE1 := Hid.of e1
        have HE2 := Hid.of e2
        have HE3 := Hid.of e3
        clear hnew e1 e2 e3
        go_wp2_with fail
        go_roundw
        case rel => exact ⟨n + 1, K, va, ve, by go_num, by omega, (by show K = _; rw [HE3.out]; exact HK.out), (by show FO _ _ _ _ _ _ _ _ _; rw [HE1.out, HE2.out]; exact HF.out)⟩
        case measure => simp [intOf]; omega
    · have e2 : n = N := by omega
      subst e2
      obtain ⟨aa, ac, hva, -, -, -⟩ := own_form2 HF.out.ar
      obtain ⟨ea, ec, hve, -, -, -⟩ := own_form2 HF.out.en
      subst hva
      subst hve
      obtain ⟨p1, p2⟩ := HF.out.mat
      have HP1 := Hid.of p1
      have HP2 := Hid.of p2
      clear p1 p2
      have o0 : wr.cell? ⟨w.heap.size + 3, 0, none⟩ = some (.int .i64 K) := HF.out.nb.cell 0 rfl
      have o1 : wr.cell? ⟨w.heap.size + 3, 1, none⟩ = some (.int .i64 ev) := HF.out.nb.cell 1 rfl
      have o2 : wr.cell? ⟨w.heap.size + 3, 2, none⟩ = some (.slice (some ⟨w.heap.size + 2, 0, none⟩) 1 1) := HF.out.nb.cell 2 rfl
      have o3 : wr.cell? ⟨w.heap.size + 3, 3, none⟩ = some (.slice aa (arrF ars c ev n).length ac) := HF.out.nb.cell 3 rfl
      have o4 : wr.cell? ⟨w.heap.size + 3, 4, none⟩ = some (.slice ea (endF ends c n).length ec) := HF.out.nb.cell 4 rfl
      obtain ⟨r0, r1, r2, r3, r4⟩ := zcell_at HF.out.zb
      have rz := HF.out.zb.frozen
      have R1 := Hid.of (HF.out.zb.set5 (.int .i64 K) (.int .i64 ev) (.slice (some ⟨w.heap.size + 2, 0, none⟩) 1 1) (.slice aa (arrF ars c ev n).length ac) (.slice ea (endF ends c n).length ec))
      have B1 := Hid.of (below_set5 HF.out.low (b' := w.heap.size + 1) (by omega) (.int .i64 K) (.int .i64 ev) (.slice (some ⟨w.heap.size + 2, 0, none⟩) 1 1) (.slice aa (arrF ars c ev n).length ac) (.slice ea (endF ends c n).length ec))
      have M1 := Hid.of (HP1.out.set5 HP2.out (b := w.heap.size + 1) (by omega) (.int .i64 K) (.int .i64 ev) (.slice (some ⟨w.heap.size + 2, 0, none⟩) 1 1) (.slice aa (arrF ars c ev n).length ac) (.slice ea (endF ends c n).length ec))
      go_wp2_with fail
      refine bodyPost_ret (v := mval ⟨K, (ev : Int), [0], arrF ars c ev n, endF ends c n⟩ ⟨some ⟨w.heap.size + 2, 0, none⟩, 1, aa, ac, ea, ec⟩) ?_ rfl ?_
      · exact results_cell_row (g := w.heap.size + 1) (p := 4) rfl _ _ _ _ _ _ rfl R1.out Tryd.underlying25 rfl (by kernel_rfl)
      · unfold FoldPost
        rw [← HK.out]
        exact ⟨_, rfl, M1.out, ⟨fr_mono HP2.out.s (by omega), fr_mono HP2.out.a (by omega), fr_mono HP2.out.e (by omega)⟩, B1.out⟩

end Go.Proofs.YtbdkaobbfmgnhaaDoor
namespace Go.Proofs.YtbdkaobbfmgnhaaDoor
open Go.RowKit
set_option linter.unusedVariables false

/-- What refuse tells. -/
def lrefB (m : Mach) : Int := if mayB m = false then 2 else if 6 < m.st then 1 else 0
set_option maxRecDepth 100000 in
set_option maxHeartbeats 4000000 in
theorem lrefuse_any (m : Mach) (l : ML) (w : World) (h : Hid (MAt w m l)) :
    Calls Tryd.prog 84 #[mval m l] w fun e w' => e = .returned (.int .i64 (lrefB m)) ∧ Below w.heap.size w w' := by
  have B0 : Hid (Below w.heap.size w (w.alloc (.cells (mcells m l) 25))) := (Below.refl _ _).alloc (Nat.le_refl _) _
  have K0 : Hid (Blk (w.alloc (.cells (mcells m l) 25)) w.heap.size 25 (mcells m l)) := Blk.new w _ _
  go_enter Tryd.func84, Tryd.ntmps84
  go_wp2_with fail
  revert B0 K0
  generalize w.alloc (.cells (mcells m l) 25) = V0
  intro B0 K0
  refine (pMay_any m l _ (h.out.below B0.out (Nat.le_refl _))).mono ?_
  rintro e V ⟨rfl, hb1⟩
  have B1 := Hid.of (B0.out.trans (hb1.mono B0.out.size))
  have x0 : V.cell? ⟨w.heap.size, 0, none⟩ = some (.int .i64 m.st) := (K0.out.below hb1 K0.out.lt).cell 0 rfl
  clear hb1 B0 K0
  cases hm : mayB m with
  | false =>
    have HV : Hid (lrefB m = 2) := by show _ = _; unfold lrefB; rw [if_pos hm]
    clear hm
    go_wp2
    exact bodyPost_ret (v := .int .i64 2) (by simp [results, go_sem]) rfl ⟨by rw [HV.out], B1.out⟩
  | true =>
    by_cases hs : 6 < m.st
    · have HV : Hid (lrefB m = 1) := by show _ = _; unfold lrefB; rw [if_neg (by rw [hm]; simp), if_pos hs]
      clear hm
      go_wp2
      exact bodyPost_ret (v := .int .i64 1) (by simp [results, go_sem]) rfl ⟨by rw [HV.out], B1.out⟩
    · have HV : Hid (lrefB m = 0) := by show _ = _; unfold lrefB; rw [if_neg (by rw [hm]; simp), if_neg hs]
      clear hm
      go_wp2
      exact bodyPost_ret (v := .int .i64 0) (by simp [results, go_sem]) rfl ⟨by rw [HV.out], B1.out⟩

set_option maxRecDepth 100000 in
set_option maxHeartbeats 4000000 in
theorem lea_err (m : Mach) (l : ML) (w : World) (h : Hid (MAt w m l)) (hc : Hid (lrefB m ≠ 0)) (ho : Hid (LeastOut m m0 (lrefB m))) :
    Calls Tryd.prog 41 #[mval m l] w fun e w' => LeastPost w m e w' := by
  have B0 : Hid (Below w.heap.size w ((w.alloc (.cells (mcells m l) 25)).alloc (.cells zcells 25))) := ((Below.refl _ _).alloc (Nat.le_refl _) _).alloc (by simp) _
  have R0 : Hid (Blk ((w.alloc (.cells (mcells m l) 25)).alloc (.cells zcells 25)) (w.heap.size + 1) 25 zcells) := by
    have := Blk.new (w.alloc (.cells (mcells m l) 25)) 25 zcells
    rwa [World.size_alloc] at this
  go_enter Tryd.func41, Tryd.ntmps41
  go_wp2_with fail
  revert B0 R0
  generalize (w.alloc (.cells (mcells m l) 25)).alloc (.cells zcells 25) = V0
  intro B0 R0
  refine (lrefuse_any m l _ (h.out.below B0.out (Nat.le_refl _))).mono ?_
  rintro e V ⟨rfl, hb1⟩
  have B1 := Hid.of (B0.out.trans (hb1.mono B0.out.size))
  have R1 := Hid.of (R0.out.below hb1 R0.out.lt)
  clear hb1 B0 R0
  obtain ⟨r0, r1, r2, r3, r4⟩ := zcell_at R1.out
  have rz := R1.out.frozen
  have RR : Hid (Blk _ (w.heap.size + 1) 25 (mcells m0 ml0)) := R1.out.set5 (.int .i64 0) (.int .i64 0) (.slice none 0 0) (.slice none 0 0) (.slice none 0 0)
  obtain ⟨c, HC⟩ : ∃ c, Hid (c = lrefB m) := ⟨_, rfl⟩
  rw [← HC.out] at hc ho ⊢
  have hc0 : (c == 0) = false := by simpa using hc.out
  have hc1 : ¬ c = 0 := hc.out
  go_wp2
  refine bodyPost_ret (v := .tuple #[mval m0 ml0, .int .i64 c]) ?_ rfl ⟨m0, ml0, c, ho.out, rfl, mat0 _, below_set5 B1.out (b' := w.heap.size + 1) (by omega) _ _ _ _ _⟩
  exact results_twoM (p := 2) (u := 3) rfl _ _ (w.heap.size + 1) m0 ml0 _ rfl rfl RR.out

/-- What is folded is the least machine. -/
theorem fold_isLeast {m : Mach} (hm : mayB m = true) (zm : m.st ≤ 6) {s : DS} (hs : detS m = some s) {ev N : Nat} (hE : m.ev = (ev : Int)) (hN : s.sets.length = N) {c : Nat → Nat} (hrg : RGr c N) (hap : ∀ x y : Int, 0 ≤ x → x < (detM m s).st → 0 ≤ y → y < (detM m s).st → (decide (c x.toNat ≠ c y.toNat) = true ↔ langS (detM m s) [x] ≠ langS (detM m s) [y])) : IsLeast m ⟨((reps c N).length : Int), (ev : Int), [0], arrF s.ar c ev N, endF (endsD m.ends s.sets) c N⟩ := by
  intro inst
  have hd := det_det hm hs
  have hst : (detM m s).st = (N : Int) := by show (s.sets.length : Int) = _; rw [hN]
  have hdi := (detS_di hm hs).1
  have h64 : N ≤ 64 := by rw [← hN]; exact di_small zm hdi
  have hN0 : 0 < N := by rw [← hN]; exact hdi.pos
  have hev : (detM m s).ev = (ev : Int) := hE
  have hcg : ∀ x y e : Nat, x < N → y < N → e < ev → c x = c y → c (toI (detM m s).arrows (x : Int) (e : Int)).toNat = c (toI (detM m s).arrows (y : Int) (e : Int)).toNat := by
    intro x y e hx hy he hxy
    have q1 := toI_step hd (Int.natCast_nonneg x) (by rw [hst]; omega) (Int.natCast_nonneg e) (by rw [hev]; omega)
    have q2 := toI_step hd (Int.natCast_nonneg y) (by rw [hst]; omega) (Int.natCast_nonneg e) (by rw [hev]; omega)
    have k1 : langS (detM m s) [(x : Int)] = langS (detM m s) [(y : Int)] := by
      have := hap (x : Int) (y : Int) (by omega) (by rw [hst]; omega) (by omega) (by rw [hst]; omega)
      simp only [Int.toNat_natCast] at this
      by_cases q : langS (detM m s) [(x : Int)] = langS (detM m s) [(y : Int)]
      · exact q
      · have := this.2 q
        simp [hxy] at this
    have k2 : langS (detM m s) [toI (detM m s).arrows (x : Int) (e : Int)] = langS (detM m s) [toI (detM m s).arrows (y : Int) (e : Int)] := by
      rw [← langS_step hd (Int.natCast_nonneg x) (by rw [hst]; omega) (by rw [hev]; omega), ← langS_step hd (Int.natCast_nonneg y) (by rw [hst]; omega) (by rw [hev]; omega), k1]
    have := hap _ _ q1.2.1 q1.2.2 q2.2.1 q2.2.2
    by_cases q : c (toI (detM m s).arrows (x : Int) (e : Int)).toNat = c (toI (detM m s).arrows (y : Int) (e : Int)).toNat
    · exact q
    · exact absurd k2 (this.1 (decide_eq_true q))
  have h1 := fold_least hst hev hd (det_bfn hm hs) hrg hcg hN0 (Nat.le_trans (reps_len c N) h64)
  have h2 := leastR_det hm hs hap
  rw [← h2, h1]
  unfold foldM
  rw [hst, hev]
  rfl

end Go.Proofs.YtbdkaobbfmgnhaaDoor
