/-
  The walk of machine.Of: a set of a list's numbers.
  The walks of math/bits.TrailingZeros64 (where its table lies as laid), of Set.All and of the iterator that it answers.
-/
import Derived.Test.YtbdkaobbfmgnhaaDoorCSetOps
import Derived.Shelf.Spec.TrailingZeros
import Derived.RangeFuncNested
import Derived.RangeFuncBound
import Derived.RangeFuncCalls
import Derived.RangeFuncLeaves
import Derived.Shelf.Abstract
import Derived.Shelf.RegionOpen
import Derived.OwnWalkIn
import Derived.TacticsInMore
import Derived.LoopNIn
import Derived.LoopIn
import Derived.Maps.AppendAt
namespace Go.Proofs.YtbdkaobbfmgnhaaDoor
open Go.RowKit
set_option linter.unusedVariables false

theorem ofS_take {xs : List Int} {k : Nat} {x : Int} (h : k < xs.length) (hx : Hid (x = xs[k]?.getD 0)) : ofS (xs.take (k + 1)) = withS (ofS (xs.take k)) x.toNat := by
  have hx := hx.out
  rw [List.getElem?_eq_getElem h, Option.getD_some] at hx
  rw [List.take_add_one, List.getElem?_eq_getElem h, ← hx]
  exact ofS_snoc _ _

theorem SB.set4 {W : World} {b : Nat} {S : Nat → Nat} (h : SB W b S) (T : Nat → Nat) : SB ((((W.setCell ⟨b, 0, none⟩ (.int .u64 (T 0))).setCell ⟨b, 1, none⟩ (.int .u64 (T 1))).setCell ⟨b, 2, none⟩ (.int .u64 (T 2))).setCell ⟨b, 3, none⟩ (.int .u64 (T 3))) b T :=
  (((h.set 0 (.int .u64 (T 0))).set 1 (.int .u64 (T 1))).set 2 (.int .u64 (T 2))).set 3 (.int .u64 (T 3))
theorem Blk.other4 {W : World} {b b' : Nat} {t : TypeId} {cs : Array Value} (h : Blk W b t cs) (hne : b ≠ b') (v0 v1 v2 v3 : Value) : Blk ((((W.setCell ⟨b', 0, none⟩ v0).setCell ⟨b', 1, none⟩ v1).setCell ⟨b', 2, none⟩ v2).setCell ⟨b', 3, none⟩ v3) b t cs :=
  (((h.other hne v0).other hne v1).other hne v2).other hne v3
theorem below_set4 {W V : World} {B b' : Nat} (h : Below B V W) (hb : B ≤ b') (v0 v1 v2 v3 : Value) : Below B V ((((W.setCell ⟨b', 0, none⟩ v0).setCell ⟨b', 1, none⟩ v1).setCell ⟨b', 2, none⟩ v2).setCell ⟨b', 3, none⟩ v3) :=
  (((h.setCell (p := ⟨b', 0, none⟩) hb v0).setCell (p := ⟨b', 1, none⟩) hb v1).setCell (p := ⟨b', 2, none⟩) hb v2).setCell (p := ⟨b', 3, none⟩) hb v3

set_option maxHeartbeats 2000000 in
theorem of_some (b off cap : Nat) (xs : List Int) (w : World) (hl : xs.length ≤ 9223372036854775807) (hb : b < w.heap.size) (hc : Cells w b off xs) (hbd : ∀ x ∈ xs, 0 ≤ x ∧ x < 256) :
    Calls Tryd.prog 52 #[.slice (some ⟨b, off, none⟩) xs.length cap] w fun e w' => e = .returned (sval (ofS xs)) ∧ Below w.heap.size w w' := by
  have HR : Hid (∀ k, Rep (ofS (xs.take k)) (xs.take k)) := fun k => rep_of hbd k
  have HB := Hid.of hbd
  clear hbd
  go_enter Tryd.func52, Tryd.ntmps52
  go_wp2
  go_loopw [8] (fun i wr => ∃ k : Nat, k ≤ xs.length ∧ i = .int .i64 k ∧ SB wr (w.heap.size + 1) (ofS (xs.take k)) ∧ SB wr w.heap.size zeroS ∧ Below w.heap.size w wr) (fun i _ => xs.length - (intOf i).toNat)
  case atStart =>
    refine ⟨0, by omega, rfl, ?_, (Blk.new w _ _).alloc _, ((Below.refl _ _).alloc (Nat.le_refl _) _).alloc (by simp) _⟩
    have := (Blk.new (w.alloc (.cells (scells zeroS) 62)) 62 (scells zeroS))
    rwa [World.size_alloc] at this
  case round =>
    obtain ⟨k, hk, rfl, s1, s2, hB⟩ := hrel
    by_cases hlt : k < xs.length
    · obtain ⟨x, HX, hcx0⟩ := hc.at hlt
      have hcx := (hB.cell (p := ⟨b, off + k, none⟩) hb).trans hcx0
      clear hcx0
      have hx2 : 0 ≤ x ∧ x < 256 := by
        have hx := HX.out
        rw [List.getElem?_eq_getElem hlt, Option.getD_some] at hx
        rw [hx]; exact HB.out _ (List.getElem_mem hlt)
      have hok := Hid.of (HR.out k).ok
      obtain ⟨T, hT⟩ : ∃ T, T = ofS (xs.take k) := ⟨_, rfl⟩
      have HT := Hid.of hT
      rw [← hT] at s1 hok
      clear hT
      obtain ⟨p0, p1, p2, p3⟩ := s1.cells
      have hl1 := s1.lt
      go_wp2_with (go_at_call 95; refine (with_any T x _ hok.out hx2.1 hx2.2).mono ?_; rintro e w1 ⟨rfl, hb1⟩; have s3 := s1.below hb1 s1.lt; have s4 := s2.below hb1 s2.lt; have fz := s3.frozen; obtain ⟨q0, q1, q2, q3⟩ := SB.cells s3)
      go_roundw
      case rel =>
        refine ⟨k + 1, by omega, by go_num, ?_, s4.other4 (by omega) _ _ _ _, below_set4 (hB.trans (hb1.mono hB.size)) (by omega) _ _ _ _⟩
        rw [ofS_take hlt HX, ← HT.out]
        exact SB.set4 s3 _
      case measure => simp [intOf]; omega
    · rw [List.take_of_length_le (by omega)] at s1
      obtain ⟨p0, p1, p2, p3⟩ := s1.cells
      obtain ⟨r0, r1, r2, r3⟩ := s2.cells
      have fz := s2.frozen
      have k2 := Hid.of (SB.set4 s2 (ofS xs))
      go_wp2
      refine bodyPost_ret (v := sval (ofS xs)) ?_ rfl ⟨rfl, below_set4 hB (by omega) _ _ _ _⟩
      exact results_cell_row (g := w.heap.size) (p := 2) rfl _ _ _ _ _ _ rfl k2.out Tryd.underlying62 rfl (by kernel_rfl)

set_option maxHeartbeats 400000 in
theorem of_nil (a : Option Addr) (cap : Nat) (w : World) :
    Calls Tryd.prog 52 #[.slice a 0 cap] w fun e w' => e = .returned (sval (ofS [])) ∧ Below w.heap.size w w' := by
  go_enter Tryd.func52, Tryd.ntmps52
  go_wp2
  refine wp_loop_rounds 1 ?_
  rw [rounds_succ]
  have s1 : SB ((w.alloc (.cells (scells zeroS) 62)).alloc (.cells (scells zeroS) 62)) w.heap.size zeroS := (Blk.new w _ _).alloc _
  have s2 : SB ((w.alloc (.cells (scells zeroS) 62)).alloc (.cells (scells zeroS) 62)) (w.heap.size + 1) zeroS := by
    have := (Blk.new (w.alloc (.cells (scells zeroS) 62)) 62 (scells zeroS))
    rwa [World.size_alloc] at this
  have hB : Below w.heap.size w ((w.alloc (.cells (scells zeroS) 62)).alloc (.cells (scells zeroS) 62)) := ((Below.refl _ _).alloc (Nat.le_refl _) _).alloc (by simp) _
  revert s1 s2 hB
  show SB ((w.alloc (.cells #[.int .u64 0, .int .u64 0, .int .u64 0, .int .u64 0] 62)).alloc (.cells #[.int .u64 0, .int .u64 0, .int .u64 0, .int .u64 0] 62)) w.heap.size zeroS → SB ((w.alloc (.cells #[.int .u64 0, .int .u64 0, .int .u64 0, .int .u64 0] 62)).alloc (.cells #[.int .u64 0, .int .u64 0, .int .u64 0, .int .u64 0] 62)) (w.heap.size + 1) zeroS → Below w.heap.size w ((w.alloc (.cells #[.int .u64 0, .int .u64 0, .int .u64 0, .int .u64 0] 62)).alloc (.cells #[.int .u64 0, .int .u64 0, .int .u64 0, .int .u64 0] 62)) → _
  generalize (w.alloc (.cells #[.int .u64 0, .int .u64 0, .int .u64 0, .int .u64 0] 62)).alloc (.cells #[.int .u64 0, .int .u64 0, .int .u64 0, .int .u64 0] 62) = W
  intro s2 s1 hB
  obtain ⟨p0, p1, p2, p3⟩ := s1.cells
  obtain ⟨r0, r1, r2, r3⟩ := s2.cells
  have fz := s2.frozen
  have k2 := Hid.of (SB.set4 s2 zeroS)
  go_wp2
  refine bodyPost_ret (v := sval (ofS [])) ?_ rfl ⟨rfl, below_set4 hB (by omega) _ _ _ _⟩
  exact results_cell_row (g := w.heap.size) (p := 2) rfl _ _ _ _ _ _ rfl k2.out Tryd.underlying62 rfl (by kernel_rfl)

theorem of_any (a : Option Addr) (cap : Nat) (xs : List Int) (w : World) (hs : At w a xs) (hl : xs.length ≤ maxLen) (hbd : ∀ x ∈ xs, 0 ≤ x ∧ x < 256) :
    Calls Tryd.prog 52 #[.slice a xs.length cap] w fun e w' => e = .returned (sval (ofS xs)) ∧ Below w.heap.size w w' := by
  rcases hs with rfl | ⟨b, off, rfl, hb, hc⟩
  · exact of_nil a cap w
  · exact of_some b off cap xs w hl hb hc hbd

end Go.Proofs.YtbdkaobbfmgnhaaDoor
namespace Go.Proofs.YtbdkaobbfmgnhaaDoor
open Go.RowKit Go.Shelf
set_option linter.unusedVariables false
attribute [local go_sem] Oper.semAt_some

/-- The table of math/bits lies in its variable. -/
structure Tab (w : World) : Prop where
  lt : 0 < w.heap.size
  at' : ∀ j, j < 64 → w.cell? ⟨0, j, none⟩ = some (.int .u8 (Lib.deBruijn64tab.getD j 0))

theorem Tab.below {w w' : World} {B : Nat} (h : Tab w) (hb : Below B w w') (hB : 0 < B) : Tab w' :=
  ⟨Nat.lt_of_lt_of_le h.lt hb.size, fun j hj => (hb.cell (p := ⟨0, j, none⟩) hB).trans (h.at' j hj)⟩

set_option maxHeartbeats 1000000 in
theorem tz_core (x k idx : Nat) (w : World) (hx0 : ((x : Int) == 0) = false)
    (key : IntKind.u64.wrap (bits BinOp.and IntKind.u64 (x : Int) (IntKind.u64.wrap (-(x : Int))) * 285870213051353865) / 288230376151711744 = (idx : Int))
    (hi : idx < 64) (hk : k < 64) (hcell : w.cell? ⟨0, idx, none⟩ = some (.int .u8 k)) :
    Calls Tryd.prog 127 #[.int .u64 x] w fun e w' => e = .returned (.int .i64 k) ∧ w' = w := by
  go_enter Tryd.func127, Tryd.ntmps127
  go_wp2_with (simp only [key])
  go_ret
  exact ⟨rfl, rfl⟩

theorem tz_any (x : Nat) (w : World) (hx0 : x ≠ 0) (hx : x < 18446744073709551616) (hT : Tab w) :
    Calls Tryd.prog 127 #[.int .u64 x] w fun e w' => e = .returned (.int .i64 (Lib.ctz 64 x)) ∧ w' = w := by
  obtain ⟨hlow, hk⟩ := Lib.lowest_bit 64 x hx0 hx
  obtain ⟨hi, htab⟩ := Lib.deBruijn64_at _ hk
  have hcell := hT.at' _ hi
  rw [htab] at hcell
  exact tz_core x _ _ w (by simp; omega) (tz64_key x _ hx hx0 hlow) hi hk hcell

set_option maxHeartbeats 400000 in
theorem all_any (S : Nat → Nat) (w : World) :
    Calls Tryd.prog 94 #[sval S] w fun e w' => e = .returned (.func (.func 126) #[] #[.pointer (some ⟨w.heap.size, 0, none⟩)]) ∧ w' = w.alloc (.cells (scells S) 62) := by
  have hmf : ∀ (fn : Fn) (first cap : Array Value) (w : World), (Instr.makeFunc fn first cap).run Tryd.prog w = .ok (.func fn first cap) w := fun _ _ _ _ => rfl
  go_enter Tryd.func94, Tryd.ntmps94
  go_wp2
  go_ret
  exact ⟨rfl, rfl⟩

/-- Numbers below N. -/
abbrev NB (N : Nat) : Type := { n : Nat // n < N }
abbrev nbval {N : Nat} (x : NB N) : Array Value := #[.int .i64 (x.1 : Int)]

end Go.Proofs.YtbdkaobbfmgnhaaDoor
