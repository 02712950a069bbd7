/-
  The region of diagnose's watcher.goOn that makes the sets of two states, in every order that is left open.
-/
import Derived.Test.YtgebfkmfhpcdhaaDoorH18
import Derived.Test.YtgebfkmfhpcdhaaDoorH11
import Derived.Test.YtgebfkmfhpcdhaaDoorH13
namespace Go.Proofs.YtgebfkmfhpcdhaaDoor
open Go.RowKit
set_option linter.unusedVariables false

theorem at_oneB {W : World} {b : Nat} {x : Int} (h : Blk W b 3 #[.int .i64 x]) : At W (some ⟨b, 0, none⟩) [x] := by
  refine .inr ⟨_, 0, rfl, h.lt, fun j hj => ?_⟩
  have : j = 0 := by simp at hj; omega
  subst this
  exact h.cell 0 rfl
/-- The region's operations. -/
abbrev opsG2 : Array Oper := #[{ dst := some 16, op := Op.fieldAddr 198 (Operand.tmp 3) 0, type := 0, pos := "diagnose.go:87", after := #[], guard := none }, { dst := some 17, op := Op.load 3 (Operand.tmp 16), type := 3, pos := "diagnose.go:87", after := #[{ on := 0, ground := Ground.data }], guard := none }, { dst := some 18, op := Op.buildSlice 22 1 #[(0, Operand.tmp 17)], type := 22, pos := "diagnose.go:87", after := #[{ on := 1, ground := Ground.data }], guard := none }, { dst := some 19, op := Op.call { callee := Callee.value (Operand.func 62), args := #[Operand.tmp 18], argTypes := #[22] }, type := 79, pos := "diagnose.go:87", after := #[{ on := 2, ground := Ground.data }], guard := none }, { dst := some 20, op := Op.fieldAddr 198 (Operand.tmp 3) 1, type := 0, pos := "diagnose.go:87", after := #[], guard := none }, { dst := some 21, op := Op.load 3 (Operand.tmp 20), type := 3, pos := "diagnose.go:87", after := #[{ on := 4, ground := Ground.data }], guard := none }, { dst := some 22, op := Op.buildSlice 22 1 #[(0, Operand.tmp 21)], type := 22, pos := "diagnose.go:87", after := #[{ on := 5, ground := Ground.data }], guard := none }, { dst := some 23, op := Op.call { callee := Callee.value (Operand.func 62), args := #[Operand.tmp 22], argTypes := #[22] }, type := 79, pos := "diagnose.go:87", after := #[{ on := 6, ground := Ground.data }, { on := 3, ground := Ground.chain }], guard := none }, { dst := some 5, op := Op.alloc 79, type := 0, pos := "diagnose.go:87", after := #[], guard := none }, { dst := some 6, op := Op.alloc 79, type := 0, pos := "diagnose.go:87", after := #[], guard := none }, { dst := none, op := Op.store 79 (Operand.tmp 5) (Operand.tmp 19), type := 0, pos := "diagnose.go:87", after := #[{ on := 8, ground := Ground.data }, { on := 3, ground := Ground.data }, { on := 7, ground := Ground.chain }, { on := 0, ground := Ground.phase }, { on := 1, ground := Ground.phase }, { on := 2, ground := Ground.phase }, { on := 3, ground := Ground.phase }, { on := 4, ground := Ground.textOnly Departure.lateStores }, { on := 5, ground := Ground.textOnly Departure.lateStores }, { on := 6, ground := Ground.textOnly Departure.lateStores }, { on := 7, ground := Ground.textOnly Departure.lateStoresUnsure }, { on := 8, ground := Ground.phase }, { on := 9, ground := Ground.phase }], guard := none }, { dst := none, op := Op.store 79 (Operand.tmp 6) (Operand.tmp 23), type := 0, pos := "diagnose.go:87", after := #[{ on := 9, ground := Ground.data }, { on := 7, ground := Ground.data }, { on := 10, ground := Ground.chain }, { on := 0, ground := Ground.phase }, { on := 1, ground := Ground.phase }, { on := 2, ground := Ground.phase }, { on := 3, ground := Ground.phase }, { on := 4, ground := Ground.phase }, { on := 5, ground := Ground.phase }, { on := 6, ground := Ground.phase }, { on := 7, ground := Ground.phase }, { on := 8, ground := Ground.phase }, { on := 9, ground := Ground.phase }, { on := 10, ground := Ground.phase }], guard := none }]
/-- What the activation holds. -/
abbrev actG (p r b3 : Nat) (a b n : Int) (x18 x19 x22 x23 x5 x6 : Value) : Act := { tmps := #[.pointer (some ⟨p, 0, none⟩), pvalD (a, b), undef, .pointer (some ⟨b3, 0, none⟩), .int .i64 n, x5, x6, undef, undef, undef, .pointer (some ⟨p, 0, none⟩), .pointer (some ⟨p, 0, none⟩), .pointer (some ⟨p, 405, none⟩), .map (some r), pvalD (a, b), .int .i64 n, .pointer (some ⟨b3, 0, none⟩), .int .i64 a, x18, x19, .pointer (some ⟨b3, 1, none⟩), .int .i64 b, x22, x23, undef, undef, undef, undef, undef, undef, undef, undef, undef, undef, undef, undef, undef, undef, undef, undef, undef, undef, undef, undef, undef, undef, undef, undef, undef, undef, undef, undef, undef, undef, undef, undef, undef, undef, undef, undef, undef, undef, undef, undef, undef, undef, undef, undef, undef, undef, undef, undef, undef, undef, undef, undef, undef, undef], defers := [] }
abbrev actG0 (p r b3 : Nat) (a b n : Int) : Act := { tmps := #[.pointer (some ⟨p, 0, none⟩), pvalD (a, b), undef, .pointer (some ⟨b3, 0, none⟩), .int .i64 n, undef, undef, undef, undef, undef, .pointer (some ⟨p, 0, none⟩), .pointer (some ⟨p, 0, none⟩), .pointer (some ⟨p, 405, none⟩), .map (some r), pvalD (a, b), .int .i64 n, undef, undef, undef, undef, undef, undef, undef, undef, undef, undef, undef, undef, undef, undef, undef, undef, undef, undef, undef, undef, undef, undef, undef, undef, undef, undef, undef, undef, undef, undef, undef, undef, undef, undef, undef, undef, undef, undef, undef, undef, undef, undef, undef, undef, undef, undef, undef, undef, undef, undef, undef, undef, undef, undef, undef, undef, undef, undef, undef, undef, undef, undef], defers := [] }

set_option maxRecDepth 100000 in
set_option maxHeartbeats 16000000 in
theorem goOn2_go (p r b3 : Nat) (a b n : Int) (haI : Hid (0 ≤ a ∧ a < 256)) (hbI : Hid (0 ≤ b ∧ b < 256)) (X : World) (KB : Hid (Blk X b3 198 (pcellsD (a, b)))) (Q : Exit → Act → World → Prop) (hQp : ∀ c a a' w, Q (.panic c) a w → Q (.panic c) a' w)
    (HQ : Hid (∀ (Y : World) (p18 p22 p5 p6 : Nat), Below X.heap.size X Y → SB Y p5 (ofS [a]) → SB Y p6 (ofS [b]) → X.heap.size ≤ p5 → X.heap.size ≤ p6 → Q .normal (actG p r b3 a b n (.slice (some ⟨p18, 0, none⟩) 1 1) (sval (ofS [a])) (.slice (some ⟨p22, 0, none⟩) 1 1) (sval (ofS [b])) (.pointer (some ⟨p5, 0, none⟩)) (.pointer (some ⟨p6, 0, none⟩))) Y)) :
    (Code.region 2 opsG2 true).wp Tryd.prog Q (actG0 p r b3 a b n) X := by
  have SA : Hid (∀ W, Below X.heap.size X W → W.cell? ⟨b3, 0, none⟩ = some (.int .i64 a) ∧ W.cell? ⟨b3, 1, none⟩ = some (.int .i64 b)) := fun W h => ⟨(KB.out.below h KB.out.lt).cell 0 rfl, (KB.out.below h KB.out.lt).cell 1 rfl⟩
  have n2_3_6_7_8_9 : Hid (∀ (Y : World) (p18 p22 p5 p6 : Nat) (BF : Below X.heap.size X Y) (K18 : Blk Y p18 3 #[.int .i64 a]) (K22 : Blk Y p22 3 #[.int .i64 b]) (K5 : SB Y p5 zeroS) (L5 : X.heap.size ≤ p5) (K6 : SB Y p6 zeroS) (L6 : X.heap.size ≤ p6) (N56 : p5 ≠ p6), wpAnyH Tryd.prog .any opsG2 Q (fun w' => w'.cell? ⟨b3, 0, none⟩ = some (.int .i64 a) ∧ w'.cell? ⟨b3, 1, none⟩ = some (.int .i64 b)) 2 #[true, true, true, true, true, true, true, true, true, true, false, false] (actG p r b3 a b n (.slice (some ⟨p18, 0, none⟩) 1 1) (sval (ofS [a])) (.slice (some ⟨p22, 0, none⟩) 1 1) (sval (ofS [b])) (.pointer (some ⟨p5, 0, none⟩)) (.pointer (some ⟨p6, 0, none⟩))) Y) := by
    intro Y p18 p22 p5 p6 BF K18 K22 K5 L5 K6 L6 N56
    have B5 := K5
    have B6 := K6
    refine wpAnyH_ready (rs := [10]) (by kernel_rfl) (by simp) ?_
    refine AllReadyH.cons rfl (fun K' hK' => ?_) AllReadyH.nil
    have HK5 := Hid.of K5
    have HK6 := Hid.of K6
    have HBF := Hid.of BF
    have HL5 := Hid.of L5
    have HL6 := Hid.of L6
    have HN := Hid.of N56
    have f5 := K5.frozen
    obtain ⟨c0, c1, c2, c3⟩ := SB.cells K5
    clear K18 K22 K5 K6 BF L5 L6 N56 B5 B6
    unfold actG
    go_simp
    have J5 := Hid.of (SB.set4 HK5.out (ofS [a]))
    have J6 : Hid (SB _ p6 zeroS) := Blk.other4 HK6.out (Ne.symm HN.out) (.int .u64 (ofS [a] 0)) (.int .u64 (ofS [a] 1)) (.int .u64 (ofS [a] 2)) (.int .u64 (ofS [a] 3))
    have JB := Hid.of (below_set4 HBF.out (b' := p5) HL5.out (.int .u64 (ofS [a] 0)) (.int .u64 (ofS [a] 1)) (.int .u64 (ofS [a] 2)) (.int .u64 (ofS [a] 3)))
    refine hK'.out _ _ (SA.out _ JB.out) (fun hS => ?_)
    clear hK' K' f5 c0 c1 c2 c3
    refine wpAnyH_ready (rs := [11]) (by kernel_rfl) (by simp) ?_
    refine AllReadyH.cons rfl (fun K' hK' => ?_) AllReadyH.nil
    have f6 := J6.out.frozen
    obtain ⟨c0, c1, c2, c3⟩ := SB.cells J6.out
    clear hS
    go_simp
    have M6 := Hid.of (SB.set4 J6.out (ofS [b]))
    have M5 : Hid (SB _ p5 (ofS [a])) := Blk.other4 J5.out HN.out (.int .u64 (ofS [b] 0)) (.int .u64 (ofS [b] 1)) (.int .u64 (ofS [b] 2)) (.int .u64 (ofS [b] 3))
    have MB := Hid.of (below_set4 JB.out (b' := p6) HL6.out (.int .u64 (ofS [b] 0)) (.int .u64 (ofS [b] 1)) (.int .u64 (ofS [b] 2)) (.int .u64 (ofS [b] 3)))
    refine hK'.out _ _ (SA.out _ MB.out) (fun hS => ?_)
    clear hK' K' f6 c0 c1 c2 c3
    refine wpAnyH_done (by kernel_rfl) ?_ _
    exact HQ.out _ p18 p22 p5 p6 MB.out M5.out M6.out HL5.out HL6.out
  have n2_3_6_7_8 : Hid (∀ (Y : World) (p18 p22 p5 : Nat) (BF : Below X.heap.size X Y) (K18 : Blk Y p18 3 #[.int .i64 a]) (K22 : Blk Y p22 3 #[.int .i64 b]) (K5 : SB Y p5 zeroS) (L5 : X.heap.size ≤ p5), wpAnyH Tryd.prog .any opsG2 Q (fun w' => w'.cell? ⟨b3, 0, none⟩ = some (.int .i64 a) ∧ w'.cell? ⟨b3, 1, none⟩ = some (.int .i64 b)) 3 #[true, true, true, true, true, true, true, true, true, false, false, false] (actG p r b3 a b n (.slice (some ⟨p18, 0, none⟩) 1 1) (sval (ofS [a])) (.slice (some ⟨p22, 0, none⟩) 1 1) (sval (ofS [b])) (.pointer (some ⟨p5, 0, none⟩)) undef) Y) := by
    intro Y p18 p22 p5 BF K18 K22 K5 L5
    refine wpAnyH_ready (rs := [9]) (by kernel_rfl) (by simp) ?_
    refine AllReadyH.cons rfl (fun K' hK' => ?_) AllReadyH.nil
    unfold actG
    have hb : Below Y.heap.size Y (Y.alloc (.cells #[.int .u64 0, .int .u64 0, .int .u64 0, .int .u64 0] 79)) := (Below.refl _ _).alloc (Nat.le_refl _) _
    have fin := Hid.of (n2_3_6_7_8_9.out (Y.alloc (.cells #[.int .u64 0, .int .u64 0, .int .u64 0, .int .u64 0] 79)) p18 p22 p5 Y.heap.size (BF.trans (hb.mono BF.size)) (K18.below hb K18.lt) (K22.below hb K22.lt) (K5.below hb K5.lt) L5 (Blk.new Y 79 #[.int .u64 0, .int .u64 0, .int .u64 0, .int .u64 0]) BF.size (Nat.ne_of_lt K5.lt))
    have hs := SA.out _ (BF.trans (hb.mono BF.size))
    clear K18 K22 K5 L5 BF hb
    have HS := Hid.of hs
    clear hs
    go_simp
    exact hK'.out _ _ HS.out (fun _ => fin.out)
  have n2_3_6_7_9 : Hid (∀ (Y : World) (p18 p22 p6 : Nat) (BF : Below X.heap.size X Y) (K18 : Blk Y p18 3 #[.int .i64 a]) (K22 : Blk Y p22 3 #[.int .i64 b]) (K6 : SB Y p6 zeroS) (L6 : X.heap.size ≤ p6), wpAnyH Tryd.prog .any opsG2 Q (fun w' => w'.cell? ⟨b3, 0, none⟩ = some (.int .i64 a) ∧ w'.cell? ⟨b3, 1, none⟩ = some (.int .i64 b)) 3 #[true, true, true, true, true, true, true, true, false, true, false, false] (actG p r b3 a b n (.slice (some ⟨p18, 0, none⟩) 1 1) (sval (ofS [a])) (.slice (some ⟨p22, 0, none⟩) 1 1) (sval (ofS [b])) undef (.pointer (some ⟨p6, 0, none⟩))) Y) := by
    intro Y p18 p22 p6 BF K18 K22 K6 L6
    refine wpAnyH_ready (rs := [8]) (by kernel_rfl) (by simp) ?_
    refine AllReadyH.cons rfl (fun K' hK' => ?_) AllReadyH.nil
    unfold actG
    have hb : Below Y.heap.size Y (Y.alloc (.cells #[.int .u64 0, .int .u64 0, .int .u64 0, .int .u64 0] 79)) := (Below.refl _ _).alloc (Nat.le_refl _) _
    have fin := Hid.of (n2_3_6_7_8_9.out (Y.alloc (.cells #[.int .u64 0, .int .u64 0, .int .u64 0, .int .u64 0] 79)) p18 p22 Y.heap.size p6 (BF.trans (hb.mono BF.size)) (K18.below hb K18.lt) (K22.below hb K22.lt) (Blk.new Y 79 #[.int .u64 0, .int .u64 0, .int .u64 0, .int .u64 0]) BF.size (K6.below hb K6.lt) L6 (Ne.symm (Nat.ne_of_lt K6.lt)))
    have hs := SA.out _ (BF.trans (hb.mono BF.size))
    clear K18 K22 K6 L6 BF hb
    have HS := Hid.of hs
    clear hs
    go_simp
    exact hK'.out _ _ HS.out (fun _ => fin.out)
  have n2_3_6_8_9 : Hid (∀ (Y : World) (p18 p22 p5 p6 : Nat) (BF : Below X.heap.size X Y) (K18 : Blk Y p18 3 #[.int .i64 a]) (K22 : Blk Y p22 3 #[.int .i64 b]) (K5 : SB Y p5 zeroS) (L5 : X.heap.size ≤ p5) (K6 : SB Y p6 zeroS) (L6 : X.heap.size ≤ p6) (N56 : p5 ≠ p6), wpAnyH Tryd.prog .any opsG2 Q (fun w' => w'.cell? ⟨b3, 0, none⟩ = some (.int .i64 a) ∧ w'.cell? ⟨b3, 1, none⟩ = some (.int .i64 b)) 3 #[true, true, true, true, true, true, true, false, true, true, false, false] (actG p r b3 a b n (.slice (some ⟨p18, 0, none⟩) 1 1) (sval (ofS [a])) (.slice (some ⟨p22, 0, none⟩) 1 1) undef (.pointer (some ⟨p5, 0, none⟩)) (.pointer (some ⟨p6, 0, none⟩))) Y) := by
    intro Y p18 p22 p5 p6 BF K18 K22 K5 L5 K6 L6 N56
    refine wpAnyH_ready (rs := [7]) (by kernel_rfl) (by simp) ?_
    refine AllReadyH.cons rfl (fun K' hK' => ?_) AllReadyH.nil
    unfold actG
    have hcall := Hid.of (of_any (some ⟨p22, 0, none⟩) 1 [b] Y (at_oneB K22) (show 1 ≤ maxLen by decide) (fun y hy => by rw [List.mem_singleton] at hy; rw [hy]; exact hbI.out))
    have HK18 := Hid.of K18
    have HK22 := Hid.of K22
    have HK5 := Hid.of K5
    have HL5 := Hid.of L5
    have HK6 := Hid.of K6
    have HL6 := Hid.of L6
    have HN56 := Hid.of N56
    have HBF := Hid.of BF
    clear BF K18 K22 K5 L5 K6 L6 N56
    go_simp
    refine hcall.out.mono ?_
    rintro e1 Y2 ⟨rfl, hb⟩
    exact hK'.out _ _ (SA.out _ (HBF.out.trans (hb.mono HBF.out.size))) (fun _ => n2_3_6_7_8_9.out Y2 p18 p22 p5 p6 (HBF.out.trans (hb.mono HBF.out.size)) (HK18.out.below hb HK18.out.lt) (HK22.out.below hb HK22.out.lt) (HK5.out.below hb HK5.out.lt) HL5.out (HK6.out.below hb HK6.out.lt) HL6.out HN56.out)
  have n2_3_6_7 : Hid (∀ (Y : World) (p18 p22 : Nat) (BF : Below X.heap.size X Y) (K18 : Blk Y p18 3 #[.int .i64 a]) (K22 : Blk Y p22 3 #[.int .i64 b]), wpAnyH Tryd.prog .any opsG2 Q (fun w' => w'.cell? ⟨b3, 0, none⟩ = some (.int .i64 a) ∧ w'.cell? ⟨b3, 1, none⟩ = some (.int .i64 b)) 4 #[true, true, true, true, true, true, true, true, false, false, false, false] (actG p r b3 a b n (.slice (some ⟨p18, 0, none⟩) 1 1) (sval (ofS [a])) (.slice (some ⟨p22, 0, none⟩) 1 1) (sval (ofS [b])) undef undef) Y) := by
    intro Y p18 p22 BF K18 K22
    refine wpAnyH_ready (rs := [8, 9]) (by kernel_rfl) (by simp) ?_
    refine AllReadyH.cons rfl (fun K' hK' => ?_) (AllReadyH.cons rfl (fun K' hK' => ?_) AllReadyH.nil)
    · unfold actG
      have hb : Below Y.heap.size Y (Y.alloc (.cells #[.int .u64 0, .int .u64 0, .int .u64 0, .int .u64 0] 79)) := (Below.refl _ _).alloc (Nat.le_refl _) _
      have fin := Hid.of (n2_3_6_7_8.out (Y.alloc (.cells #[.int .u64 0, .int .u64 0, .int .u64 0, .int .u64 0] 79)) p18 p22 Y.heap.size (BF.trans (hb.mono BF.size)) (K18.below hb K18.lt) (K22.below hb K22.lt) (Blk.new Y 79 #[.int .u64 0, .int .u64 0, .int .u64 0, .int .u64 0]) BF.size)
      have hs := SA.out _ (BF.trans (hb.mono BF.size))
      clear K18 K22 BF hb
      have HS := Hid.of hs
      clear hs
      go_simp
      exact hK'.out _ _ HS.out (fun _ => fin.out)
    · unfold actG
      have hb : Below Y.heap.size Y (Y.alloc (.cells #[.int .u64 0, .int .u64 0, .int .u64 0, .int .u64 0] 79)) := (Below.refl _ _).alloc (Nat.le_refl _) _
      have fin := Hid.of (n2_3_6_7_9.out (Y.alloc (.cells #[.int .u64 0, .int .u64 0, .int .u64 0, .int .u64 0] 79)) p18 p22 Y.heap.size (BF.trans (hb.mono BF.size)) (K18.below hb K18.lt) (K22.below hb K22.lt) (Blk.new Y 79 #[.int .u64 0, .int .u64 0, .int .u64 0, .int .u64 0]) BF.size)
      have hs := SA.out _ (BF.trans (hb.mono BF.size))
      clear K18 K22 BF hb
      have HS := Hid.of hs
      clear hs
      go_simp
      exact hK'.out _ _ HS.out (fun _ => fin.out)
  have n2_3_6_8 : Hid (∀ (Y : World) (p18 p22 p5 : Nat) (BF : Below X.heap.size X Y) (K18 : Blk Y p18 3 #[.int .i64 a]) (K22 : Blk Y p22 3 #[.int .i64 b]) (K5 : SB Y p5 zeroS) (L5 : X.heap.size ≤ p5), wpAnyH Tryd.prog .any opsG2 Q (fun w' => w'.cell? ⟨b3, 0, none⟩ = some (.int .i64 a) ∧ w'.cell? ⟨b3, 1, none⟩ = some (.int .i64 b)) 4 #[true, true, true, true, true, true, true, false, true, false, false, false] (actG p r b3 a b n (.slice (some ⟨p18, 0, none⟩) 1 1) (sval (ofS [a])) (.slice (some ⟨p22, 0, none⟩) 1 1) undef (.pointer (some ⟨p5, 0, none⟩)) undef) Y) := by
    intro Y p18 p22 p5 BF K18 K22 K5 L5
    refine wpAnyH_ready (rs := [7, 9]) (by kernel_rfl) (by simp) ?_
    refine AllReadyH.cons rfl (fun K' hK' => ?_) (AllReadyH.cons rfl (fun K' hK' => ?_) AllReadyH.nil)
    · unfold actG
      have hcall := Hid.of (of_any (some ⟨p22, 0, none⟩) 1 [b] Y (at_oneB K22) (show 1 ≤ maxLen by decide) (fun y hy => by rw [List.mem_singleton] at hy; rw [hy]; exact hbI.out))
      have HK18 := Hid.of K18
      have HK22 := Hid.of K22
      have HK5 := Hid.of K5
      have HL5 := Hid.of L5
      have HBF := Hid.of BF
      clear BF K18 K22 K5 L5
      go_simp
      refine hcall.out.mono ?_
      rintro e1 Y2 ⟨rfl, hb⟩
      exact hK'.out _ _ (SA.out _ (HBF.out.trans (hb.mono HBF.out.size))) (fun _ => n2_3_6_7_8.out Y2 p18 p22 p5 (HBF.out.trans (hb.mono HBF.out.size)) (HK18.out.below hb HK18.out.lt) (HK22.out.below hb HK22.out.lt) (HK5.out.below hb HK5.out.lt) HL5.out)
    · unfold actG
      have hb : Below Y.heap.size Y (Y.alloc (.cells #[.int .u64 0, .int .u64 0, .int .u64 0, .int .u64 0] 79)) := (Below.refl _ _).alloc (Nat.le_refl _) _
      have fin := Hid.of (n2_3_6_8_9.out (Y.alloc (.cells #[.int .u64 0, .int .u64 0, .int .u64 0, .int .u64 0] 79)) p18 p22 p5 Y.heap.size (BF.trans (hb.mono BF.size)) (K18.below hb K18.lt) (K22.below hb K22.lt) (K5.below hb K5.lt) L5 (Blk.new Y 79 #[.int .u64 0, .int .u64 0, .int .u64 0, .int .u64 0]) BF.size (Nat.ne_of_lt K5.lt))
      have hs := SA.out _ (BF.trans (hb.mono BF.size))
      clear K18 K22 K5 L5 BF hb
      have HS := Hid.of hs
      clear hs
      go_simp
      exact hK'.out _ _ HS.out (fun _ => fin.out)
  have n2_3_6_9 : Hid (∀ (Y : World) (p18 p22 p6 : Nat) (BF : Below X.heap.size X Y) (K18 : Blk Y p18 3 #[.int .i64 a]) (K22 : Blk Y p22 3 #[.int .i64 b]) (K6 : SB Y p6 zeroS) (L6 : X.heap.size ≤ p6), wpAnyH Tryd.prog .any opsG2 Q (fun w' => w'.cell? ⟨b3, 0, none⟩ = some (.int .i64 a) ∧ w'.cell? ⟨b3, 1, none⟩ = some (.int .i64 b)) 4 #[true, true, true, true, true, true, true, false, false, true, false, false] (actG p r b3 a b n (.slice (some ⟨p18, 0, none⟩) 1 1) (sval (ofS [a])) (.slice (some ⟨p22, 0, none⟩) 1 1) undef undef (.pointer (some ⟨p6, 0, none⟩))) Y) := by
    intro Y p18 p22 p6 BF K18 K22 K6 L6
    refine wpAnyH_ready (rs := [7, 8]) (by kernel_rfl) (by simp) ?_
    refine AllReadyH.cons rfl (fun K' hK' => ?_) (AllReadyH.cons rfl (fun K' hK' => ?_) AllReadyH.nil)
    · unfold actG
      have hcall := Hid.of (of_any (some ⟨p22, 0, none⟩) 1 [b] Y (at_oneB K22) (show 1 ≤ maxLen by decide) (fun y hy => by rw [List.mem_singleton] at hy; rw [hy]; exact hbI.out))
      have HK18 := Hid.of K18
      have HK22 := Hid.of K22
      have HK6 := Hid.of K6
      have HL6 := Hid.of L6
      have HBF := Hid.of BF
      clear BF K18 K22 K6 L6
      go_simp
      refine hcall.out.mono ?_
      rintro e1 Y2 ⟨rfl, hb⟩
      exact hK'.out _ _ (SA.out _ (HBF.out.trans (hb.mono HBF.out.size))) (fun _ => n2_3_6_7_9.out Y2 p18 p22 p6 (HBF.out.trans (hb.mono HBF.out.size)) (HK18.out.below hb HK18.out.lt) (HK22.out.below hb HK22.out.lt) (HK6.out.below hb HK6.out.lt) HL6.out)
    · unfold actG
      have hb : Below Y.heap.size Y (Y.alloc (.cells #[.int .u64 0, .int .u64 0, .int .u64 0, .int .u64 0] 79)) := (Below.refl _ _).alloc (Nat.le_refl _) _
      have fin := Hid.of (n2_3_6_8_9.out (Y.alloc (.cells #[.int .u64 0, .int .u64 0, .int .u64 0, .int .u64 0] 79)) p18 p22 Y.heap.size p6 (BF.trans (hb.mono BF.size)) (K18.below hb K18.lt) (K22.below hb K22.lt) (Blk.new Y 79 #[.int .u64 0, .int .u64 0, .int .u64 0, .int .u64 0]) BF.size (K6.below hb K6.lt) L6 (Ne.symm (Nat.ne_of_lt K6.lt)))
      have hs := SA.out _ (BF.trans (hb.mono BF.size))
      clear K18 K22 K6 L6 BF hb
      have HS := Hid.of hs
      clear hs
      go_simp
      exact hK'.out _ _ HS.out (fun _ => fin.out)
  have n2_3_8_9 : Hid (∀ (Y : World) (p18 p5 p6 : Nat) (BF : Below X.heap.size X Y) (K18 : Blk Y p18 3 #[.int .i64 a]) (K5 : SB Y p5 zeroS) (L5 : X.heap.size ≤ p5) (K6 : SB Y p6 zeroS) (L6 : X.heap.size ≤ p6) (N56 : p5 ≠ p6), wpAnyH Tryd.prog .any opsG2 Q (fun w' => w'.cell? ⟨b3, 0, none⟩ = some (.int .i64 a) ∧ w'.cell? ⟨b3, 1, none⟩ = some (.int .i64 b)) 4 #[true, true, true, true, true, true, false, false, true, true, false, false] (actG p r b3 a b n (.slice (some ⟨p18, 0, none⟩) 1 1) (sval (ofS [a])) undef undef (.pointer (some ⟨p5, 0, none⟩)) (.pointer (some ⟨p6, 0, none⟩))) Y) := by
    intro Y p18 p5 p6 BF K18 K5 L5 K6 L6 N56
    refine wpAnyH_ready (rs := [6]) (by kernel_rfl) (by simp) ?_
    refine AllReadyH.cons rfl (fun K' hK' => ?_) AllReadyH.nil
    unfold actG
    have hb : Below Y.heap.size Y (Y.alloc (.cells #[.int .i64 b] 3)) := (Below.refl _ _).alloc (Nat.le_refl _) _
    have fin := Hid.of (n2_3_6_8_9.out (Y.alloc (.cells #[.int .i64 b] 3)) p18 Y.heap.size p5 p6 (BF.trans (hb.mono BF.size)) (K18.below hb K18.lt) (Blk.new Y 3 #[.int .i64 b]) (K5.below hb K5.lt) L5 (K6.below hb K6.lt) L6 N56)
    have hs := SA.out _ (BF.trans (hb.mono BF.size))
    clear K18 K5 L5 K6 L6 N56 BF hb
    have HS := Hid.of hs
    clear hs
    go_simp
    exact hK'.out _ _ HS.out (fun _ => fin.out)
  have n2_6_8_9 : Hid (∀ (Y : World) (p18 p22 p5 p6 : Nat) (BF : Below X.heap.size X Y) (K18 : Blk Y p18 3 #[.int .i64 a]) (K22 : Blk Y p22 3 #[.int .i64 b]) (K5 : SB Y p5 zeroS) (L5 : X.heap.size ≤ p5) (K6 : SB Y p6 zeroS) (L6 : X.heap.size ≤ p6) (N56 : p5 ≠ p6), wpAnyH Tryd.prog .any opsG2 Q (fun w' => w'.cell? ⟨b3, 0, none⟩ = some (.int .i64 a) ∧ w'.cell? ⟨b3, 1, none⟩ = some (.int .i64 b)) 4 #[true, true, true, false, true, true, true, false, true, true, false, false] (actG p r b3 a b n (.slice (some ⟨p18, 0, none⟩) 1 1) undef (.slice (some ⟨p22, 0, none⟩) 1 1) undef (.pointer (some ⟨p5, 0, none⟩)) (.pointer (some ⟨p6, 0, none⟩))) Y) := by
    intro Y p18 p22 p5 p6 BF K18 K22 K5 L5 K6 L6 N56
    refine wpAnyH_ready (rs := [3]) (by kernel_rfl) (by simp) ?_
    refine AllReadyH.cons rfl (fun K' hK' => ?_) AllReadyH.nil
    unfold actG
    have hcall := Hid.of (of_any (some ⟨p18, 0, none⟩) 1 [a] Y (at_oneB K18) (show 1 ≤ maxLen by decide) (fun y hy => by rw [List.mem_singleton] at hy; rw [hy]; exact haI.out))
    have HK18 := Hid.of K18
    have HK22 := Hid.of K22
    have HK5 := Hid.of K5
    have HL5 := Hid.of L5
    have HK6 := Hid.of K6
    have HL6 := Hid.of L6
    have HN56 := Hid.of N56
    have HBF := Hid.of BF
    clear BF K18 K22 K5 L5 K6 L6 N56
    go_simp
    refine hcall.out.mono ?_
    rintro e1 Y2 ⟨rfl, hb⟩
    exact hK'.out _ _ (SA.out _ (HBF.out.trans (hb.mono HBF.out.size))) (fun _ => n2_3_6_8_9.out Y2 p18 p22 p5 p6 (HBF.out.trans (hb.mono HBF.out.size)) (HK18.out.below hb HK18.out.lt) (HK22.out.below hb HK22.out.lt) (HK5.out.below hb HK5.out.lt) HL5.out (HK6.out.below hb HK6.out.lt) HL6.out HN56.out)
  have n2_3_6 : Hid (∀ (Y : World) (p18 p22 : Nat) (BF : Below X.heap.size X Y) (K18 : Blk Y p18 3 #[.int .i64 a]) (K22 : Blk Y p22 3 #[.int .i64 b]), wpAnyH Tryd.prog .any opsG2 Q (fun w' => w'.cell? ⟨b3, 0, none⟩ = some (.int .i64 a) ∧ w'.cell? ⟨b3, 1, none⟩ = some (.int .i64 b)) 5 #[true, true, true, true, true, true, true, false, false, false, false, false] (actG p r b3 a b n (.slice (some ⟨p18, 0, none⟩) 1 1) (sval (ofS [a])) (.slice (some ⟨p22, 0, none⟩) 1 1) undef undef undef) Y) := by
    intro Y p18 p22 BF K18 K22
    refine wpAnyH_ready (rs := [7, 8, 9]) (by kernel_rfl) (by simp) ?_
    refine AllReadyH.cons rfl (fun K' hK' => ?_) (AllReadyH.cons rfl (fun K' hK' => ?_) (AllReadyH.cons rfl (fun K' hK' => ?_) AllReadyH.nil))
    · unfold actG
      have hcall := Hid.of (of_any (some ⟨p22, 0, none⟩) 1 [b] Y (at_oneB K22) (show 1 ≤ maxLen by decide) (fun y hy => by rw [List.mem_singleton] at hy; rw [hy]; exact hbI.out))
      have HK18 := Hid.of K18
      have HK22 := Hid.of K22
      have HBF := Hid.of BF
      clear BF K18 K22
      go_simp
      refine hcall.out.mono ?_
      rintro e1 Y2 ⟨rfl, hb⟩
      exact hK'.out _ _ (SA.out _ (HBF.out.trans (hb.mono HBF.out.size))) (fun _ => n2_3_6_7.out Y2 p18 p22 (HBF.out.trans (hb.mono HBF.out.size)) (HK18.out.below hb HK18.out.lt) (HK22.out.below hb HK22.out.lt))
    · unfold actG
      have hb : Below Y.heap.size Y (Y.alloc (.cells #[.int .u64 0, .int .u64 0, .int .u64 0, .int .u64 0] 79)) := (Below.refl _ _).alloc (Nat.le_refl _) _
      have fin := Hid.of (n2_3_6_8.out (Y.alloc (.cells #[.int .u64 0, .int .u64 0, .int .u64 0, .int .u64 0] 79)) p18 p22 Y.heap.size (BF.trans (hb.mono BF.size)) (K18.below hb K18.lt) (K22.below hb K22.lt) (Blk.new Y 79 #[.int .u64 0, .int .u64 0, .int .u64 0, .int .u64 0]) BF.size)
      have hs := SA.out _ (BF.trans (hb.mono BF.size))
      clear K18 K22 BF hb
      have HS := Hid.of hs
      clear hs
      go_simp
      exact hK'.out _ _ HS.out (fun _ => fin.out)
    · unfold actG
      have hb : Below Y.heap.size Y (Y.alloc (.cells #[.int .u64 0, .int .u64 0, .int .u64 0, .int .u64 0] 79)) := (Below.refl _ _).alloc (Nat.le_refl _) _
      have fin := Hid.of (n2_3_6_9.out (Y.alloc (.cells #[.int .u64 0, .int .u64 0, .int .u64 0, .int .u64 0] 79)) p18 p22 Y.heap.size (BF.trans (hb.mono BF.size)) (K18.below hb K18.lt) (K22.below hb K22.lt) (Blk.new Y 79 #[.int .u64 0, .int .u64 0, .int .u64 0, .int .u64 0]) BF.size)
      have hs := SA.out _ (BF.trans (hb.mono BF.size))
      clear K18 K22 BF hb
      have HS := Hid.of hs
      clear hs
      go_simp
      exact hK'.out _ _ HS.out (fun _ => fin.out)
  have n2_3_8 : Hid (∀ (Y : World) (p18 p5 : Nat) (BF : Below X.heap.size X Y) (K18 : Blk Y p18 3 #[.int .i64 a]) (K5 : SB Y p5 zeroS) (L5 : X.heap.size ≤ p5), wpAnyH Tryd.prog .any opsG2 Q (fun w' => w'.cell? ⟨b3, 0, none⟩ = some (.int .i64 a) ∧ w'.cell? ⟨b3, 1, none⟩ = some (.int .i64 b)) 5 #[true, true, true, true, true, true, false, false, true, false, false, false] (actG p r b3 a b n (.slice (some ⟨p18, 0, none⟩) 1 1) (sval (ofS [a])) undef undef (.pointer (some ⟨p5, 0, none⟩)) undef) Y) := by
    intro Y p18 p5 BF K18 K5 L5
    refine wpAnyH_ready (rs := [6, 9]) (by kernel_rfl) (by simp) ?_
    refine AllReadyH.cons rfl (fun K' hK' => ?_) (AllReadyH.cons rfl (fun K' hK' => ?_) AllReadyH.nil)
    · unfold actG
      have hb : Below Y.heap.size Y (Y.alloc (.cells #[.int .i64 b] 3)) := (Below.refl _ _).alloc (Nat.le_refl _) _
      have fin := Hid.of (n2_3_6_8.out (Y.alloc (.cells #[.int .i64 b] 3)) p18 Y.heap.size p5 (BF.trans (hb.mono BF.size)) (K18.below hb K18.lt) (Blk.new Y 3 #[.int .i64 b]) (K5.below hb K5.lt) L5)
      have hs := SA.out _ (BF.trans (hb.mono BF.size))
      clear K18 K5 L5 BF hb
      have HS := Hid.of hs
      clear hs
      go_simp
      exact hK'.out _ _ HS.out (fun _ => fin.out)
    · unfold actG
      have hb : Below Y.heap.size Y (Y.alloc (.cells #[.int .u64 0, .int .u64 0, .int .u64 0, .int .u64 0] 79)) := (Below.refl _ _).alloc (Nat.le_refl _) _
      have fin := Hid.of (n2_3_8_9.out (Y.alloc (.cells #[.int .u64 0, .int .u64 0, .int .u64 0, .int .u64 0] 79)) p18 p5 Y.heap.size (BF.trans (hb.mono BF.size)) (K18.below hb K18.lt) (K5.below hb K5.lt) L5 (Blk.new Y 79 #[.int .u64 0, .int .u64 0, .int .u64 0, .int .u64 0]) BF.size (Nat.ne_of_lt K5.lt))
      have hs := SA.out _ (BF.trans (hb.mono BF.size))
      clear K18 K5 L5 BF hb
      have HS := Hid.of hs
      clear hs
      go_simp
      exact hK'.out _ _ HS.out (fun _ => fin.out)
  have n2_3_9 : Hid (∀ (Y : World) (p18 p6 : Nat) (BF : Below X.heap.size X Y) (K18 : Blk Y p18 3 #[.int .i64 a]) (K6 : SB Y p6 zeroS) (L6 : X.heap.size ≤ p6), wpAnyH Tryd.prog .any opsG2 Q (fun w' => w'.cell? ⟨b3, 0, none⟩ = some (.int .i64 a) ∧ w'.cell? ⟨b3, 1, none⟩ = some (.int .i64 b)) 5 #[true, true, true, true, true, true, false, false, false, true, false, false] (actG p r b3 a b n (.slice (some ⟨p18, 0, none⟩) 1 1) (sval (ofS [a])) undef undef undef (.pointer (some ⟨p6, 0, none⟩))) Y) := by
    intro Y p18 p6 BF K18 K6 L6
    refine wpAnyH_ready (rs := [6, 8]) (by kernel_rfl) (by simp) ?_
    refine AllReadyH.cons rfl (fun K' hK' => ?_) (AllReadyH.cons rfl (fun K' hK' => ?_) AllReadyH.nil)
    · unfold actG
      have hb : Below Y.heap.size Y (Y.alloc (.cells #[.int .i64 b] 3)) := (Below.refl _ _).alloc (Nat.le_refl _) _
      have fin := Hid.of (n2_3_6_9.out (Y.alloc (.cells #[.int .i64 b] 3)) p18 Y.heap.size p6 (BF.trans (hb.mono BF.size)) (K18.below hb K18.lt) (Blk.new Y 3 #[.int .i64 b]) (K6.below hb K6.lt) L6)
      have hs := SA.out _ (BF.trans (hb.mono BF.size))
      clear K18 K6 L6 BF hb
      have HS := Hid.of hs
      clear hs
      go_simp
      exact hK'.out _ _ HS.out (fun _ => fin.out)
    · unfold actG
      have hb : Below Y.heap.size Y (Y.alloc (.cells #[.int .u64 0, .int .u64 0, .int .u64 0, .int .u64 0] 79)) := (Below.refl _ _).alloc (Nat.le_refl _) _
      have fin := Hid.of (n2_3_8_9.out (Y.alloc (.cells #[.int .u64 0, .int .u64 0, .int .u64 0, .int .u64 0] 79)) p18 Y.heap.size p6 (BF.trans (hb.mono BF.size)) (K18.below hb K18.lt) (Blk.new Y 79 #[.int .u64 0, .int .u64 0, .int .u64 0, .int .u64 0]) BF.size (K6.below hb K6.lt) L6 (Ne.symm (Nat.ne_of_lt K6.lt)))
      have hs := SA.out _ (BF.trans (hb.mono BF.size))
      clear K18 K6 L6 BF hb
      have HS := Hid.of hs
      clear hs
      go_simp
      exact hK'.out _ _ HS.out (fun _ => fin.out)
  have n2_6_8 : Hid (∀ (Y : World) (p18 p22 p5 : Nat) (BF : Below X.heap.size X Y) (K18 : Blk Y p18 3 #[.int .i64 a]) (K22 : Blk Y p22 3 #[.int .i64 b]) (K5 : SB Y p5 zeroS) (L5 : X.heap.size ≤ p5), wpAnyH Tryd.prog .any opsG2 Q (fun w' => w'.cell? ⟨b3, 0, none⟩ = some (.int .i64 a) ∧ w'.cell? ⟨b3, 1, none⟩ = some (.int .i64 b)) 5 #[true, true, true, false, true, true, true, false, true, false, false, false] (actG p r b3 a b n (.slice (some ⟨p18, 0, none⟩) 1 1) undef (.slice (some ⟨p22, 0, none⟩) 1 1) undef (.pointer (some ⟨p5, 0, none⟩)) undef) Y) := by
    intro Y p18 p22 p5 BF K18 K22 K5 L5
    refine wpAnyH_ready (rs := [3, 9]) (by kernel_rfl) (by simp) ?_
    refine AllReadyH.cons rfl (fun K' hK' => ?_) (AllReadyH.cons rfl (fun K' hK' => ?_) AllReadyH.nil)
    · unfold actG
      have hcall := Hid.of (of_any (some ⟨p18, 0, none⟩) 1 [a] Y (at_oneB K18) (show 1 ≤ maxLen by decide) (fun y hy => by rw [List.mem_singleton] at hy; rw [hy]; exact haI.out))
      have HK18 := Hid.of K18
      have HK22 := Hid.of K22
      have HK5 := Hid.of K5
      have HL5 := Hid.of L5
      have HBF := Hid.of BF
      clear BF K18 K22 K5 L5
      go_simp
      refine hcall.out.mono ?_
      rintro e1 Y2 ⟨rfl, hb⟩
      exact hK'.out _ _ (SA.out _ (HBF.out.trans (hb.mono HBF.out.size))) (fun _ => n2_3_6_8.out Y2 p18 p22 p5 (HBF.out.trans (hb.mono HBF.out.size)) (HK18.out.below hb HK18.out.lt) (HK22.out.below hb HK22.out.lt) (HK5.out.below hb HK5.out.lt) HL5.out)
    · unfold actG
      have hb : Below Y.heap.size Y (Y.alloc (.cells #[.int .u64 0, .int .u64 0, .int .u64 0, .int .u64 0] 79)) := (Below.refl _ _).alloc (Nat.le_refl _) _
      have fin := Hid.of (n2_6_8_9.out (Y.alloc (.cells #[.int .u64 0, .int .u64 0, .int .u64 0, .int .u64 0] 79)) p18 p22 p5 Y.heap.size (BF.trans (hb.mono BF.size)) (K18.below hb K18.lt) (K22.below hb K22.lt) (K5.below hb K5.lt) L5 (Blk.new Y 79 #[.int .u64 0, .int .u64 0, .int .u64 0, .int .u64 0]) BF.size (Nat.ne_of_lt K5.lt))
      have hs := SA.out _ (BF.trans (hb.mono BF.size))
      clear K18 K22 K5 L5 BF hb
      have HS := Hid.of hs
      clear hs
      go_simp
      exact hK'.out _ _ HS.out (fun _ => fin.out)
  have n2_6_9 : Hid (∀ (Y : World) (p18 p22 p6 : Nat) (BF : Below X.heap.size X Y) (K18 : Blk Y p18 3 #[.int .i64 a]) (K22 : Blk Y p22 3 #[.int .i64 b]) (K6 : SB Y p6 zeroS) (L6 : X.heap.size ≤ p6), wpAnyH Tryd.prog .any opsG2 Q (fun w' => w'.cell? ⟨b3, 0, none⟩ = some (.int .i64 a) ∧ w'.cell? ⟨b3, 1, none⟩ = some (.int .i64 b)) 5 #[true, true, true, false, true, true, true, false, false, true, false, false] (actG p r b3 a b n (.slice (some ⟨p18, 0, none⟩) 1 1) undef (.slice (some ⟨p22, 0, none⟩) 1 1) undef undef (.pointer (some ⟨p6, 0, none⟩))) Y) := by
    intro Y p18 p22 p6 BF K18 K22 K6 L6
    refine wpAnyH_ready (rs := [3, 8]) (by kernel_rfl) (by simp) ?_
    refine AllReadyH.cons rfl (fun K' hK' => ?_) (AllReadyH.cons rfl (fun K' hK' => ?_) AllReadyH.nil)
    · unfold actG
      have hcall := Hid.of (of_any (some ⟨p18, 0, none⟩) 1 [a] Y (at_oneB K18) (show 1 ≤ maxLen by decide) (fun y hy => by rw [List.mem_singleton] at hy; rw [hy]; exact haI.out))
      have HK18 := Hid.of K18
      have HK22 := Hid.of K22
      have HK6 := Hid.of K6
      have HL6 := Hid.of L6
      have HBF := Hid.of BF
      clear BF K18 K22 K6 L6
      go_simp
      refine hcall.out.mono ?_
      rintro e1 Y2 ⟨rfl, hb⟩
      exact hK'.out _ _ (SA.out _ (HBF.out.trans (hb.mono HBF.out.size))) (fun _ => n2_3_6_9.out Y2 p18 p22 p6 (HBF.out.trans (hb.mono HBF.out.size)) (HK18.out.below hb HK18.out.lt) (HK22.out.below hb HK22.out.lt) (HK6.out.below hb HK6.out.lt) HL6.out)
    · unfold actG
      have hb : Below Y.heap.size Y (Y.alloc (.cells #[.int .u64 0, .int .u64 0, .int .u64 0, .int .u64 0] 79)) := (Below.refl _ _).alloc (Nat.le_refl _) _
      have fin := Hid.of (n2_6_8_9.out (Y.alloc (.cells #[.int .u64 0, .int .u64 0, .int .u64 0, .int .u64 0] 79)) p18 p22 Y.heap.size p6 (BF.trans (hb.mono BF.size)) (K18.below hb K18.lt) (K22.below hb K22.lt) (Blk.new Y 79 #[.int .u64 0, .int .u64 0, .int .u64 0, .int .u64 0]) BF.size (K6.below hb K6.lt) L6 (Ne.symm (Nat.ne_of_lt K6.lt)))
      have hs := SA.out _ (BF.trans (hb.mono BF.size))
      clear K18 K22 K6 L6 BF hb
      have HS := Hid.of hs
      clear hs
      go_simp
      exact hK'.out _ _ HS.out (fun _ => fin.out)
  have n2_8_9 : Hid (∀ (Y : World) (p18 p5 p6 : Nat) (BF : Below X.heap.size X Y) (K18 : Blk Y p18 3 #[.int .i64 a]) (K5 : SB Y p5 zeroS) (L5 : X.heap.size ≤ p5) (K6 : SB Y p6 zeroS) (L6 : X.heap.size ≤ p6) (N56 : p5 ≠ p6), wpAnyH Tryd.prog .any opsG2 Q (fun w' => w'.cell? ⟨b3, 0, none⟩ = some (.int .i64 a) ∧ w'.cell? ⟨b3, 1, none⟩ = some (.int .i64 b)) 5 #[true, true, true, false, true, true, false, false, true, true, false, false] (actG p r b3 a b n (.slice (some ⟨p18, 0, none⟩) 1 1) undef undef undef (.pointer (some ⟨p5, 0, none⟩)) (.pointer (some ⟨p6, 0, none⟩))) Y) := by
    intro Y p18 p5 p6 BF K18 K5 L5 K6 L6 N56
    refine wpAnyH_ready (rs := [3, 6]) (by kernel_rfl) (by simp) ?_
    refine AllReadyH.cons rfl (fun K' hK' => ?_) (AllReadyH.cons rfl (fun K' hK' => ?_) AllReadyH.nil)
    · unfold actG
      have hcall := Hid.of (of_any (some ⟨p18, 0, none⟩) 1 [a] Y (at_oneB K18) (show 1 ≤ maxLen by decide) (fun y hy => by rw [List.mem_singleton] at hy; rw [hy]; exact haI.out))
      have HK18 := Hid.of K18
      have HK5 := Hid.of K5
      have HL5 := Hid.of L5
      have HK6 := Hid.of K6
      have HL6 := Hid.of L6
      have HN56 := Hid.of N56
      have HBF := Hid.of BF
      clear BF K18 K5 L5 K6 L6 N56
      go_simp
      refine hcall.out.mono ?_
      rintro e1 Y2 ⟨rfl, hb⟩
      exact hK'.out _ _ (SA.out _ (HBF.out.trans (hb.mono HBF.out.size))) (fun _ => n2_3_8_9.out Y2 p18 p5 p6 (HBF.out.trans (hb.mono HBF.out.size)) (HK18.out.below hb HK18.out.lt) (HK5.out.below hb HK5.out.lt) HL5.out (HK6.out.below hb HK6.out.lt) HL6.out HN56.out)
    · unfold actG
      have hb : Below Y.heap.size Y (Y.alloc (.cells #[.int .i64 b] 3)) := (Below.refl _ _).alloc (Nat.le_refl _) _
      have fin := Hid.of (n2_6_8_9.out (Y.alloc (.cells #[.int .i64 b] 3)) p18 Y.heap.size p5 p6 (BF.trans (hb.mono BF.size)) (K18.below hb K18.lt) (Blk.new Y 3 #[.int .i64 b]) (K5.below hb K5.lt) L5 (K6.below hb K6.lt) L6 N56)
      have hs := SA.out _ (BF.trans (hb.mono BF.size))
      clear K18 K5 L5 K6 L6 N56 BF hb
      have HS := Hid.of hs
      clear hs
      go_simp
      exact hK'.out _ _ HS.out (fun _ => fin.out)
  have n6_8_9 : Hid (∀ (Y : World) (p22 p5 p6 : Nat) (BF : Below X.heap.size X Y) (K22 : Blk Y p22 3 #[.int .i64 b]) (K5 : SB Y p5 zeroS) (L5 : X.heap.size ≤ p5) (K6 : SB Y p6 zeroS) (L6 : X.heap.size ≤ p6) (N56 : p5 ≠ p6), wpAnyH Tryd.prog .any opsG2 Q (fun w' => w'.cell? ⟨b3, 0, none⟩ = some (.int .i64 a) ∧ w'.cell? ⟨b3, 1, none⟩ = some (.int .i64 b)) 5 #[true, true, false, false, true, true, true, false, true, true, false, false] (actG p r b3 a b n undef undef (.slice (some ⟨p22, 0, none⟩) 1 1) undef (.pointer (some ⟨p5, 0, none⟩)) (.pointer (some ⟨p6, 0, none⟩))) Y) := by
    intro Y p22 p5 p6 BF K22 K5 L5 K6 L6 N56
    refine wpAnyH_ready (rs := [2]) (by kernel_rfl) (by simp) ?_
    refine AllReadyH.cons rfl (fun K' hK' => ?_) AllReadyH.nil
    unfold actG
    have hb : Below Y.heap.size Y (Y.alloc (.cells #[.int .i64 a] 3)) := (Below.refl _ _).alloc (Nat.le_refl _) _
    have fin := Hid.of (n2_6_8_9.out (Y.alloc (.cells #[.int .i64 a] 3)) Y.heap.size p22 p5 p6 (BF.trans (hb.mono BF.size)) (Blk.new Y 3 #[.int .i64 a]) (K22.below hb K22.lt) (K5.below hb K5.lt) L5 (K6.below hb K6.lt) L6 N56)
    have hs := SA.out _ (BF.trans (hb.mono BF.size))
    clear K22 K5 L5 K6 L6 N56 BF hb
    have HS := Hid.of hs
    clear hs
    go_simp
    exact hK'.out _ _ HS.out (fun _ => fin.out)
  have n2_3 : Hid (∀ (Y : World) (p18 : Nat) (BF : Below X.heap.size X Y) (K18 : Blk Y p18 3 #[.int .i64 a]), wpAnyH Tryd.prog .any opsG2 Q (fun w' => w'.cell? ⟨b3, 0, none⟩ = some (.int .i64 a) ∧ w'.cell? ⟨b3, 1, none⟩ = some (.int .i64 b)) 6 #[true, true, true, true, true, true, false, false, false, false, false, false] (actG p r b3 a b n (.slice (some ⟨p18, 0, none⟩) 1 1) (sval (ofS [a])) undef undef undef undef) Y) := by
    intro Y p18 BF K18
    refine wpAnyH_ready (rs := [6, 8, 9]) (by kernel_rfl) (by simp) ?_
    refine AllReadyH.cons rfl (fun K' hK' => ?_) (AllReadyH.cons rfl (fun K' hK' => ?_) (AllReadyH.cons rfl (fun K' hK' => ?_) AllReadyH.nil))
    · unfold actG
      have hb : Below Y.heap.size Y (Y.alloc (.cells #[.int .i64 b] 3)) := (Below.refl _ _).alloc (Nat.le_refl _) _
      have fin := Hid.of (n2_3_6.out (Y.alloc (.cells #[.int .i64 b] 3)) p18 Y.heap.size (BF.trans (hb.mono BF.size)) (K18.below hb K18.lt) (Blk.new Y 3 #[.int .i64 b]))
      have hs := SA.out _ (BF.trans (hb.mono BF.size))
      clear K18 BF hb
      have HS := Hid.of hs
      clear hs
      go_simp
      exact hK'.out _ _ HS.out (fun _ => fin.out)
    · unfold actG
      have hb : Below Y.heap.size Y (Y.alloc (.cells #[.int .u64 0, .int .u64 0, .int .u64 0, .int .u64 0] 79)) := (Below.refl _ _).alloc (Nat.le_refl _) _
      have fin := Hid.of (n2_3_8.out (Y.alloc (.cells #[.int .u64 0, .int .u64 0, .int .u64 0, .int .u64 0] 79)) p18 Y.heap.size (BF.trans (hb.mono BF.size)) (K18.below hb K18.lt) (Blk.new Y 79 #[.int .u64 0, .int .u64 0, .int .u64 0, .int .u64 0]) BF.size)
      have hs := SA.out _ (BF.trans (hb.mono BF.size))
      clear K18 BF hb
      have HS := Hid.of hs
      clear hs
      go_simp
      exact hK'.out _ _ HS.out (fun _ => fin.out)
    · unfold actG
      have hb : Below Y.heap.size Y (Y.alloc (.cells #[.int .u64 0, .int .u64 0, .int .u64 0, .int .u64 0] 79)) := (Below.refl _ _).alloc (Nat.le_refl _) _
      have fin := Hid.of (n2_3_9.out (Y.alloc (.cells #[.int .u64 0, .int .u64 0, .int .u64 0, .int .u64 0] 79)) p18 Y.heap.size (BF.trans (hb.mono BF.size)) (K18.below hb K18.lt) (Blk.new Y 79 #[.int .u64 0, .int .u64 0, .int .u64 0, .int .u64 0]) BF.size)
      have hs := SA.out _ (BF.trans (hb.mono BF.size))
      clear K18 BF hb
      have HS := Hid.of hs
      clear hs
      go_simp
      exact hK'.out _ _ HS.out (fun _ => fin.out)
  have n2_6 : Hid (∀ (Y : World) (p18 p22 : Nat) (BF : Below X.heap.size X Y) (K18 : Blk Y p18 3 #[.int .i64 a]) (K22 : Blk Y p22 3 #[.int .i64 b]), wpAnyH Tryd.prog .any opsG2 Q (fun w' => w'.cell? ⟨b3, 0, none⟩ = some (.int .i64 a) ∧ w'.cell? ⟨b3, 1, none⟩ = some (.int .i64 b)) 6 #[true, true, true, false, true, true, true, false, false, false, false, false] (actG p r b3 a b n (.slice (some ⟨p18, 0, none⟩) 1 1) undef (.slice (some ⟨p22, 0, none⟩) 1 1) undef undef undef) Y) := by
    intro Y p18 p22 BF K18 K22
    refine wpAnyH_ready (rs := [3, 8, 9]) (by kernel_rfl) (by simp) ?_
    refine AllReadyH.cons rfl (fun K' hK' => ?_) (AllReadyH.cons rfl (fun K' hK' => ?_) (AllReadyH.cons rfl (fun K' hK' => ?_) AllReadyH.nil))
    · unfold actG
      have hcall := Hid.of (of_any (some ⟨p18, 0, none⟩) 1 [a] Y (at_oneB K18) (show 1 ≤ maxLen by decide) (fun y hy => by rw [List.mem_singleton] at hy; rw [hy]; exact haI.out))
      have HK18 := Hid.of K18
      have HK22 := Hid.of K22
      have HBF := Hid.of BF
      clear BF K18 K22
      go_simp
      refine hcall.out.mono ?_
      rintro e1 Y2 ⟨rfl, hb⟩
      exact hK'.out _ _ (SA.out _ (HBF.out.trans (hb.mono HBF.out.size))) (fun _ => n2_3_6.out Y2 p18 p22 (HBF.out.trans (hb.mono HBF.out.size)) (HK18.out.below hb HK18.out.lt) (HK22.out.below hb HK22.out.lt))
    · unfold actG
      have hb : Below Y.heap.size Y (Y.alloc (.cells #[.int .u64 0, .int .u64 0, .int .u64 0, .int .u64 0] 79)) := (Below.refl _ _).alloc (Nat.le_refl _) _
      have fin := Hid.of (n2_6_8.out (Y.alloc (.cells #[.int .u64 0, .int .u64 0, .int .u64 0, .int .u64 0] 79)) p18 p22 Y.heap.size (BF.trans (hb.mono BF.size)) (K18.below hb K18.lt) (K22.below hb K22.lt) (Blk.new Y 79 #[.int .u64 0, .int .u64 0, .int .u64 0, .int .u64 0]) BF.size)
      have hs := SA.out _ (BF.trans (hb.mono BF.size))
      clear K18 K22 BF hb
      have HS := Hid.of hs
      clear hs
      go_simp
      exact hK'.out _ _ HS.out (fun _ => fin.out)
    · unfold actG
      have hb : Below Y.heap.size Y (Y.alloc (.cells #[.int .u64 0, .int .u64 0, .int .u64 0, .int .u64 0] 79)) := (Below.refl _ _).alloc (Nat.le_refl _) _
      have fin := Hid.of (n2_6_9.out (Y.alloc (.cells #[.int .u64 0, .int .u64 0, .int .u64 0, .int .u64 0] 79)) p18 p22 Y.heap.size (BF.trans (hb.mono BF.size)) (K18.below hb K18.lt) (K22.below hb K22.lt) (Blk.new Y 79 #[.int .u64 0, .int .u64 0, .int .u64 0, .int .u64 0]) BF.size)
      have hs := SA.out _ (BF.trans (hb.mono BF.size))
      clear K18 K22 BF hb
      have HS := Hid.of hs
      clear hs
      go_simp
      exact hK'.out _ _ HS.out (fun _ => fin.out)
  have n2_8 : Hid (∀ (Y : World) (p18 p5 : Nat) (BF : Below X.heap.size X Y) (K18 : Blk Y p18 3 #[.int .i64 a]) (K5 : SB Y p5 zeroS) (L5 : X.heap.size ≤ p5), wpAnyH Tryd.prog .any opsG2 Q (fun w' => w'.cell? ⟨b3, 0, none⟩ = some (.int .i64 a) ∧ w'.cell? ⟨b3, 1, none⟩ = some (.int .i64 b)) 6 #[true, true, true, false, true, true, false, false, true, false, false, false] (actG p r b3 a b n (.slice (some ⟨p18, 0, none⟩) 1 1) undef undef undef (.pointer (some ⟨p5, 0, none⟩)) undef) Y) := by
    intro Y p18 p5 BF K18 K5 L5
    refine wpAnyH_ready (rs := [3, 6, 9]) (by kernel_rfl) (by simp) ?_
    refine AllReadyH.cons rfl (fun K' hK' => ?_) (AllReadyH.cons rfl (fun K' hK' => ?_) (AllReadyH.cons rfl (fun K' hK' => ?_) AllReadyH.nil))
    · unfold actG
      have hcall := Hid.of (of_any (some ⟨p18, 0, none⟩) 1 [a] Y (at_oneB K18) (show 1 ≤ maxLen by decide) (fun y hy => by rw [List.mem_singleton] at hy; rw [hy]; exact haI.out))
      have HK18 := Hid.of K18
      have HK5 := Hid.of K5
      have HL5 := Hid.of L5
      have HBF := Hid.of BF
      clear BF K18 K5 L5
      go_simp
      refine hcall.out.mono ?_
      rintro e1 Y2 ⟨rfl, hb⟩
      exact hK'.out _ _ (SA.out _ (HBF.out.trans (hb.mono HBF.out.size))) (fun _ => n2_3_8.out Y2 p18 p5 (HBF.out.trans (hb.mono HBF.out.size)) (HK18.out.below hb HK18.out.lt) (HK5.out.below hb HK5.out.lt) HL5.out)
    · unfold actG
      have hb : Below Y.heap.size Y (Y.alloc (.cells #[.int .i64 b] 3)) := (Below.refl _ _).alloc (Nat.le_refl _) _
      have fin := Hid.of (n2_6_8.out (Y.alloc (.cells #[.int .i64 b] 3)) p18 Y.heap.size p5 (BF.trans (hb.mono BF.size)) (K18.below hb K18.lt) (Blk.new Y 3 #[.int .i64 b]) (K5.below hb K5.lt) L5)
      have hs := SA.out _ (BF.trans (hb.mono BF.size))
      clear K18 K5 L5 BF hb
      have HS := Hid.of hs
      clear hs
      go_simp
      exact hK'.out _ _ HS.out (fun _ => fin.out)
    · unfold actG
      have hb : Below Y.heap.size Y (Y.alloc (.cells #[.int .u64 0, .int .u64 0, .int .u64 0, .int .u64 0] 79)) := (Below.refl _ _).alloc (Nat.le_refl _) _
      have fin := Hid.of (n2_8_9.out (Y.alloc (.cells #[.int .u64 0, .int .u64 0, .int .u64 0, .int .u64 0] 79)) p18 p5 Y.heap.size (BF.trans (hb.mono BF.size)) (K18.below hb K18.lt) (K5.below hb K5.lt) L5 (Blk.new Y 79 #[.int .u64 0, .int .u64 0, .int .u64 0, .int .u64 0]) BF.size (Nat.ne_of_lt K5.lt))
      have hs := SA.out _ (BF.trans (hb.mono BF.size))
      clear K18 K5 L5 BF hb
      have HS := Hid.of hs
      clear hs
      go_simp
      exact hK'.out _ _ HS.out (fun _ => fin.out)
  have n2_9 : Hid (∀ (Y : World) (p18 p6 : Nat) (BF : Below X.heap.size X Y) (K18 : Blk Y p18 3 #[.int .i64 a]) (K6 : SB Y p6 zeroS) (L6 : X.heap.size ≤ p6), wpAnyH Tryd.prog .any opsG2 Q (fun w' => w'.cell? ⟨b3, 0, none⟩ = some (.int .i64 a) ∧ w'.cell? ⟨b3, 1, none⟩ = some (.int .i64 b)) 6 #[true, true, true, false, true, true, false, false, false, true, false, false] (actG p r b3 a b n (.slice (some ⟨p18, 0, none⟩) 1 1) undef undef undef undef (.pointer (some ⟨p6, 0, none⟩))) Y) := by
    intro Y p18 p6 BF K18 K6 L6
    refine wpAnyH_ready (rs := [3, 6, 8]) (by kernel_rfl) (by simp) ?_
    refine AllReadyH.cons rfl (fun K' hK' => ?_) (AllReadyH.cons rfl (fun K' hK' => ?_) (AllReadyH.cons rfl (fun K' hK' => ?_) AllReadyH.nil))
    · unfold actG
      have hcall := Hid.of (of_any (some ⟨p18, 0, none⟩) 1 [a] Y (at_oneB K18) (show 1 ≤ maxLen by decide) (fun y hy => by rw [List.mem_singleton] at hy; rw [hy]; exact haI.out))
      have HK18 := Hid.of K18
      have HK6 := Hid.of K6
      have HL6 := Hid.of L6
      have HBF := Hid.of BF
      clear BF K18 K6 L6
      go_simp
      refine hcall.out.mono ?_
      rintro e1 Y2 ⟨rfl, hb⟩
      exact hK'.out _ _ (SA.out _ (HBF.out.trans (hb.mono HBF.out.size))) (fun _ => n2_3_9.out Y2 p18 p6 (HBF.out.trans (hb.mono HBF.out.size)) (HK18.out.below hb HK18.out.lt) (HK6.out.below hb HK6.out.lt) HL6.out)
    · unfold actG
      have hb : Below Y.heap.size Y (Y.alloc (.cells #[.int .i64 b] 3)) := (Below.refl _ _).alloc (Nat.le_refl _) _
      have fin := Hid.of (n2_6_9.out (Y.alloc (.cells #[.int .i64 b] 3)) p18 Y.heap.size p6 (BF.trans (hb.mono BF.size)) (K18.below hb K18.lt) (Blk.new Y 3 #[.int .i64 b]) (K6.below hb K6.lt) L6)
      have hs := SA.out _ (BF.trans (hb.mono BF.size))
      clear K18 K6 L6 BF hb
      have HS := Hid.of hs
      clear hs
      go_simp
      exact hK'.out _ _ HS.out (fun _ => fin.out)
    · unfold actG
      have hb : Below Y.heap.size Y (Y.alloc (.cells #[.int .u64 0, .int .u64 0, .int .u64 0, .int .u64 0] 79)) := (Below.refl _ _).alloc (Nat.le_refl _) _
      have fin := Hid.of (n2_8_9.out (Y.alloc (.cells #[.int .u64 0, .int .u64 0, .int .u64 0, .int .u64 0] 79)) p18 Y.heap.size p6 (BF.trans (hb.mono BF.size)) (K18.below hb K18.lt) (Blk.new Y 79 #[.int .u64 0, .int .u64 0, .int .u64 0, .int .u64 0]) BF.size (K6.below hb K6.lt) L6 (Ne.symm (Nat.ne_of_lt K6.lt)))
      have hs := SA.out _ (BF.trans (hb.mono BF.size))
      clear K18 K6 L6 BF hb
      have HS := Hid.of hs
      clear hs
      go_simp
      exact hK'.out _ _ HS.out (fun _ => fin.out)
  have n6_8 : Hid (∀ (Y : World) (p22 p5 : Nat) (BF : Below X.heap.size X Y) (K22 : Blk Y p22 3 #[.int .i64 b]) (K5 : SB Y p5 zeroS) (L5 : X.heap.size ≤ p5), wpAnyH Tryd.prog .any opsG2 Q (fun w' => w'.cell? ⟨b3, 0, none⟩ = some (.int .i64 a) ∧ w'.cell? ⟨b3, 1, none⟩ = some (.int .i64 b)) 6 #[true, true, false, false, true, true, true, false, true, false, false, false] (actG p r b3 a b n undef undef (.slice (some ⟨p22, 0, none⟩) 1 1) undef (.pointer (some ⟨p5, 0, none⟩)) undef) Y) := by
    intro Y p22 p5 BF K22 K5 L5
    refine wpAnyH_ready (rs := [2, 9]) (by kernel_rfl) (by simp) ?_
    refine AllReadyH.cons rfl (fun K' hK' => ?_) (AllReadyH.cons rfl (fun K' hK' => ?_) AllReadyH.nil)
    · unfold actG
      have hb : Below Y.heap.size Y (Y.alloc (.cells #[.int .i64 a] 3)) := (Below.refl _ _).alloc (Nat.le_refl _) _
      have fin := Hid.of (n2_6_8.out (Y.alloc (.cells #[.int .i64 a] 3)) Y.heap.size p22 p5 (BF.trans (hb.mono BF.size)) (Blk.new Y 3 #[.int .i64 a]) (K22.below hb K22.lt) (K5.below hb K5.lt) L5)
      have hs := SA.out _ (BF.trans (hb.mono BF.size))
      clear K22 K5 L5 BF hb
      have HS := Hid.of hs
      clear hs
      go_simp
      exact hK'.out _ _ HS.out (fun _ => fin.out)
    · unfold actG
      have hb : Below Y.heap.size Y (Y.alloc (.cells #[.int .u64 0, .int .u64 0, .int .u64 0, .int .u64 0] 79)) := (Below.refl _ _).alloc (Nat.le_refl _) _
      have fin := Hid.of (n6_8_9.out (Y.alloc (.cells #[.int .u64 0, .int .u64 0, .int .u64 0, .int .u64 0] 79)) p22 p5 Y.heap.size (BF.trans (hb.mono BF.size)) (K22.below hb K22.lt) (K5.below hb K5.lt) L5 (Blk.new Y 79 #[.int .u64 0, .int .u64 0, .int .u64 0, .int .u64 0]) BF.size (Nat.ne_of_lt K5.lt))
      have hs := SA.out _ (BF.trans (hb.mono BF.size))
      clear K22 K5 L5 BF hb
      have HS := Hid.of hs
      clear hs
      go_simp
      exact hK'.out _ _ HS.out (fun _ => fin.out)
  have n6_9 : Hid (∀ (Y : World) (p22 p6 : Nat) (BF : Below X.heap.size X Y) (K22 : Blk Y p22 3 #[.int .i64 b]) (K6 : SB Y p6 zeroS) (L6 : X.heap.size ≤ p6), wpAnyH Tryd.prog .any opsG2 Q (fun w' => w'.cell? ⟨b3, 0, none⟩ = some (.int .i64 a) ∧ w'.cell? ⟨b3, 1, none⟩ = some (.int .i64 b)) 6 #[true, true, false, false, true, true, true, false, false, true, false, false] (actG p r b3 a b n undef undef (.slice (some ⟨p22, 0, none⟩) 1 1) undef undef (.pointer (some ⟨p6, 0, none⟩))) Y) := by
    intro Y p22 p6 BF K22 K6 L6
    refine wpAnyH_ready (rs := [2, 8]) (by kernel_rfl) (by simp) ?_
    refine AllReadyH.cons rfl (fun K' hK' => ?_) (AllReadyH.cons rfl (fun K' hK' => ?_) AllReadyH.nil)
    · unfold actG
      have hb : Below Y.heap.size Y (Y.alloc (.cells #[.int .i64 a] 3)) := (Below.refl _ _).alloc (Nat.le_refl _) _
      have fin := Hid.of (n2_6_9.out (Y.alloc (.cells #[.int .i64 a] 3)) Y.heap.size p22 p6 (BF.trans (hb.mono BF.size)) (Blk.new Y 3 #[.int .i64 a]) (K22.below hb K22.lt) (K6.below hb K6.lt) L6)
      have hs := SA.out _ (BF.trans (hb.mono BF.size))
      clear K22 K6 L6 BF hb
      have HS := Hid.of hs
      clear hs
      go_simp
      exact hK'.out _ _ HS.out (fun _ => fin.out)
    · unfold actG
      have hb : Below Y.heap.size Y (Y.alloc (.cells #[.int .u64 0, .int .u64 0, .int .u64 0, .int .u64 0] 79)) := (Below.refl _ _).alloc (Nat.le_refl _) _
      have fin := Hid.of (n6_8_9.out (Y.alloc (.cells #[.int .u64 0, .int .u64 0, .int .u64 0, .int .u64 0] 79)) p22 Y.heap.size p6 (BF.trans (hb.mono BF.size)) (K22.below hb K22.lt) (Blk.new Y 79 #[.int .u64 0, .int .u64 0, .int .u64 0, .int .u64 0]) BF.size (K6.below hb K6.lt) L6 (Ne.symm (Nat.ne_of_lt K6.lt)))
      have hs := SA.out _ (BF.trans (hb.mono BF.size))
      clear K22 K6 L6 BF hb
      have HS := Hid.of hs
      clear hs
      go_simp
      exact hK'.out _ _ HS.out (fun _ => fin.out)
  have n8_9 : Hid (∀ (Y : World) (p5 p6 : Nat) (BF : Below X.heap.size X Y) (K5 : SB Y p5 zeroS) (L5 : X.heap.size ≤ p5) (K6 : SB Y p6 zeroS) (L6 : X.heap.size ≤ p6) (N56 : p5 ≠ p6), wpAnyH Tryd.prog .any opsG2 Q (fun w' => w'.cell? ⟨b3, 0, none⟩ = some (.int .i64 a) ∧ w'.cell? ⟨b3, 1, none⟩ = some (.int .i64 b)) 6 #[true, true, false, false, true, true, false, false, true, true, false, false] (actG p r b3 a b n undef undef undef undef (.pointer (some ⟨p5, 0, none⟩)) (.pointer (some ⟨p6, 0, none⟩))) Y) := by
    intro Y p5 p6 BF K5 L5 K6 L6 N56
    refine wpAnyH_ready (rs := [2, 6]) (by kernel_rfl) (by simp) ?_
    refine AllReadyH.cons rfl (fun K' hK' => ?_) (AllReadyH.cons rfl (fun K' hK' => ?_) AllReadyH.nil)
    · unfold actG
      have hb : Below Y.heap.size Y (Y.alloc (.cells #[.int .i64 a] 3)) := (Below.refl _ _).alloc (Nat.le_refl _) _
      have fin := Hid.of (n2_8_9.out (Y.alloc (.cells #[.int .i64 a] 3)) Y.heap.size p5 p6 (BF.trans (hb.mono BF.size)) (Blk.new Y 3 #[.int .i64 a]) (K5.below hb K5.lt) L5 (K6.below hb K6.lt) L6 N56)
      have hs := SA.out _ (BF.trans (hb.mono BF.size))
      clear K5 L5 K6 L6 N56 BF hb
      have HS := Hid.of hs
      clear hs
      go_simp
      exact hK'.out _ _ HS.out (fun _ => fin.out)
    · unfold actG
      have hb : Below Y.heap.size Y (Y.alloc (.cells #[.int .i64 b] 3)) := (Below.refl _ _).alloc (Nat.le_refl _) _
      have fin := Hid.of (n6_8_9.out (Y.alloc (.cells #[.int .i64 b] 3)) Y.heap.size p5 p6 (BF.trans (hb.mono BF.size)) (Blk.new Y 3 #[.int .i64 b]) (K5.below hb K5.lt) L5 (K6.below hb K6.lt) L6 N56)
      have hs := SA.out _ (BF.trans (hb.mono BF.size))
      clear K5 L5 K6 L6 N56 BF hb
      have HS := Hid.of hs
      clear hs
      go_simp
      exact hK'.out _ _ HS.out (fun _ => fin.out)
  have n2 : Hid (∀ (Y : World) (p18 : Nat) (BF : Below X.heap.size X Y) (K18 : Blk Y p18 3 #[.int .i64 a]), wpAnyH Tryd.prog .any opsG2 Q (fun w' => w'.cell? ⟨b3, 0, none⟩ = some (.int .i64 a) ∧ w'.cell? ⟨b3, 1, none⟩ = some (.int .i64 b)) 7 #[true, true, true, false, true, true, false, false, false, false, false, false] (actG p r b3 a b n (.slice (some ⟨p18, 0, none⟩) 1 1) undef undef undef undef undef) Y) := by
    intro Y p18 BF K18
    refine wpAnyH_ready (rs := [3, 6, 8, 9]) (by kernel_rfl) (by simp) ?_
    refine AllReadyH.cons rfl (fun K' hK' => ?_) (AllReadyH.cons rfl (fun K' hK' => ?_) (AllReadyH.cons rfl (fun K' hK' => ?_) (AllReadyH.cons rfl (fun K' hK' => ?_) AllReadyH.nil)))
    · unfold actG
      have hcall := Hid.of (of_any (some ⟨p18, 0, none⟩) 1 [a] Y (at_oneB K18) (show 1 ≤ maxLen by decide) (fun y hy => by rw [List.mem_singleton] at hy; rw [hy]; exact haI.out))
      have HK18 := Hid.of K18
      have HBF := Hid.of BF
      clear BF K18
      go_simp
      refine hcall.out.mono ?_
      rintro e1 Y2 ⟨rfl, hb⟩
      exact hK'.out _ _ (SA.out _ (HBF.out.trans (hb.mono HBF.out.size))) (fun _ => n2_3.out Y2 p18 (HBF.out.trans (hb.mono HBF.out.size)) (HK18.out.below hb HK18.out.lt))
    · unfold actG
      have hb : Below Y.heap.size Y (Y.alloc (.cells #[.int .i64 b] 3)) := (Below.refl _ _).alloc (Nat.le_refl _) _
      have fin := Hid.of (n2_6.out (Y.alloc (.cells #[.int .i64 b] 3)) p18 Y.heap.size (BF.trans (hb.mono BF.size)) (K18.below hb K18.lt) (Blk.new Y 3 #[.int .i64 b]))
      have hs := SA.out _ (BF.trans (hb.mono BF.size))
      clear K18 BF hb
      have HS := Hid.of hs
      clear hs
      go_simp
      exact hK'.out _ _ HS.out (fun _ => fin.out)
    · unfold actG
      have hb : Below Y.heap.size Y (Y.alloc (.cells #[.int .u64 0, .int .u64 0, .int .u64 0, .int .u64 0] 79)) := (Below.refl _ _).alloc (Nat.le_refl _) _
      have fin := Hid.of (n2_8.out (Y.alloc (.cells #[.int .u64 0, .int .u64 0, .int .u64 0, .int .u64 0] 79)) p18 Y.heap.size (BF.trans (hb.mono BF.size)) (K18.below hb K18.lt) (Blk.new Y 79 #[.int .u64 0, .int .u64 0, .int .u64 0, .int .u64 0]) BF.size)
      have hs := SA.out _ (BF.trans (hb.mono BF.size))
      clear K18 BF hb
      have HS := Hid.of hs
      clear hs
      go_simp
      exact hK'.out _ _ HS.out (fun _ => fin.out)
    · unfold actG
      have hb : Below Y.heap.size Y (Y.alloc (.cells #[.int .u64 0, .int .u64 0, .int .u64 0, .int .u64 0] 79)) := (Below.refl _ _).alloc (Nat.le_refl _) _
      have fin := Hid.of (n2_9.out (Y.alloc (.cells #[.int .u64 0, .int .u64 0, .int .u64 0, .int .u64 0] 79)) p18 Y.heap.size (BF.trans (hb.mono BF.size)) (K18.below hb K18.lt) (Blk.new Y 79 #[.int .u64 0, .int .u64 0, .int .u64 0, .int .u64 0]) BF.size)
      have hs := SA.out _ (BF.trans (hb.mono BF.size))
      clear K18 BF hb
      have HS := Hid.of hs
      clear hs
      go_simp
      exact hK'.out _ _ HS.out (fun _ => fin.out)
  have n6 : Hid (∀ (Y : World) (p22 : Nat) (BF : Below X.heap.size X Y) (K22 : Blk Y p22 3 #[.int .i64 b]), wpAnyH Tryd.prog .any opsG2 Q (fun w' => w'.cell? ⟨b3, 0, none⟩ = some (.int .i64 a) ∧ w'.cell? ⟨b3, 1, none⟩ = some (.int .i64 b)) 7 #[true, true, false, false, true, true, true, false, false, false, false, false] (actG p r b3 a b n undef undef (.slice (some ⟨p22, 0, none⟩) 1 1) undef undef undef) Y) := by
    intro Y p22 BF K22
    refine wpAnyH_ready (rs := [2, 8, 9]) (by kernel_rfl) (by simp) ?_
    refine AllReadyH.cons rfl (fun K' hK' => ?_) (AllReadyH.cons rfl (fun K' hK' => ?_) (AllReadyH.cons rfl (fun K' hK' => ?_) AllReadyH.nil))
    · unfold actG
      have hb : Below Y.heap.size Y (Y.alloc (.cells #[.int .i64 a] 3)) := (Below.refl _ _).alloc (Nat.le_refl _) _
      have fin := Hid.of (n2_6.out (Y.alloc (.cells #[.int .i64 a] 3)) Y.heap.size p22 (BF.trans (hb.mono BF.size)) (Blk.new Y 3 #[.int .i64 a]) (K22.below hb K22.lt))
      have hs := SA.out _ (BF.trans (hb.mono BF.size))
      clear K22 BF hb
      have HS := Hid.of hs
      clear hs
      go_simp
      exact hK'.out _ _ HS.out (fun _ => fin.out)
    · unfold actG
      have hb : Below Y.heap.size Y (Y.alloc (.cells #[.int .u64 0, .int .u64 0, .int .u64 0, .int .u64 0] 79)) := (Below.refl _ _).alloc (Nat.le_refl _) _
      have fin := Hid.of (n6_8.out (Y.alloc (.cells #[.int .u64 0, .int .u64 0, .int .u64 0, .int .u64 0] 79)) p22 Y.heap.size (BF.trans (hb.mono BF.size)) (K22.below hb K22.lt) (Blk.new Y 79 #[.int .u64 0, .int .u64 0, .int .u64 0, .int .u64 0]) BF.size)
      have hs := SA.out _ (BF.trans (hb.mono BF.size))
      clear K22 BF hb
      have HS := Hid.of hs
      clear hs
      go_simp
      exact hK'.out _ _ HS.out (fun _ => fin.out)
    · unfold actG
      have hb : Below Y.heap.size Y (Y.alloc (.cells #[.int .u64 0, .int .u64 0, .int .u64 0, .int .u64 0] 79)) := (Below.refl _ _).alloc (Nat.le_refl _) _
      have fin := Hid.of (n6_9.out (Y.alloc (.cells #[.int .u64 0, .int .u64 0, .int .u64 0, .int .u64 0] 79)) p22 Y.heap.size (BF.trans (hb.mono BF.size)) (K22.below hb K22.lt) (Blk.new Y 79 #[.int .u64 0, .int .u64 0, .int .u64 0, .int .u64 0]) BF.size)
      have hs := SA.out _ (BF.trans (hb.mono BF.size))
      clear K22 BF hb
      have HS := Hid.of hs
      clear hs
      go_simp
      exact hK'.out _ _ HS.out (fun _ => fin.out)
  have n8 : Hid (∀ (Y : World) (p5 : Nat) (BF : Below X.heap.size X Y) (K5 : SB Y p5 zeroS) (L5 : X.heap.size ≤ p5), wpAnyH Tryd.prog .any opsG2 Q (fun w' => w'.cell? ⟨b3, 0, none⟩ = some (.int .i64 a) ∧ w'.cell? ⟨b3, 1, none⟩ = some (.int .i64 b)) 7 #[true, true, false, false, true, true, false, false, true, false, false, false] (actG p r b3 a b n undef undef undef undef (.pointer (some ⟨p5, 0, none⟩)) undef) Y) := by
    intro Y p5 BF K5 L5
    refine wpAnyH_ready (rs := [2, 6, 9]) (by kernel_rfl) (by simp) ?_
    refine AllReadyH.cons rfl (fun K' hK' => ?_) (AllReadyH.cons rfl (fun K' hK' => ?_) (AllReadyH.cons rfl (fun K' hK' => ?_) AllReadyH.nil))
    · unfold actG
      have hb : Below Y.heap.size Y (Y.alloc (.cells #[.int .i64 a] 3)) := (Below.refl _ _).alloc (Nat.le_refl _) _
      have fin := Hid.of (n2_8.out (Y.alloc (.cells #[.int .i64 a] 3)) Y.heap.size p5 (BF.trans (hb.mono BF.size)) (Blk.new Y 3 #[.int .i64 a]) (K5.below hb K5.lt) L5)
      have hs := SA.out _ (BF.trans (hb.mono BF.size))
      clear K5 L5 BF hb
      have HS := Hid.of hs
      clear hs
      go_simp
      exact hK'.out _ _ HS.out (fun _ => fin.out)
    · unfold actG
      have hb : Below Y.heap.size Y (Y.alloc (.cells #[.int .i64 b] 3)) := (Below.refl _ _).alloc (Nat.le_refl _) _
      have fin := Hid.of (n6_8.out (Y.alloc (.cells #[.int .i64 b] 3)) Y.heap.size p5 (BF.trans (hb.mono BF.size)) (Blk.new Y 3 #[.int .i64 b]) (K5.below hb K5.lt) L5)
      have hs := SA.out _ (BF.trans (hb.mono BF.size))
      clear K5 L5 BF hb
      have HS := Hid.of hs
      clear hs
      go_simp
      exact hK'.out _ _ HS.out (fun _ => fin.out)
    · unfold actG
      have hb : Below Y.heap.size Y (Y.alloc (.cells #[.int .u64 0, .int .u64 0, .int .u64 0, .int .u64 0] 79)) := (Below.refl _ _).alloc (Nat.le_refl _) _
      have fin := Hid.of (n8_9.out (Y.alloc (.cells #[.int .u64 0, .int .u64 0, .int .u64 0, .int .u64 0] 79)) p5 Y.heap.size (BF.trans (hb.mono BF.size)) (K5.below hb K5.lt) L5 (Blk.new Y 79 #[.int .u64 0, .int .u64 0, .int .u64 0, .int .u64 0]) BF.size (Nat.ne_of_lt K5.lt))
      have hs := SA.out _ (BF.trans (hb.mono BF.size))
      clear K5 L5 BF hb
      have HS := Hid.of hs
      clear hs
      go_simp
      exact hK'.out _ _ HS.out (fun _ => fin.out)
  have n9 : Hid (∀ (Y : World) (p6 : Nat) (BF : Below X.heap.size X Y) (K6 : SB Y p6 zeroS) (L6 : X.heap.size ≤ p6), wpAnyH Tryd.prog .any opsG2 Q (fun w' => w'.cell? ⟨b3, 0, none⟩ = some (.int .i64 a) ∧ w'.cell? ⟨b3, 1, none⟩ = some (.int .i64 b)) 7 #[true, true, false, false, true, true, false, false, false, true, false, false] (actG p r b3 a b n undef undef undef undef undef (.pointer (some ⟨p6, 0, none⟩))) Y) := by
    intro Y p6 BF K6 L6
    refine wpAnyH_ready (rs := [2, 6, 8]) (by kernel_rfl) (by simp) ?_
    refine AllReadyH.cons rfl (fun K' hK' => ?_) (AllReadyH.cons rfl (fun K' hK' => ?_) (AllReadyH.cons rfl (fun K' hK' => ?_) AllReadyH.nil))
    · unfold actG
      have hb : Below Y.heap.size Y (Y.alloc (.cells #[.int .i64 a] 3)) := (Below.refl _ _).alloc (Nat.le_refl _) _
      have fin := Hid.of (n2_9.out (Y.alloc (.cells #[.int .i64 a] 3)) Y.heap.size p6 (BF.trans (hb.mono BF.size)) (Blk.new Y 3 #[.int .i64 a]) (K6.below hb K6.lt) L6)
      have hs := SA.out _ (BF.trans (hb.mono BF.size))
      clear K6 L6 BF hb
      have HS := Hid.of hs
      clear hs
      go_simp
      exact hK'.out _ _ HS.out (fun _ => fin.out)
    · unfold actG
      have hb : Below Y.heap.size Y (Y.alloc (.cells #[.int .i64 b] 3)) := (Below.refl _ _).alloc (Nat.le_refl _) _
      have fin := Hid.of (n6_9.out (Y.alloc (.cells #[.int .i64 b] 3)) Y.heap.size p6 (BF.trans (hb.mono BF.size)) (Blk.new Y 3 #[.int .i64 b]) (K6.below hb K6.lt) L6)
      have hs := SA.out _ (BF.trans (hb.mono BF.size))
      clear K6 L6 BF hb
      have HS := Hid.of hs
      clear hs
      go_simp
      exact hK'.out _ _ HS.out (fun _ => fin.out)
    · unfold actG
      have hb : Below Y.heap.size Y (Y.alloc (.cells #[.int .u64 0, .int .u64 0, .int .u64 0, .int .u64 0] 79)) := (Below.refl _ _).alloc (Nat.le_refl _) _
      have fin := Hid.of (n8_9.out (Y.alloc (.cells #[.int .u64 0, .int .u64 0, .int .u64 0, .int .u64 0] 79)) Y.heap.size p6 (BF.trans (hb.mono BF.size)) (Blk.new Y 79 #[.int .u64 0, .int .u64 0, .int .u64 0, .int .u64 0]) BF.size (K6.below hb K6.lt) L6 (Ne.symm (Nat.ne_of_lt K6.lt)))
      have hs := SA.out _ (BF.trans (hb.mono BF.size))
      clear K6 L6 BF hb
      have HS := Hid.of hs
      clear hs
      go_simp
      exact hK'.out _ _ HS.out (fun _ => fin.out)
  have n0 : Hid (∀ (Y : World) (BF : Below X.heap.size X Y), wpAnyH Tryd.prog .any opsG2 Q (fun w' => w'.cell? ⟨b3, 0, none⟩ = some (.int .i64 a) ∧ w'.cell? ⟨b3, 1, none⟩ = some (.int .i64 b)) 8 #[true, true, false, false, true, true, false, false, false, false, false, false] (actG p r b3 a b n undef undef undef undef undef undef) Y) := by
    intro Y  BF
    refine wpAnyH_ready (rs := [2, 6, 8, 9]) (by kernel_rfl) (by simp) ?_
    refine AllReadyH.cons rfl (fun K' hK' => ?_) (AllReadyH.cons rfl (fun K' hK' => ?_) (AllReadyH.cons rfl (fun K' hK' => ?_) (AllReadyH.cons rfl (fun K' hK' => ?_) AllReadyH.nil)))
    · unfold actG
      have hb : Below Y.heap.size Y (Y.alloc (.cells #[.int .i64 a] 3)) := (Below.refl _ _).alloc (Nat.le_refl _) _
      have fin := Hid.of (n2.out (Y.alloc (.cells #[.int .i64 a] 3)) Y.heap.size (BF.trans (hb.mono BF.size)) (Blk.new Y 3 #[.int .i64 a]))
      have hs := SA.out _ (BF.trans (hb.mono BF.size))
      clear  BF hb
      have HS := Hid.of hs
      clear hs
      go_simp
      exact hK'.out _ _ HS.out (fun _ => fin.out)
    · unfold actG
      have hb : Below Y.heap.size Y (Y.alloc (.cells #[.int .i64 b] 3)) := (Below.refl _ _).alloc (Nat.le_refl _) _
      have fin := Hid.of (n6.out (Y.alloc (.cells #[.int .i64 b] 3)) Y.heap.size (BF.trans (hb.mono BF.size)) (Blk.new Y 3 #[.int .i64 b]))
      have hs := SA.out _ (BF.trans (hb.mono BF.size))
      clear  BF hb
      have HS := Hid.of hs
      clear hs
      go_simp
      exact hK'.out _ _ HS.out (fun _ => fin.out)
    · unfold actG
      have hb : Below Y.heap.size Y (Y.alloc (.cells #[.int .u64 0, .int .u64 0, .int .u64 0, .int .u64 0] 79)) := (Below.refl _ _).alloc (Nat.le_refl _) _
      have fin := Hid.of (n8.out (Y.alloc (.cells #[.int .u64 0, .int .u64 0, .int .u64 0, .int .u64 0] 79)) Y.heap.size (BF.trans (hb.mono BF.size)) (Blk.new Y 79 #[.int .u64 0, .int .u64 0, .int .u64 0, .int .u64 0]) BF.size)
      have hs := SA.out _ (BF.trans (hb.mono BF.size))
      clear  BF hb
      have HS := Hid.of hs
      clear hs
      go_simp
      exact hK'.out _ _ HS.out (fun _ => fin.out)
    · unfold actG
      have hb : Below Y.heap.size Y (Y.alloc (.cells #[.int .u64 0, .int .u64 0, .int .u64 0, .int .u64 0] 79)) := (Below.refl _ _).alloc (Nat.le_refl _) _
      have fin := Hid.of (n9.out (Y.alloc (.cells #[.int .u64 0, .int .u64 0, .int .u64 0, .int .u64 0] 79)) Y.heap.size (BF.trans (hb.mono BF.size)) (Blk.new Y 79 #[.int .u64 0, .int .u64 0, .int .u64 0, .int .u64 0]) BF.size)
      have hs := SA.out _ (BF.trans (hb.mono BF.size))
      clear  BF hb
      have HS := Hid.of hs
      clear hs
      go_simp
      exact hK'.out _ _ HS.out (fun _ => fin.out)
  refine wp_region_held_drew (S := fun w' => w'.cell? ⟨b3, 0, none⟩ = some (.int .i64 a) ∧ w'.cell? ⟨b3, 1, none⟩ = some (.int .i64 b)) (by kernel_rfl) (SA.out _ (Below.refl _ _).drew) (fun hS => ?_)
  refine wpAnyH_take (i := 0) (v := .pointer (some ⟨b3, 0, none⟩)) rfl (by kernel_rfl) (by kernel_rfl) (by kernel_rfl) (fun _ _ _ h => hQp _ _ _ _ h) (Or.inl ⟨by kernel_rfl, fun w' hw' => by obtain ⟨q0, q1⟩ := hw'; go_simp⟩) hS ?_
  refine wpAnyH_take (i := 1) (v := .int .i64 a) rfl (by kernel_rfl) (by kernel_rfl) (by kernel_rfl) (fun _ _ _ h => hQp _ _ _ _ h) (Or.inl ⟨by kernel_rfl, fun w' hw' => by obtain ⟨q0, q1⟩ := hw'; go_simp⟩) hS ?_
  refine wpAnyH_take (i := 4) (v := .pointer (some ⟨b3, 1, none⟩)) rfl (by kernel_rfl) (by kernel_rfl) (by kernel_rfl) (fun _ _ _ h => hQp _ _ _ _ h) (Or.inl ⟨by kernel_rfl, fun w' hw' => by obtain ⟨q0, q1⟩ := hw'; go_simp⟩) hS ?_
  refine wpAnyH_take (i := 5) (v := .int .i64 b) rfl (by kernel_rfl) (by kernel_rfl) (by kernel_rfl) (fun _ _ _ h => hQp _ _ _ _ h) (Or.inl ⟨by kernel_rfl, fun w' hw' => by obtain ⟨q0, q1⟩ := hw'; go_simp⟩) hS ?_
  exact n0.out _ (Below.refl _ _).drew

end Go.Proofs.YtgebfkmfhpcdhaaDoor
