/-
  The walk of machine.May: it answers 'mayB'.
  What is said of a set of states (an array of four words) in a world. The walks of Set.With, Set.Join and Set.Meets.
  The walks of jalousieref1.Same (two lists are one) and of jalousieref1.Only (the numbers of a list that are, or are not, in another).
  The walk of jalousieref2.Same: two machines are one.
-/
import Derived.Test.YtbdkaobbfmgnhaaDoorCArrMay
import Derived.Test.YtbdkaobbfmgnhaaDoorG08
import Derived.Laws.EntriesVeiled
import Derived.Laws.Bits64b
import Derived.BigQuiet
import Derived.BigRegion
import Derived.Deep.RegionHeld3
import Derived.Test.YtbdkaobbfmgnhaaDoorG04
import Derived.Test.YtbdkaobbfmgnhaaDoorG03
import Derived.Deep.QuietTactic
import Derived.Test.YtbdkaobbfmgnhaaDoorG05
namespace Go.Proofs.YtbdkaobbfmgnhaaDoor
open Go.RowKit
set_option linter.unusedVariables false

theorem may_split (m : Mach) : mayB m = (decide (1 ≤ m.st) && (decide (m.st ≤ 256) && (decide (0 ≤ m.ev) && (decide (m.ev ≤ 8) && (rowB m.st m.starts && (rowB m.st m.ends && arrsB m)))))) := by
  unfold mayB arrsB sizeOk
  by_cases h1 : 1 ≤ m.st <;> by_cases h2 : m.st ≤ 256 <;> by_cases h3 : 0 ≤ m.ev <;> by_cases h4 : m.ev ≤ 8 <;> by_cases h5 : m.arrows.length ≤ 4096 <;> simp [h1, h2, h3, h4, h5]

theorem may_no1 {m : Mach} (h : decide (1 ≤ m.st) = false) : false = mayB m := by rw [may_split, h]; rfl
theorem may_no2 {m : Mach} (h : decide (m.st ≤ 256) = false) : false = mayB m := by rw [may_split, h]; simp
theorem may_no3 {m : Mach} (h : decide (0 ≤ m.ev) = false) : false = mayB m := by rw [may_split, h]; simp
theorem may_no4 {m : Mach} (h : decide (m.ev ≤ 8) = false) : false = mayB m := by rw [may_split, h]; simp
theorem may_no5 {m : Mach} (h : rowB m.st m.starts = false) : false = mayB m := by rw [may_split, h]; simp
theorem may_no6 {m : Mach} (h : rowB m.st m.ends = false) : false = mayB m := by rw [may_split, h]; simp
theorem may_yes {m : Mach} (h1 : decide (1 ≤ m.st) = true) (h2 : decide (m.st ≤ 256) = true) (h3 : decide (0 ≤ m.ev) = true) (h4 : decide (m.ev ≤ 8) = true) (h5 : rowB m.st m.starts = true) (h6 : rowB m.st m.ends = true) : arrsB m = mayB m := by
  rw [may_split, h1, h2, h3, h4, h5, h6]; simp

set_option maxRecDepth 100000 in
set_option maxHeartbeats 4000000 in
theorem pMay_any (m : Mach) (l : ML) (w : World) (h : MAt w m l) :
    Calls Tryd.prog 15 #[mval m l] w fun e w' => e = .returned (.bool (mayB m)) ∧ Below w.heap.size w w' := by
  have b0 : Below w.heap.size w (w.alloc (.cells (mcells m l) 25)) := (Below.refl _ _).alloc (Nat.le_refl _) _
  have h' := Hid.of (h.below b0 (Nat.le_refl _))
  have l1 : Hid (m.starts.length ≤ maxLen) := Nat.le_trans h.s1 h.s2
  have l3 : Hid (m.ends.length ≤ maxLen) := Nat.le_trans h.e1 h.e2
  have B0 := Hid.of b0
  clear b0
  by_cases e1 : 1 ≤ m.st
  · have d1 : decide (1 ≤ m.st) = true := by simpa using e1
    by_cases e2 : m.st ≤ 256
    · have d2 : decide (m.st ≤ 256) = true := by simpa using e2
      by_cases e3 : 0 ≤ m.ev
      · have d3 : decide (0 ≤ m.ev) = true := by simpa using e3
        by_cases e4 : m.ev ≤ 8
        · have d4 : decide (m.ev ≤ 8) = true := by simpa using e4
          cases e5 : rowB m.st m.starts with
          | true =>
            cases e6 : rowB m.st m.ends with
            | true =>
              go_enter Tryd.func15, Tryd.ntmps15
              go_wp2_with fail
              refine (rowIs_any l.a1 l.c1 m.starts m.st _ h'.out.s l1.out).mono ?_
              rintro e w1 ⟨rfl, rfl⟩
              rw [e5]
              go_wp2_with fail
              refine (rowIs_any l.a3 l.c3 m.ends m.st _ h'.out.e l3.out).mono ?_
              rintro e w1 ⟨rfl, rfl⟩
              rw [e6]
              go_wp2_with fail
              refine (arrowsMay_any m l _ h'.out).mono ?_
              rintro e w1 ⟨rfl, hb1⟩
              go_wp2
              go_ret
              exact ⟨ret_bool (may_yes d1 d2 d3 d4 e5 e6), B0.out.trans (hb1.mono B0.out.size)⟩
            | false =>
              go_enter Tryd.func15, Tryd.ntmps15
              go_wp2_with fail
              refine (rowIs_any l.a1 l.c1 m.starts m.st _ h'.out.s l1.out).mono ?_
              rintro e w1 ⟨rfl, rfl⟩
              rw [e5]
              go_wp2_with fail
              refine (rowIs_any l.a3 l.c3 m.ends m.st _ h'.out.e l3.out).mono ?_
              rintro e w1 ⟨rfl, rfl⟩
              rw [e6]
              go_wp2
              go_ret
              exact ⟨ret_bool (may_no6 e6), B0.out⟩
          | false =>
            go_enter Tryd.func15, Tryd.ntmps15
            go_wp2_with (go_at_call 46; refine (rowIs_any l.a1 l.c1 m.starts m.st _ h'.out.s l1.out).mono ?_; rintro e w1 ⟨rfl, rfl⟩)
            go_ret
            exact ⟨ret_bool (may_no5 e5), B0.out⟩
        · have d4 : decide (m.ev ≤ 8) = false := by simpa using e4
          go_enter Tryd.func15, Tryd.ntmps15
          go_wp2
          go_ret
          exact ⟨ret_bool (may_no4 d4), B0.out⟩
      · have d3 : decide (0 ≤ m.ev) = false := by simpa using e3
        go_enter Tryd.func15, Tryd.ntmps15
        go_wp2
        go_ret
        exact ⟨ret_bool (may_no3 d3), B0.out⟩
    · have d2 : decide (m.st ≤ 256) = false := by simpa using e2
      go_enter Tryd.func15, Tryd.ntmps15
      go_wp2
      go_ret
      exact ⟨ret_bool (may_no2 d2), B0.out⟩
  · have d1 : decide (1 ≤ m.st) = false := by simpa using e1
    go_enter Tryd.func15, Tryd.ntmps15
    go_wp2
    go_ret
    exact ⟨ret_bool (may_no1 d1), B0.out⟩

end Go.Proofs.YtbdkaobbfmgnhaaDoor
namespace Go.Proofs.YtbdkaobbfmgnhaaDoor
open Go.RowKit
set_option linter.unusedVariables false

/-- A set's cells, and its value. -/
abbrev scells (S : Nat → Nat) : Array Value := #[.int .u64 (S 0), .int .u64 (S 1), .int .u64 (S 2), .int .u64 (S 3)]
abbrev sval (S : Nat → Nat) : Value := .agg (scells S)

/-- The first k words joined. -/
def mixS (k : Nat) (S T : Nat → Nat) : Nat → Nat := fun j => if j < k then S j ||| T j else S j

theorem or_words {S T : Nat → Nat} (h : okS S) (h' : okS T) (k : Nat) : bits .or .u64 (S k : Int) (T k : Int) = ((S k ||| T k : Nat) : Int) := bits_or_u64_nat _ _ (h k) (h' k)

/-- A set's block. -/
abbrev SB (W : World) (b : Nat) (S : Nat → Nat) : Prop := Blk W b 62 (scells S)

theorem SB.cells {W : World} {b : Nat} {S : Nat → Nat} (h : SB W b S) : W.cell? ⟨b, 0, none⟩ = some (.int .u64 (S 0)) ∧ W.cell? ⟨b, 1, none⟩ = some (.int .u64 (S 1)) ∧ W.cell? ⟨b, 2, none⟩ = some (.int .u64 (S 2)) ∧ W.cell? ⟨b, 3, none⟩ = some (.int .u64 (S 3)) :=
  ⟨h.cell 0 rfl, h.cell 1 rfl, h.cell 2 rfl, h.cell 3 rfl⟩

theorem mix_step0 {S T : Nat → Nat} (h : okS S) (h' : okS T) : (scells (mixS 0 S T)).setIfInBounds 0 (.int .u64 (bits .or .u64 (mixS 0 S T 0) (T 0))) = scells (mixS 1 S T) := by
  show (#[.int .u64 (bits .or .u64 (S 0) (T 0)), .int .u64 (S 1), .int .u64 (S 2), .int .u64 (S 3)] : Array Value) = _
  rw [or_words h h']; rfl
theorem mix_step1 {S T : Nat → Nat} (h : okS S) (h' : okS T) : (scells (mixS 1 S T)).setIfInBounds 1 (.int .u64 (bits .or .u64 (mixS 1 S T 1) (T 1))) = scells (mixS 2 S T) := by
  show (#[.int .u64 (mixS 1 S T 0), .int .u64 (bits .or .u64 (S 1) (T 1)), .int .u64 (S 2), .int .u64 (S 3)] : Array Value) = _
  rw [or_words h h']; rfl
theorem mix_step2 {S T : Nat → Nat} (h : okS S) (h' : okS T) : (scells (mixS 2 S T)).setIfInBounds 2 (.int .u64 (bits .or .u64 (mixS 2 S T 2) (T 2))) = scells (mixS 3 S T) := by
  show (#[.int .u64 (mixS 2 S T 0), .int .u64 (mixS 2 S T 1), .int .u64 (bits .or .u64 (S 2) (T 2)), .int .u64 (S 3)] : Array Value) = _
  rw [or_words h h']; rfl
theorem mix_step3 {S T : Nat → Nat} (h : okS S) (h' : okS T) : (scells (mixS 3 S T)).setIfInBounds 3 (.int .u64 (bits .or .u64 (mixS 3 S T 3) (T 3))) = scells (mixS 4 S T) := by
  show (#[.int .u64 (mixS 3 S T 0), .int .u64 (mixS 3 S T 1), .int .u64 (mixS 3 S T 2), .int .u64 (bits .or .u64 (S 3) (T 3))] : Array Value) = _
  rw [or_words h h']; rfl

set_option maxHeartbeats 2000000 in
theorem join_any (S T : Nat → Nat) (w : World) (h : okS S) (h' : okS T) :
    Calls Tryd.prog 111 #[sval S, sval T] w fun e w' => e = .returned (sval (joinS S T)) ∧ Below w.heap.size w w' := by
  go_enter Tryd.func111, Tryd.ntmps111
  go_wp2
  go_loopw [6] (fun i wr => ∃ k : Nat, k ≤ 4 ∧ i = .int .i64 k ∧ SB wr w.heap.size (mixS k S T) ∧ SB wr (w.heap.size + 1) T ∧ SB wr (w.heap.size + 2) zeroS ∧ Below w.heap.size w wr) (fun i _ => 4 - (intOf i).toNat)
  case atStart =>
    refine ⟨0, by omega, rfl, ((Blk.new w _ _).alloc _).alloc _, ?_, ?_, (((Below.refl _ _).alloc (Nat.le_refl _) _).alloc (by simp) _).alloc (by simp; omega) _⟩
    · have := (Blk.new (w.alloc (.cells (scells S) 62)) 62 (scells T)).alloc (.cells (scells zeroS) 62)
      rwa [World.size_alloc] at this
    · have := (Blk.new ((w.alloc (.cells (scells S) 62)).alloc (.cells (scells T) 62)) 62 (scells zeroS))
      rwa [World.size_alloc, World.size_alloc] at this
  case round =>
    obtain ⟨k, hk, rfl, s1, s2, s3, hB⟩ := hrel
    have hk' : k = 4 ∨ k = 0 ∨ k = 1 ∨ k = 2 ∨ k = 3 := by omega
    obtain ⟨p0, p1, p2, p3⟩ := s1.cells
    obtain ⟨q0, q1, q2, q3⟩ := s2.cells
    have fz := s1.frozen
    rcases hk' with rfl | rfl | rfl | rfl | rfl
    · obtain ⟨r0, r1, r2, r3⟩ := s3.cells
      have fz3 := s3.frozen
      have e4 : Hid (scells (mixS 4 S T) = scells (joinS S T)) := rfl
      have k1 := (((s3.set 0 (.int .u64 (mixS 4 S T 0))).set 1 (.int .u64 (mixS 4 S T 1))).set 2 (.int .u64 (mixS 4 S T 2))).set 3 (.int .u64 (mixS 4 S T 3))
      have k2 := Hid.of k1
      clear k1
      go_wp2
      have k1 := k2.out
      refine bodyPost_ret (v := sval (joinS S T)) ?_ rfl ⟨rfl, (((hB.setCell (p := ⟨w.heap.size + 1 + 1, 0, none⟩) (by simp; omega) _).setCell (p := ⟨w.heap.size + 1 + 1, 1, none⟩) (by simp; omega) _).setCell (p := ⟨w.heap.size + 1 + 1, 2, none⟩) (by simp; omega) _).setCell (p := ⟨w.heap.size + 1 + 1, 3, none⟩) (by simp; omega) _⟩
      exact results_cell_row (g := w.heap.size + 2) (p := 4) rfl _ _ _ _ _ _ rfl k1 Tryd.underlying62 rfl (by kernel_rfl)
    · go_wp2
      go_region
      go_wp2
      exact ⟨⟨1, by omega, rfl, (by have := s1.set 0 (.int .u64 (bits .or .u64 (mixS 0 S T 0) (T 0))); rwa [mix_step0 h h'] at this), s2.other (by omega) _, s3.other (by omega) _, (hB.setCell (p := ⟨w.heap.size, 0, none⟩) (by simp) _).drew⟩, by simp [intOf]⟩
    · go_wp2
      go_region
      go_wp2
      exact ⟨⟨2, by omega, rfl, (by have := s1.set 1 (.int .u64 (bits .or .u64 (mixS 1 S T 1) (T 1))); rwa [mix_step1 h h'] at this), s2.other (by omega) _, s3.other (by omega) _, (hB.setCell (p := ⟨w.heap.size, 1, none⟩) (by simp) _).drew⟩, by simp [intOf]⟩
    · go_wp2
      go_region
      go_wp2
      exact ⟨⟨3, by omega, rfl, (by have := s1.set 2 (.int .u64 (bits .or .u64 (mixS 2 S T 2) (T 2))); rwa [mix_step2 h h'] at this), s2.other (by omega) _, s3.other (by omega) _, (hB.setCell (p := ⟨w.heap.size, 2, none⟩) (by simp) _).drew⟩, by simp [intOf]⟩
    · go_wp2
      go_region
      go_wp2
      exact ⟨⟨4, by omega, rfl, (by have := s1.set 3 (.int .u64 (bits .or .u64 (mixS 3 S T 3) (T 3))); rwa [mix_step3 h h'] at this), s2.other (by omega) _, s3.other (by omega) _, (hB.setCell (p := ⟨w.heap.size, 3, none⟩) (by simp) _).drew⟩, by simp [intOf]⟩

end Go.Proofs.YtbdkaobbfmgnhaaDoor
namespace Go.Proofs.YtbdkaobbfmgnhaaDoor
open Go.RowKit
set_option linter.unusedVariables false

/-- Are two lists one? (A function of our own, which the walk leaves as it stands.) -/
def sameB (xs ys : List Int) : Bool := xs == ys

theorem same_len {xs ys : List Int} (h : ¬ xs.length = ys.length) : false = sameB xs ys := by
  rw [sameB, eq_comm, beq_eq_false_iff_ne]; intro e; exact h (by rw [e])
theorem same_no {xs ys : List Int} {k : Nat} {x y : Int} (hx : Hid (x = xs[k]?.getD 0)) (hy : Hid (y = ys[k]?.getD 0)) (h : ¬ x = y) : false = sameB xs ys := by
  rw [sameB, eq_comm, beq_eq_false_iff_ne]; intro e; exact h (by rw [hx.out, hy.out, e])
theorem same_yes {xs ys : List Int} {k : Nat} {x y : Int} (h1 : k < xs.length) (h2 : k < ys.length) (hx : Hid (x = xs[k]?.getD 0)) (hy : Hid (y = ys[k]?.getD 0)) (h : x = y) (e : Hid (xs.take k = ys.take k)) : Hid (xs.take (k + 1) = ys.take (k + 1)) := by
  show xs.take (k + 1) = ys.take (k + 1)
  rw [List.take_add_one, List.take_add_one, e.out]
  have hx := hx.out; have hy := hy.out
  rw [List.getElem?_eq_getElem h1] at hx ⊢
  rw [List.getElem?_eq_getElem h2] at hy ⊢
  simp only [Option.getD_some] at hx hy
  rw [← hx, ← hy, h]
theorem same_end {xs ys : List Int} {k : Nat} (hl : xs.length = ys.length) (h : ¬ k < xs.length) (e : Hid (xs.take k = ys.take k)) : true = sameB xs ys := by
  have e := e.out
  rw [List.take_of_length_le (by omega), List.take_of_length_le (by omega)] at e
  subst e; simp [sameB]

set_option maxHeartbeats 400000 in
theorem same_ne (a b : Option Addr) (ca cb : Nat) (xs ys : List Int) (w : World) (hne : ¬ xs.length = ys.length) (hl : xs.length ≤ 9223372036854775807) (hm : ys.length ≤ 9223372036854775807) :
    Calls Tryd.prog 22 #[.slice a xs.length ca, .slice b ys.length cb] w fun e w' => e = .returned (.bool (sameB xs ys)) ∧ ∃ q, w' = w.drewN q := by
  have hb : ((xs.length : Int) != (ys.length : Int)) = true := by rw [bne_iff_ne]; omega
  go_enter Tryd.func22, Tryd.ntmps22
  go_wp2
  go_ret
  exact ⟨ret_bool (same_len hne), 0, rfl⟩

set_option maxHeartbeats 1000000 in
theorem same_eq (ba oa ca bb ob cb : Nat) (xs ys : List Int) (w : World) (hlen : Hid (xs.length = ys.length)) (hl : xs.length ≤ 9223372036854775807) (hca : Cells w ba oa xs) (hcb : Cells w bb ob ys) :
    Calls Tryd.prog 22 #[.slice (some ⟨ba, oa, none⟩) xs.length ca, .slice (some ⟨bb, ob, none⟩) ys.length cb] w fun e w' => e = .returned (.bool (sameB xs ys)) ∧ ∃ q, w' = w.drewN q := by
  have hm : ys.length ≤ 9223372036854775807 := by have := hlen.out; omega
  have hb : ((xs.length : Int) != (ys.length : Int)) = false := by have := hlen.out; simp; omega
  go_enter Tryd.func22, Tryd.ntmps22
  go_wp2
  go_loopw [5] (fun i wr => ∃ k q : Nat, k ≤ xs.length ∧ i = .int .i64 k ∧ wr = w.drewN q ∧ Hid (xs.take k = ys.take k)) (fun i _ => xs.length - (intOf i).toNat)
  case atStart => exact ⟨0, 0, Nat.zero_le _, rfl, rfl, rfl⟩
  case round =>
    obtain ⟨k, q, hk, rfl, rfl, he⟩ := hrel
    by_cases hlt : k < xs.length
    · have hlt2 : k < ys.length := by have := hlen.out; omega
      obtain ⟨x, HX, hcx⟩ := hca.at hlt
      obtain ⟨y, HY, hcy⟩ := hcb.at hlt2
      by_cases hxy : x = y
      · have HXY : Hid (x = y) := hxy
        have d : (x != y) = false := by simp [hxy]
        clear hxy
        go_wp2
        go_quiet (fail)
        go_wp2
        go_roundw
        case rel => exact ⟨k + 1, _, by omega, by go_num, rfl, same_yes hlt hlt2 HX HY HXY.out he⟩
        case measure => simp [intOf]; omega
      · have d : (x != y) = true := by simp [hxy]
        go_wp2
        go_quiet (fail)
        go_wp2
        go_ret
        exact ⟨ret_bool (same_no HX HY hxy), _, World.drewN_drewN _ _ _⟩
    · go_wp2
      go_ret
      exact ⟨ret_bool (same_end hlen.out hlt he), q, rfl⟩

set_option maxHeartbeats 400000 in
theorem same_nil (a b : Option Addr) (ca cb : Nat) (w : World) :
    Calls Tryd.prog 22 #[.slice a 0 ca, .slice b 0 cb] w fun e w' => e = .returned (.bool true) ∧ ∃ q, w' = w.drewN q := by
  go_enter Tryd.func22, Tryd.ntmps22
  go_wp2
  refine wp_loop_rounds 1 ?_
  rw [rounds_succ]
  go_wp2
  go_ret
  exact ⟨rfl, 0, rfl⟩

theorem same_any (a b : Option Addr) (ca cb : Nat) (xs ys : List Int) (w : World) (hs : At w a xs) (ht : At w b ys) (hl : xs.length ≤ maxLen) (hm : ys.length ≤ maxLen) :
    Calls Tryd.prog 22 #[.slice a xs.length ca, .slice b ys.length cb] w fun e w' => e = .returned (.bool (sameB xs ys)) ∧ ∃ q, w' = w.drewN q := by
  by_cases hne : xs.length = ys.length
  · rcases hs with rfl | ⟨ba, oa, rfl, -, hca⟩
    · have : ys = [] := List.eq_nil_of_length_eq_zero (by simpa using hne.symm)
      subst this
      exact same_nil a b ca cb w
    · rcases ht with rfl | ⟨bb, ob, rfl, -, hcb⟩
      · have : xs = [] := List.eq_nil_of_length_eq_zero (by simpa using hne)
        subst this
        exact same_nil _ b ca cb w
      · exact same_eq ba oa ca bb ob cb xs ys w hne hl hca hcb
  · exact same_ne a b ca cb xs ys w hne hl hm

end Go.Proofs.YtbdkaobbfmgnhaaDoor
namespace Go.Proofs.YtbdkaobbfmgnhaaDoor
open Go.RowKit
set_option linter.unusedVariables false

theorem sameA_no {k : Nat} {p q : List Arr} {a b : Arr} {t : Bool} (h : k < p.length) (h' : k < q.length) (ha : Hid (a = p[k]?.getD arr0)) (hb : Hid (b = q[k]?.getD arr0)) (e : Hid (t = sameA (p.drop k) (q.drop k))) (hn : ¬ arrEq a b) : false = t := by
  rw [e.out, dropA h, dropA h', ← ha.out, ← hb.out, sameA, if_neg hn]
theorem sameA_yes {k : Nat} {p q : List Arr} {a b : Arr} {t : Bool} (h : k < p.length) (h' : k < q.length) (ha : Hid (a = p[k]?.getD arr0)) (hb : Hid (b = q[k]?.getD arr0)) (e : Hid (t = sameA (p.drop k) (q.drop k))) (hn : arrEq a b) : Hid (t = sameA (p.drop (k + 1)) (q.drop (k + 1))) := by
  show t = _
  rw [e.out, dropA h, dropA h', ← ha.out, ← hb.out, sameA, if_pos hn]
theorem sameA_end {k : Nat} {p q : List Arr} {t : Bool} (h : ¬ k < p.length) (hl : p.length = q.length) (e : Hid (t = sameA (p.drop k) (q.drop k))) : true = t := by
  rw [e.out, List.drop_eq_nil_of_le (by omega), List.drop_eq_nil_of_le (by omega)]; rfl

/-- Are two machines one? -/
def sameM (m n : Mach) : Bool := decide (m.st = n.st ∧ m.ev = n.ev) && (sameB m.starts n.starts && (sameB m.ends n.ends && (decide (m.arrows.length = n.arrows.length) && sameA m.arrows n.arrows)))

theorem sameM_go {m n : Mach} (h1 : m.st = n.st) (h2 : m.ev = n.ev) (h3 : sameB m.starts n.starts = true) (h4 : sameB m.ends n.ends = true) (h5 : m.arrows.length = n.arrows.length) : sameM m n = sameA m.arrows n.arrows := by
  unfold sameM; simp [h1, h2, h3, h4, h5]
theorem sameM_no1 {m n : Mach} (h : ¬ (m.st = n.st ∧ m.ev = n.ev)) : false = sameM m n := by unfold sameM; simp only [h, decide_false, Bool.false_and]
theorem sameM_no2 {m n : Mach} (h : sameB m.starts n.starts = false) : false = sameM m n := by unfold sameM; simp [h]
theorem sameM_no3 {m n : Mach} (h : sameB m.ends n.ends = false) : false = sameM m n := by unfold sameM; simp [h]
theorem sameM_no4 {m n : Mach} (h : ¬ m.arrows.length = n.arrows.length) : false = sameM m n := by unfold sameM; simp [h]

theorem below_box2 {w wr : World} {o o' : Obj} (hb : Below (w.heap.size + 2) ((w.alloc o).alloc o') wr) : Below w.heap.size w wr :=
  (((Below.refl _ _).alloc (Nat.le_refl _) o).alloc (by simp) o').trans (hb.mono (by omega))

theorem box2_cells {w wr : World} {m n : Mach} {l k : ML} {T : TypeId} (hb : Below (w.heap.size + 2) ((w.alloc (.cells (mcells m l) T)).alloc (.cells (mcells n k) T)) wr) :
    (wr.cell? ⟨w.heap.size, 0, none⟩ = some (.int .i64 m.st) ∧ wr.cell? ⟨w.heap.size, 1, none⟩ = some (.int .i64 m.ev) ∧ wr.cell? ⟨w.heap.size, 2, none⟩ = some (.slice l.a1 m.starts.length l.c1) ∧
    wr.cell? ⟨w.heap.size, 3, none⟩ = some (.slice l.a2 m.arrows.length l.c2) ∧ wr.cell? ⟨w.heap.size, 4, none⟩ = some (.slice l.a3 m.ends.length l.c3)) ∧
    (wr.cell? ⟨w.heap.size + 1, 0, none⟩ = some (.int .i64 n.st) ∧ wr.cell? ⟨w.heap.size + 1, 1, none⟩ = some (.int .i64 n.ev) ∧ wr.cell? ⟨w.heap.size + 1, 2, none⟩ = some (.slice k.a1 n.starts.length k.c1) ∧
    wr.cell? ⟨w.heap.size + 1, 3, none⟩ = some (.slice k.a2 n.arrows.length k.c2) ∧ wr.cell? ⟨w.heap.size + 1, 4, none⟩ = some (.slice k.a3 n.ends.length k.c3)) := by
  constructor
  · exact box_cells (((Below.refl _ _).alloc (by simp) _).trans (hb.mono (by omega)))
  · have := box_cells (w := w.alloc (.cells (mcells m l) T)) (wr := wr) (m := n) (l := k) (T := T) (by rw [World.size_alloc]; exact hb)
    rw [World.size_alloc] at this
    exact this

set_option maxHeartbeats 2000000 in
theorem refMSame_big (m n : Mach) (a1 : Option Addr) (c1 b off c2 : Nat) (a3 : Option Addr) (c3 : Nat) (e1 : Option Addr) (d1 b' off' d2 : Nat) (e3 : Option Addr) (d3 : Nat) (w : World)
    (h : MAt w m ⟨a1, c1, some ⟨b, off, none⟩, c2, a3, c3⟩) (hb : b < w.heap.size) (hca : CellsA w b off m.arrows)
    (h' : MAt w n ⟨e1, d1, some ⟨b', off', none⟩, d2, e3, d3⟩) (hb' : b' < w.heap.size) (hca' : CellsA w b' off' n.arrows)
    (q1 : Hid (m.st = n.st)) (q2 : Hid (m.ev = n.ev)) (q3 : Hid (sameB m.starts n.starts = true)) (q4 : Hid (sameB m.ends n.ends = true)) (q5 : Hid (m.arrows.length = n.arrows.length)) :
    Calls Tryd.prog 44 #[mval m ⟨a1, c1, some ⟨b, off, none⟩, c2, a3, c3⟩, mval n ⟨e1, d1, some ⟨b', off', none⟩, d2, e3, d3⟩] w fun e w' => e = .returned (.bool (sameM m n)) ∧ Below w.heap.size w w' := by
  have z1 : m.arrows.length ≤ 9223372036854775807 := Nat.le_trans h.a1 h.a2
  have z2 : n.arrows.length ≤ 9223372036854775807 := Nat.le_trans h'.a1 h'.a2
  have l1 : m.starts.length ≤ maxLen := Nat.le_trans h.s1 h.s2
  have l2 : n.starts.length ≤ maxLen := Nat.le_trans h'.s1 h'.s2
  have l3 : m.ends.length ≤ maxLen := Nat.le_trans h.e1 h.e2
  have l4 : n.ends.length ≤ maxLen := Nat.le_trans h'.e1 h'.e2
  have hgo : Hid (sameM m n = sameA (m.arrows.drop 0) (n.arrows.drop 0)) := sameM_go q1.out q2.out q3.out q4.out q5.out
  have f1 : (m.st != n.st) = false := by simp [q1.out]
  have f2 : (m.ev != n.ev) = false := by simp [q2.out]
  have f5 : ((m.arrows.length : Int) != (n.arrows.length : Int)) = false := by simp [q5.out]
  have b0 : Below w.heap.size w ((w.alloc (.cells (mcells m ⟨a1, c1, some ⟨b, off, none⟩, c2, a3, c3⟩) 25)).alloc (.cells (mcells n ⟨e1, d1, some ⟨b', off', none⟩, d2, e3, d3⟩) 25)) := ((Below.refl _ _).alloc (Nat.le_refl _) _).alloc (by simp) _
  have g := h.below b0 (Nat.le_refl _)
  have g' := h'.below b0 (Nat.le_refl _)
  go_enter Tryd.func44, Tryd.ntmps44
  go_wp2_with fail
  refine (same_any a1 e1 c1 d1 m.starts n.starts _ g.s g'.s l1 l2).mono ?_
  rintro e w1 ⟨rfl, r1, rfl⟩
  rw [q3.out]
  go_wp2_with fail
  refine (same_any a3 e3 c3 d3 m.ends n.ends _ (At.drewN g.e r1) (At.drewN g'.e r1) l3 l4).mono ?_
  rintro e w1 ⟨rfl, r2, rfl⟩
  rw [q4.out]
  clear g g' h h' b0
  go_wp2_with fail
  go_loopw [5] (fun i wr => ∃ k : Nat, k ≤ m.arrows.length ∧ i = .int .i64 k ∧ Below (w.heap.size + 2) ((w.alloc (.cells (mcells m ⟨a1, c1, some ⟨b, off, none⟩, c2, a3, c3⟩) 25)).alloc (.cells (mcells n ⟨e1, d1, some ⟨b', off', none⟩, d2, e3, d3⟩) 25)) wr ∧ Hid (sameM m n = sameA (m.arrows.drop k) (n.arrows.drop k))) (fun i _ => m.arrows.length - (intOf i).toNat)
  case atStart => exact ⟨0, Nat.zero_le _, rfl, below_drewN (Below.refl _ _) _, hgo⟩
  case round =>
    obtain ⟨k, hk, rfl, hbel, hr⟩ := hrel
    obtain ⟨⟨x0, x1, x2, x3, x4⟩, ⟨t0, t1, t2, t3, t4⟩⟩ := box2_cells hbel
    dsimp only at x3 t3
    have hold := below_box2 hbel
    by_cases hlt : k < m.arrows.length
    · have hlt' : k < n.arrows.length := by have := q5.out; omega
      obtain ⟨a, HA, y0, y1, y2⟩ := hca.at hlt
      have y0' := (hold.cell (p := ⟨b, off + k * 3, none⟩) hb).trans y0
      have y1' := (hold.cell (p := ⟨b, off + k * 3 + 1, none⟩) hb).trans y1
      have y2' := (hold.cell (p := ⟨b, off + k * 3 + 2, none⟩) hb).trans y2
      obtain ⟨c, HC, v0, v1, v2⟩ := hca'.at hlt'
      have v0' := (hold.cell (p := ⟨b', off' + k * 3, none⟩) hb').trans v0
      have v1' := (hold.cell (p := ⟨b', off' + k * 3 + 1, none⟩) hb').trans v1
      have v2' := (hold.cell (p := ⟨b', off' + k * 3 + 2, none⟩) hb').trans v2
      clear y0 y1 y2 v0 v1 v2 x0 x1 x2 x4 t0 t1 t2 t4
      have heq : ∀ w : World, (Op.equalIn 10000 58 (.agg #[.int .i64 a.f, .int .i64 a.e, .int .i64 a.t]) (.agg #[.int .i64 c.f, .int .i64 c.e, .int .i64 c.t])).run Tryd.prog w = .ok (arrEqB a c) w := run_equalIn_arrow a c
      have hgd := run_guard_arrow
      by_cases hq : arrEq a c
      · have HQ : Hid (arrEq a c) := hq
        have fq : arrEqB a c = true := by simp [arrEqB, hq]
        clear hq
        go_wp2
        go_quiet (fail)
        go_wp2
        go_roundw
        case rel => exact ⟨k + 1, by omega, by go_num, below_drewN hbel _, sameA_yes hlt hlt' HA HC hr HQ.out⟩
        case measure => simp [intOf]; omega
      · have HQ : Hid (¬ arrEq a c) := hq
        have fq : arrEqB a c = false := by simp [arrEqB, hq]
        clear hq
        go_wp2
        go_quiet (fail)
        go_wp2
        go_ret
        exact ⟨ret_bool (sameA_no hlt hlt' HA HC hr HQ.out), below_drewN hold _⟩
    · go_wp2
      go_ret
      exact ⟨ret_bool (sameA_end hlt q5.out hr), hold⟩

set_option maxHeartbeats 1000000 in
theorem refMSame_st (m n : Mach) (l k : ML) (w : World) (h : MAt w m l) (h' : MAt w n k) (q1 : Hid (¬ m.st = n.st)) :
    Calls Tryd.prog 44 #[mval m l, mval n k] w fun e w' => e = .returned (.bool (sameM m n)) ∧ Below w.heap.size w w' := by
  have b0 : Below w.heap.size w ((w.alloc (.cells (mcells m l) 25)).alloc (.cells (mcells n k) 25)) := ((Below.refl _ _).alloc (Nat.le_refl _) _).alloc (by simp) _
  have f1 : (m.st != n.st) = true := by simp [q1.out]
  go_enter Tryd.func44, Tryd.ntmps44
  go_wp2
  go_ret
  exact ⟨ret_bool (sameM_no1 (fun h => q1.out h.1)), b0⟩

set_option maxHeartbeats 1000000 in
theorem refMSame_ev (m n : Mach) (l k : ML) (w : World) (h : MAt w m l) (h' : MAt w n k) (q1 : Hid (m.st = n.st)) (q2 : Hid (¬ m.ev = n.ev)) :
    Calls Tryd.prog 44 #[mval m l, mval n k] w fun e w' => e = .returned (.bool (sameM m n)) ∧ Below w.heap.size w w' := by
  have b0 : Below w.heap.size w ((w.alloc (.cells (mcells m l) 25)).alloc (.cells (mcells n k) 25)) := ((Below.refl _ _).alloc (Nat.le_refl _) _).alloc (by simp) _
  have f1 : (m.st != n.st) = false := by simp [q1.out]
  have f2 : (m.ev != n.ev) = true := by simp [q2.out]
  go_enter Tryd.func44, Tryd.ntmps44
  go_wp2
  go_ret
  exact ⟨ret_bool (sameM_no1 (fun h => q2.out h.2)), b0⟩

set_option maxHeartbeats 1000000 in
theorem refMSame_starts (m n : Mach) (l k : ML) (w : World) (h : MAt w m l) (h' : MAt w n k) (q1 : Hid (m.st = n.st))(q2 : Hid (m.ev = n.ev))(q3 : Hid (sameB m.starts n.starts = false)) :
    Calls Tryd.prog 44 #[mval m l, mval n k] w fun e w' => e = .returned (.bool (sameM m n)) ∧ Below w.heap.size w w' := by
  have l1 : m.starts.length ≤ maxLen := Nat.le_trans h.s1 h.s2
  have l2 : n.starts.length ≤ maxLen := Nat.le_trans h'.s1 h'.s2
  have l3 : m.ends.length ≤ maxLen := Nat.le_trans h.e1 h.e2
  have l4 : n.ends.length ≤ maxLen := Nat.le_trans h'.e1 h'.e2
  have b0 : Below w.heap.size w ((w.alloc (.cells (mcells m l) 25)).alloc (.cells (mcells n k) 25)) := ((Below.refl _ _).alloc (Nat.le_refl _) _).alloc (by simp) _
  have g := h.below b0 (Nat.le_refl _)
  have g' := h'.below b0 (Nat.le_refl _)
  have f1 : (m.st != n.st) = false := by simp [q1.out]
  have f2 : (m.ev != n.ev) = false := by simp [q2.out]
  go_enter Tryd.func44, Tryd.ntmps44
  go_wp2_with fail
  refine (same_any l.a1 k.a1 l.c1 k.c1 m.starts n.starts _ g.s g'.s l1 l2).mono ?_
  rintro e w1 ⟨rfl, r1, rfl⟩
  rw [q3.out]
  go_wp2
  go_ret
  exact ⟨ret_bool (sameM_no2 q3.out), below_drewN b0 _⟩

set_option maxHeartbeats 1000000 in
theorem refMSame_ends (m n : Mach) (l k : ML) (w : World) (h : MAt w m l) (h' : MAt w n k) (q1 : Hid (m.st = n.st))(q2 : Hid (m.ev = n.ev))(q3 : Hid (sameB m.starts n.starts = true))(q4 : Hid (sameB m.ends n.ends = false)) :
    Calls Tryd.prog 44 #[mval m l, mval n k] w fun e w' => e = .returned (.bool (sameM m n)) ∧ Below w.heap.size w w' := by
  have l1 : m.starts.length ≤ maxLen := Nat.le_trans h.s1 h.s2
  have l2 : n.starts.length ≤ maxLen := Nat.le_trans h'.s1 h'.s2
  have l3 : m.ends.length ≤ maxLen := Nat.le_trans h.e1 h.e2
  have l4 : n.ends.length ≤ maxLen := Nat.le_trans h'.e1 h'.e2
  have b0 : Below w.heap.size w ((w.alloc (.cells (mcells m l) 25)).alloc (.cells (mcells n k) 25)) := ((Below.refl _ _).alloc (Nat.le_refl _) _).alloc (by simp) _
  have g := h.below b0 (Nat.le_refl _)
  have g' := h'.below b0 (Nat.le_refl _)
  have f1 : (m.st != n.st) = false := by simp [q1.out]
  have f2 : (m.ev != n.ev) = false := by simp [q2.out]
  go_enter Tryd.func44, Tryd.ntmps44
  go_wp2_with fail
  refine (same_any l.a1 k.a1 l.c1 k.c1 m.starts n.starts _ g.s g'.s l1 l2).mono ?_
  rintro e w1 ⟨rfl, r1, rfl⟩
  rw [q3.out]
  go_wp2_with fail
  refine (same_any l.a3 k.a3 l.c3 k.c3 m.ends n.ends _ (At.drewN g.e r1) (At.drewN g'.e r1) l3 l4).mono ?_
  rintro e w1 ⟨rfl, r2, rfl⟩
  rw [q4.out]
  go_wp2
  go_ret
  exact ⟨ret_bool (sameM_no3 q4.out), below_drewN b0 _⟩

set_option maxHeartbeats 1000000 in
theorem refMSame_len (m n : Mach) (l k : ML) (w : World) (h : MAt w m l) (h' : MAt w n k) (q1 : Hid (m.st = n.st))(q2 : Hid (m.ev = n.ev))(q3 : Hid (sameB m.starts n.starts = true))(q4 : Hid (sameB m.ends n.ends = true))(q5 : Hid (¬ m.arrows.length = n.arrows.length)) :
    Calls Tryd.prog 44 #[mval m l, mval n k] w fun e w' => e = .returned (.bool (sameM m n)) ∧ Below w.heap.size w w' := by
  have l1 : m.starts.length ≤ maxLen := Nat.le_trans h.s1 h.s2
  have l2 : n.starts.length ≤ maxLen := Nat.le_trans h'.s1 h'.s2
  have l3 : m.ends.length ≤ maxLen := Nat.le_trans h.e1 h.e2
  have l4 : n.ends.length ≤ maxLen := Nat.le_trans h'.e1 h'.e2
  have b0 : Below w.heap.size w ((w.alloc (.cells (mcells m l) 25)).alloc (.cells (mcells n k) 25)) := ((Below.refl _ _).alloc (Nat.le_refl _) _).alloc (by simp) _
  have g := h.below b0 (Nat.le_refl _)
  have g' := h'.below b0 (Nat.le_refl _)
  have f1 : (m.st != n.st) = false := by simp [q1.out]
  have f2 : (m.ev != n.ev) = false := by simp [q2.out]
  have f5 : ((m.arrows.length : Int) != (n.arrows.length : Int)) = true := by have := q5.out; rw [bne_iff_ne]; omega
  go_enter Tryd.func44, Tryd.ntmps44
  go_wp2_with fail
  refine (same_any l.a1 k.a1 l.c1 k.c1 m.starts n.starts _ g.s g'.s l1 l2).mono ?_
  rintro e w1 ⟨rfl, r1, rfl⟩
  rw [q3.out]
  go_wp2_with fail
  refine (same_any l.a3 k.a3 l.c3 k.c3 m.ends n.ends _ (At.drewN g.e r1) (At.drewN g'.e r1) l3 l4).mono ?_
  rintro e w1 ⟨rfl, r2, rfl⟩
  rw [q4.out]
  go_wp2
  go_ret
  exact ⟨ret_bool (sameM_no4 q5.out), below_drewN b0 _⟩

set_option maxHeartbeats 1000000 in
theorem refMSame_none (m n : Mach) (l k : ML) (w : World) (h : MAt w m l) (h' : MAt w n k) (q1 : Hid (m.st = n.st))(q2 : Hid (m.ev = n.ev))(q3 : Hid (sameB m.starts n.starts = true))(q4 : Hid (sameB m.ends n.ends = true))(p1 : Hid (m.arrows = [])) (p2 : Hid (n.arrows = [])) :
    Calls Tryd.prog 44 #[mval m l, mval n k] w fun e w' => e = .returned (.bool (sameM m n)) ∧ Below w.heap.size w w' := by
  have l1 : m.starts.length ≤ maxLen := Nat.le_trans h.s1 h.s2
  have l2 : n.starts.length ≤ maxLen := Nat.le_trans h'.s1 h'.s2
  have l3 : m.ends.length ≤ maxLen := Nat.le_trans h.e1 h.e2
  have l4 : n.ends.length ≤ maxLen := Nat.le_trans h'.e1 h'.e2
  have b0 : Below w.heap.size w ((w.alloc (.cells (mcells m l) 25)).alloc (.cells (mcells n k) 25)) := ((Below.refl _ _).alloc (Nat.le_refl _) _).alloc (by simp) _
  have g := h.below b0 (Nat.le_refl _)
  have g' := h'.below b0 (Nat.le_refl _)
  have f1 : (m.st != n.st) = false := by simp [q1.out]
  have f2 : (m.ev != n.ev) = false := by simp [q2.out]
  have n1 : m.arrows.length = 0 := by rw [p1.out]; rfl
  have n2 : n.arrows.length = 0 := by rw [p2.out]; rfl
  have HG : Hid (true = sameM m n) := by
    show true = sameM m n
    rw [sameM_go q1.out q2.out q3.out q4.out (by rw [n1, n2]), p1.out, p2.out]; rfl
  go_enter Tryd.func44, Tryd.ntmps44
  go_wp2_with fail
  refine (same_any l.a1 k.a1 l.c1 k.c1 m.starts n.starts _ g.s g'.s l1 l2).mono ?_
  rintro e w1 ⟨rfl, r1, rfl⟩
  rw [q3.out]
  go_wp2_with fail
  refine (same_any l.a3 k.a3 l.c3 k.c3 m.ends n.ends _ (At.drewN g.e r1) (At.drewN g'.e r1) l3 l4).mono ?_
  rintro e w1 ⟨rfl, r2, rfl⟩
  rw [q4.out]
  go_wp2_with fail
  refine wp_loop_rounds 1 ?_
  rw [rounds_succ]
  go_wp2
  go_ret
  exact ⟨ret_bool HG.out, below_drewN b0 _⟩

theorem refMSame_any (m n : Mach) (l k : ML) (w : World) (h : MAt w m l) (h' : MAt w n k) :
    Calls Tryd.prog 44 #[mval m l, mval n k] w fun e w' => e = .returned (.bool (sameM m n)) ∧ Below w.heap.size w w' := by
  by_cases q1 : m.st = n.st
  · by_cases q2 : m.ev = n.ev
    · by_cases q3 : sameB m.starts n.starts = true
      · by_cases q4 : sameB m.ends n.ends = true
        · by_cases q5 : m.arrows.length = n.arrows.length
          · obtain ⟨a1, c1, a2, c2, a3, c3⟩ := l
            obtain ⟨e1, d1, e2, d2, e3, d3⟩ := k
            rcases h.a with h0 | ⟨b, off, h0, hb, hc⟩
            · exact refMSame_none m n _ _ w h h' q1 q2 q3 q4 h0 (List.eq_nil_of_length_eq_zero (by rw [← q5, h0]; rfl))
            · rcases h'.a with h0' | ⟨b', off', h0', hb', hc'⟩
              · exact refMSame_none m n _ _ w h h' q1 q2 q3 q4 (List.eq_nil_of_length_eq_zero (by rw [q5, h0']; rfl)) h0'
              · have h0 : a2 = some ⟨b, off, none⟩ := h0
                subst h0
                have h0' : e2 = some ⟨b', off', none⟩ := h0'
                subst h0'
                exact refMSame_big m n a1 c1 b off c2 a3 c3 e1 d1 b' off' d2 e3 d3 w h hb hc h' hb' hc' q1 q2 q3 q4 q5
          · exact refMSame_len m n l k w h h' q1 q2 q3 q4 q5
        · exact refMSame_ends m n l k w h h' q1 q2 q3 (by show _ = _; rw [← Bool.not_eq_true]; exact q4)
      · exact refMSame_starts m n l k w h h' q1 q2 (by show _ = _; rw [← Bool.not_eq_true]; exact q3)
    · exact refMSame_ev m n l k w h h' q1 q2
  · exact refMSame_st m n l k w h h' q1

end Go.Proofs.YtbdkaobbfmgnhaaDoor
