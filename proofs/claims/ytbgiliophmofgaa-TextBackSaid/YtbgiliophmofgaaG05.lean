/-
  The walk of machine.May: it answers 'mayB'.
  The walks of jalousieref1.Same (two lists are one) and of jalousieref1.Only (the numbers of a list that are, or are not, in another).
  The walk of jalousiekeep.same.
  Plain: arrows put in order one after the other.
  Plain mathematics of a machine trimmed: the states that are in both, numbered anew; it accepts the same words. No program, no model.
  Plain: the machine of two beside one another accepts a word just when each accepts what of it is its own. No program, no model.
  The walk of slices.BinarySearchFunc at arrows, the order machine.Compare.
-/
import Derived.Test.YtbgiliophmofgaaCArrMay
import Derived.Test.YtbgiliophmofgaaG03
import Derived.Deep.QuietTactic
import Derived.BigQuiet
import Derived.Test.YtbgiliophmofgaaG02
import Derived.Test.YtbgiliophmofgaaG01
import Derived.Deep.RegionWith
namespace Go.Proofs.Ytbgiliophmofgaa
open Go.RowKit
set_option linter.unusedVariables false

theorem may_split (m : Mach) : mayB m = (decide (1 ≤ m.st) && (decide (m.st ≤ 256) && (decide (0 ≤ m.ev) && (decide (m.ev ≤ 8) && (rowB m.st m.starts && (rowB m.st m.ends && arrsB m)))))) := by
  unfold mayB arrsB sizeOk
  by_cases h1 : 1 ≤ m.st <;> by_cases h2 : m.st ≤ 256 <;> by_cases h3 : 0 ≤ m.ev <;> by_cases h4 : m.ev ≤ 8 <;> by_cases h5 : m.arrows.length ≤ 4096 <;> simp [h1, h2, h3, h4, h5]

theorem may_no1 {m : Mach} (h : decide (1 ≤ m.st) = false) : false = mayB m := by rw [may_split, h]; rfl
theorem may_no2 {m : Mach} (h : decide (m.st ≤ 256) = false) : false = mayB m := by rw [may_split, h]; simp
theorem may_no3 {m : Mach} (h : decide (0 ≤ m.ev) = false) : false = mayB m := by rw [may_split, h]; simp
theorem may_no4 {m : Mach} (h : decide (m.ev ≤ 8) = false) : false = mayB m := by rw [may_split, h]; simp
theorem may_no5 {m : Mach} (h : rowB m.st m.starts = false) : false = mayB m := by rw [may_split, h]; simp
theorem may_no6 {m : Mach} (h : rowB m.st m.ends = false) : false = mayB m := by rw [may_split, h]; simp
theorem may_yes {m : Mach} (h1 : decide (1 ≤ m.st) = true) (h2 : decide (m.st ≤ 256) = true) (h3 : decide (0 ≤ m.ev) = true) (h4 : decide (m.ev ≤ 8) = true) (h5 : rowB m.st m.starts = true) (h6 : rowB m.st m.ends = true) : arrsB m = mayB m := by
  rw [may_split, h1, h2, h3, h4, h5, h6]; simp

set_option maxRecDepth 100000 in
set_option maxHeartbeats 4000000 in
theorem pMay_any (m : Mach) (l : ML) (w : World) (h : MAt w m l) :
    Calls Try.prog 52 #[mval m l] w fun e w' => e = .returned (.bool (mayB m)) ∧ Below w.heap.size w w' := by
  have b0 : Below w.heap.size w (w.alloc (.cells (mcells m l) 26)) := (Below.refl _ _).alloc (Nat.le_refl _) _
  have h' := Hid.of (h.below b0 (Nat.le_refl _))
  have l1 : Hid (m.starts.length ≤ maxLen) := Nat.le_trans h.s1 h.s2
  have l3 : Hid (m.ends.length ≤ maxLen) := Nat.le_trans h.e1 h.e2
  have B0 := Hid.of b0
  clear b0
  by_cases e1 : 1 ≤ m.st
  · have d1 : decide (1 ≤ m.st) = true := by simpa using e1
    by_cases e2 : m.st ≤ 256
    · have d2 : decide (m.st ≤ 256) = true := by simpa using e2
      by_cases e3 : 0 ≤ m.ev
      · have d3 : decide (0 ≤ m.ev) = true := by simpa using e3
        by_cases e4 : m.ev ≤ 8
        · have d4 : decide (m.ev ≤ 8) = true := by simpa using e4
          cases e5 : rowB m.st m.starts with
          | true =>
            cases e6 : rowB m.st m.ends with
            | true =>
              go_enter Try.func52, Try.ntmps52
              go_wp2_with fail
              refine (rowIs_any l.a1 l.c1 m.starts m.st _ h'.out.s l1.out).mono ?_
              rintro e w1 ⟨rfl, rfl⟩
              rw [e5]
              go_wp2_with fail
              refine (rowIs_any l.a3 l.c3 m.ends m.st _ h'.out.e l3.out).mono ?_
              rintro e w1 ⟨rfl, rfl⟩
              rw [e6]
              go_wp2_with fail
              refine (arrowsMay_any m l _ h'.out).mono ?_
              rintro e w1 ⟨rfl, hb1⟩
              go_wp2
              go_ret
              exact ⟨ret_bool (may_yes d1 d2 d3 d4 e5 e6), B0.out.trans (hb1.mono B0.out.size)⟩
            | false =>
              go_enter Try.func52, Try.ntmps52
              go_wp2_with fail
              refine (rowIs_any l.a1 l.c1 m.starts m.st _ h'.out.s l1.out).mono ?_
              rintro e w1 ⟨rfl, rfl⟩
              rw [e5]
              go_wp2_with fail
              refine (rowIs_any l.a3 l.c3 m.ends m.st _ h'.out.e l3.out).mono ?_
              rintro e w1 ⟨rfl, rfl⟩
              rw [e6]
              go_wp2
              go_ret
              exact ⟨ret_bool (may_no6 e6), B0.out⟩
          | false =>
            go_enter Try.func52, Try.ntmps52
            go_wp2_with (go_at_call 13; refine (rowIs_any l.a1 l.c1 m.starts m.st _ h'.out.s l1.out).mono ?_; rintro e w1 ⟨rfl, rfl⟩)
            go_ret
            exact ⟨ret_bool (may_no5 e5), B0.out⟩
        · have d4 : decide (m.ev ≤ 8) = false := by simpa using e4
          go_enter Try.func52, Try.ntmps52
          go_wp2
          go_ret
          exact ⟨ret_bool (may_no4 d4), B0.out⟩
      · have d3 : decide (0 ≤ m.ev) = false := by simpa using e3
        go_enter Try.func52, Try.ntmps52
        go_wp2
        go_ret
        exact ⟨ret_bool (may_no3 d3), B0.out⟩
    · have d2 : decide (m.st ≤ 256) = false := by simpa using e2
      go_enter Try.func52, Try.ntmps52
      go_wp2
      go_ret
      exact ⟨ret_bool (may_no2 d2), B0.out⟩
  · have d1 : decide (1 ≤ m.st) = false := by simpa using e1
    go_enter Try.func52, Try.ntmps52
    go_wp2
    go_ret
    exact ⟨ret_bool (may_no1 d1), B0.out⟩

end Go.Proofs.Ytbgiliophmofgaa
namespace Go.Proofs.Ytbgiliophmofgaa
open Go.RowKit
set_option linter.unusedVariables false

/-- Are two lists one? (A function of our own, which the walk leaves as it stands.) -/
def sameB (xs ys : List Int) : Bool := xs == ys

theorem same_len {xs ys : List Int} (h : ¬ xs.length = ys.length) : false = sameB xs ys := by
  rw [sameB, eq_comm, beq_eq_false_iff_ne]; intro e; exact h (by rw [e])
theorem same_no {xs ys : List Int} {k : Nat} {x y : Int} (hx : Hid (x = xs[k]?.getD 0)) (hy : Hid (y = ys[k]?.getD 0)) (h : ¬ x = y) : false = sameB xs ys := by
  rw [sameB, eq_comm, beq_eq_false_iff_ne]; intro e; exact h (by rw [hx.out, hy.out, e])
theorem same_yes {xs ys : List Int} {k : Nat} {x y : Int} (h1 : k < xs.length) (h2 : k < ys.length) (hx : Hid (x = xs[k]?.getD 0)) (hy : Hid (y = ys[k]?.getD 0)) (h : x = y) (e : Hid (xs.take k = ys.take k)) : Hid (xs.take (k + 1) = ys.take (k + 1)) := by
  show xs.take (k + 1) = ys.take (k + 1)
  rw [List.take_add_one, List.take_add_one, e.out]
  have hx := hx.out; have hy := hy.out
  rw [List.getElem?_eq_getElem h1] at hx ⊢
  rw [List.getElem?_eq_getElem h2] at hy ⊢
  simp only [Option.getD_some] at hx hy
  rw [← hx, ← hy, h]
theorem same_end {xs ys : List Int} {k : Nat} (hl : xs.length = ys.length) (h : ¬ k < xs.length) (e : Hid (xs.take k = ys.take k)) : true = sameB xs ys := by
  have e := e.out
  rw [List.take_of_length_le (by omega), List.take_of_length_le (by omega)] at e
  subst e; simp [sameB]

end Go.Proofs.Ytbgiliophmofgaa
namespace Go.Proofs.Ytbgiliophmofgaa
open Go.RowKit
set_option linter.unusedVariables false

set_option maxHeartbeats 400000 in
theorem ksame_ne (a b : Option Addr) (ca cb : Nat) (xs ys : List Int) (w : World) (hne : ¬ xs.length = ys.length) (hl : xs.length ≤ 9223372036854775807) (hm : ys.length ≤ 9223372036854775807) :
    Calls Try.prog 12 #[.slice a xs.length ca, .slice b ys.length cb] w fun e w' => e = .returned (.bool (sameB xs ys)) ∧ ∃ q, w' = w.drewN q := by
  have hb : ((xs.length : Int) != (ys.length : Int)) = true := by rw [bne_iff_ne]; omega
  go_enter Try.func12, Try.ntmps12
  go_wp2
  go_ret
  exact ⟨ret_bool (same_len hne), 0, rfl⟩

set_option maxHeartbeats 1000000 in
theorem ksame_eq (ba oa ca bb ob cb : Nat) (xs ys : List Int) (w : World) (hlen : Hid (xs.length = ys.length)) (hl : xs.length ≤ 9223372036854775807) (hca : Cells w ba oa xs) (hcb : Cells w bb ob ys) :
    Calls Try.prog 12 #[.slice (some ⟨ba, oa, none⟩) xs.length ca, .slice (some ⟨bb, ob, none⟩) ys.length cb] w fun e w' => e = .returned (.bool (sameB xs ys)) ∧ ∃ q, w' = w.drewN q := by
  have hm : ys.length ≤ 9223372036854775807 := by have := hlen.out; omega
  have hb : ((xs.length : Int) != (ys.length : Int)) = false := by have := hlen.out; simp; omega
  go_enter Try.func12, Try.ntmps12
  go_wp2
  go_loopw [5] (fun i wr => ∃ k q : Nat, k ≤ xs.length ∧ i = .int .i64 k ∧ wr = w.drewN q ∧ Hid (xs.take k = ys.take k)) (fun i _ => xs.length - (intOf i).toNat)
  case atStart => exact ⟨0, 0, Nat.zero_le _, rfl, rfl, rfl⟩
  case round =>
    obtain ⟨k, q, hk, rfl, rfl, he⟩ := hrel
    by_cases hlt : k < xs.length
    · have hlt2 : k < ys.length := by have := hlen.out; omega
      obtain ⟨x, HX, hcx⟩ := hca.at hlt
      obtain ⟨y, HY, hcy⟩ := hcb.at hlt2
      by_cases hxy : x = y
      · have HXY : Hid (x = y) := hxy
        have d : (x != y) = false := by simp [hxy]
        clear hxy
        go_wp2
        go_quiet (fail)
        go_wp2
        go_roundw
        case rel => exact ⟨k + 1, _, by omega, by go_num, rfl, same_yes hlt hlt2 HX HY HXY.out he⟩
        case measure => simp [intOf]; omega
      · have d : (x != y) = true := by simp [hxy]
        go_wp2
        go_quiet (fail)
        go_wp2
        go_ret
        exact ⟨ret_bool (same_no HX HY hxy), _, World.drewN_drewN _ _ _⟩
    · go_wp2
      go_ret
      exact ⟨ret_bool (same_end hlen.out hlt he), q, rfl⟩

set_option maxHeartbeats 400000 in
theorem ksame_nil (a b : Option Addr) (ca cb : Nat) (w : World) :
    Calls Try.prog 12 #[.slice a 0 ca, .slice b 0 cb] w fun e w' => e = .returned (.bool true) ∧ ∃ q, w' = w.drewN q := by
  go_enter Try.func12, Try.ntmps12
  go_wp2
  refine wp_loop_rounds 1 ?_
  rw [rounds_succ]
  go_wp2
  go_ret
  exact ⟨rfl, 0, rfl⟩

theorem ksame_any (a b : Option Addr) (ca cb : Nat) (xs ys : List Int) (w : World) (hs : At w a xs) (ht : At w b ys) (hl : xs.length ≤ maxLen) (hm : ys.length ≤ maxLen) :
    Calls Try.prog 12 #[.slice a xs.length ca, .slice b ys.length cb] w fun e w' => e = .returned (.bool (sameB xs ys)) ∧ ∃ q, w' = w.drewN q := by
  by_cases hne : xs.length = ys.length
  · rcases hs with rfl | ⟨ba, oa, rfl, -, hca⟩
    · have : ys = [] := List.eq_nil_of_length_eq_zero (by simpa using hne.symm)
      subst this
      exact ksame_nil a b ca cb w
    · rcases ht with rfl | ⟨bb, ob, rfl, -, hcb⟩
      · have : xs = [] := List.eq_nil_of_length_eq_zero (by simpa using hne)
        subst this
        exact ksame_nil _ b ca cb w
      · exact ksame_eq ba oa ca bb ob cb xs ys w hne hl hca hcb
  · exact ksame_ne a b ca cb xs ys w hne hl hm

end Go.Proofs.Ytbgiliophmofgaa
namespace Go.Proofs.Ytbgiliophmofgaa
open Go.RowKit

def insA (x : Arr) : List Arr → List Arr
  | [] => [x]
  | y :: r => if aheadB y x = true then y :: insA x r else if arrEq y x then y :: r else x :: y :: r
def srtA (l : List Arr) : List Arr := l.foldl (fun out x => insA x out) []

theorem getA_succ (y : Arr) (r : List Arr) (j : Nat) : (y :: r)[j + 1]?.getD arr0 = r[j]?.getD arr0 := by simp

theorem insA_put {x : Arr} : ∀ {L : List Arr} {p : Nat}, p ≤ L.length → (∀ j, j < p → aheadB (L[j]?.getD arr0) x = true) → (p = L.length ∨ (aheadB (L[p]?.getD arr0) x = false ∧ ¬ arrEq (L[p]?.getD arr0) x)) → insA x L = L.take p ++ x :: L.drop p
  | [], p, hp, _, _ => by
    have : p = 0 := by simpa using hp
    subst this; simp [insA]
  | y :: r, 0, _, _, h => by
    rcases h with h | ⟨h, h'⟩
    · simp at h
    · have h : aheadB y x = false := by simpa using h
      have h' : ¬ arrEq y x := by simpa using h'
      simp only [insA, List.take_zero, List.drop_zero, List.nil_append]
      rw [if_neg (by rw [h]; simp), if_neg h']
  | y :: r, p + 1, hp, hl, h => by
    have h0 : aheadB y x = true := by simpa using hl 0 (by omega)
    have := insA_put (x := x) (L := r) (p := p) (by simpa using hp) (fun j hj => by have := hl (j + 1) (by omega); rwa [getA_succ] at this) (by
      rcases h with h | h
      · left; simpa using h
      · right; rwa [getA_succ] at h)
    simp only [insA]
    rw [if_pos h0, this]
    simp
end Go.Proofs.Ytbgiliophmofgaa
namespace Go.Proofs.Ytbgiliophmofgaa
open Go.RowKit
set_option linter.unusedVariables false

/-! Places. -/
/-! Rows and arrows in order. -/
theorem rowB_iff (n : Int) (hn : n ≤ 2147483648) (l : List Int) : rowB n l = true ↔ Inc l ∧ ∀ x ∈ l, 0 ≤ x ∧ x < n := by
  unfold rowB
  rw [goIs_iff]
  constructor
  · rintro ⟨h1, h2⟩; exact ⟨h1, fun x hx => by have := h2 x hx; omega⟩
  · rintro ⟨h1, h2⟩; exact ⟨h1, fun x hx => by have := h2 x hx; omega⟩
abbrev IncA (l : List Arr) : Prop := l.Pairwise (fun a b => aheadB a b = true)
theorem aheadB_iff (a b : Arr) : aheadB a b = true ↔ a.f < b.f ∨ (a.f = b.f ∧ (a.e < b.e ∨ (a.e = b.e ∧ a.t < b.t))) := by
  unfold aheadB
  split
  · split
    · simp only [decide_eq_true_eq]; omega
    · simp only [decide_eq_true_eq]; omega
  · simp only [decide_eq_true_eq]; omega
theorem aheadB_trans {a b c : Arr} (h : aheadB a b = true) (k : aheadB b c = true) : aheadB a c = true := by
  rw [aheadB_iff] at *; omega
theorem arrsFrom_iff (st ev : Int) : ∀ (ars : List Arr) (p : Option Arr), arrsFrom st ev p ars = true ↔ (∀ a ∈ ars, arrIn st ev a) ∧ IncA ars ∧ ∀ a ∈ ars, behindB p a = true
  | [], p => by simp [arrsFrom]
  | b :: r, p => by
    unfold arrsFrom
    by_cases hc : arrIn st ev b ∧ behindB p b = true
    · rw [if_pos hc, arrsFrom_iff st ev r (some b)]
      constructor
      · rintro ⟨h1, h2, h3⟩
        refine ⟨?_, List.pairwise_cons.2 ⟨fun a ha => h3 a ha, h2⟩, ?_⟩
        · intro a ha
          rcases List.mem_cons.1 ha with rfl | ha
          · exact hc.1
          · exact h1 a ha
        · intro a ha
          rcases List.mem_cons.1 ha with rfl | ha
          · exact hc.2
          · cases p with
            | none => rfl
            | some q => exact aheadB_trans (b := b) hc.2 (h3 a ha)
      · rintro ⟨h1, h2, h3⟩
        obtain ⟨k1, k2⟩ := List.pairwise_cons.1 h2
        exact ⟨fun a ha => h1 a (by simp [ha]), k2, k1⟩
    · rw [if_neg hc]
      constructor
      · intro h; cases h
      · rintro ⟨h1, h2, h3⟩
        exact absurd ⟨h1 b (by simp), h3 b (by simp)⟩ hc
theorem insA_last {x : Arr} : ∀ {L : List Arr}, (∀ a ∈ L, aheadB a x = true) → insA x L = L ++ [x]
  | [], _ => rfl
  | y :: r, h => by
    unfold insA
    rw [if_pos (h y (by simp)), insA_last (fun a ha => h a (by simp [ha]))]; rfl
theorem srtA_go : ∀ (l o : List Arr), IncA (o ++ l) → l.foldl (fun out x => insA x out) o = o ++ l
  | [], o, _ => by simp
  | x :: r, o, h => by
    have h1 : ∀ a ∈ o, aheadB a x = true := fun a ha => (List.pairwise_append.1 h).2.2 a ha x (by simp)
    rw [List.foldl_cons, insA_last h1, srtA_go r (o ++ [x]) (by simpa using h)]
    simp
theorem srtA_id {l : List Arr} (h : IncA l) : srtA l = l := by
  have := srtA_go l [] (by simpa using h)
  simpa [srtA] using this

/-! What is come to, of a machine that may be. -/
theorem may_arrs {m : Mach} (hm : mayB m = true) : ∀ a ∈ m.arrows, arrIn m.st m.ev a := ((arrsFrom_iff _ _ _ _).1 (mayB_arrs hm)).1
theorem may_inc {m : Mach} (hm : mayB m = true) : IncA m.arrows := ((arrsFrom_iff _ _ _ _).1 (mayB_arrs hm)).2.1
theorem may_starts {m : Mach} (hm : mayB m = true) : Inc m.starts ∧ ∀ x ∈ m.starts, 0 ≤ x ∧ x < m.st := (rowB_iff _ (by have := mayB_size hm; unfold sizeOk at this; omega) _).1 (mayB_starts hm)
theorem may_ends {m : Mach} (hm : mayB m = true) : Inc m.ends ∧ ∀ x ∈ m.ends, 0 ≤ x ∧ x < m.st := (rowB_iff _ (by have := mayB_size hm; unfold sizeOk at this; omega) _).1 (mayB_ends hm)
/-! The trimmed machine may be. -/
/-! The trimmed machine accepts the same words. -/
end Go.Proofs.Ytbgiliophmofgaa
namespace Go.Proofs.Ytbgiliophmofgaa
open Go.RowKit
set_option linter.unusedVariables false

/-! Places of pairs. -/
/-! What has been found: the invariant. -/
/-! Arrows in order. -/
theorem arr_ext {x y : Arr} (h : arrEq x y) : x = y := by
  cases x; cases y; obtain ⟨h1, h2, h3⟩ := h; dsimp only at h1 h2 h3; subst h1; subst h2; subst h3; rfl
theorem mem_insA (z x : Arr) : ∀ L, z ∈ insA x L ↔ z = x ∨ z ∈ L
  | [] => by simp [insA]
  | y :: r => by
    unfold insA
    split
    · rw [List.mem_cons, mem_insA z x r, List.mem_cons]
      constructor
      · rintro (h | h | h)
        · exact .inr (.inl h)
        · exact .inl h
        · exact .inr (.inr h)
      · rintro (h | h | h)
        · exact .inr (.inl h)
        · exact .inl h
        · exact .inr (.inr h)
    · split
      · rename_i h
        have := arr_ext h
        subst this
        simp
      · simp
theorem inc_insA (x : Arr) : ∀ {L : List Arr}, IncA L → IncA (insA x L)
  | [], _ => by simp [insA, IncA]
  | y :: r, h => by
    obtain ⟨h1, h2⟩ := List.pairwise_cons.1 h
    unfold insA
    split
    · rename_i hy
      refine List.pairwise_cons.2 ⟨fun z hz => ?_, inc_insA x h2⟩
      rcases (mem_insA z x r).1 hz with rfl | hz
      · exact hy
      · exact h1 z hz
    · rename_i hy
      split
      · exact h
      · rename_i he
        have hx : aheadB x y = true := by
          rw [aheadB_iff] at hy ⊢
          unfold arrEq at he
          omega
        refine List.pairwise_cons.2 ⟨fun z hz => ?_, h⟩
        rcases List.mem_cons.1 hz with rfl | hz
        · exact hx
        · exact aheadB_trans hx (h1 z hz)
theorem srtA_both : ∀ (l o : List Arr), IncA o → IncA (l.foldl (fun out x => insA x out) o) ∧ ∀ z, z ∈ l.foldl (fun out x => insA x out) o ↔ z ∈ o ∨ z ∈ l
  | [], o, h => ⟨h, fun z => by simp⟩
  | x :: r, o, h => by
    obtain ⟨k1, k2⟩ := srtA_both r (insA x o) (inc_insA x h)
    refine ⟨k1, fun z => ?_⟩
    rw [List.foldl_cons, k2 z, mem_insA, List.mem_cons]
    constructor
    · rintro ((h | h) | h)
      · exact .inr (.inl h)
      · exact .inl h
      · exact .inr (.inr h)
    · rintro (h | h | h)
      · exact .inl (.inr h)
      · exact .inl (.inl h)
      · exact .inr h
theorem mem_srtA (l : List Arr) (z : Arr) : z ∈ srtA l ↔ z ∈ l := by rw [show (z ∈ srtA l ↔ _) from (srtA_both l [] (by simp [IncA])).2 z]; simp

/-! The machine of both may be. -/
/-! Words. -/
end Go.Proofs.Ytbgiliophmofgaa
namespace Go.Proofs.Ytbgiliophmofgaa
open Go.RowKit
set_option linter.unusedVariables false

theorem cmpA_neg (a b : Arr) : decide (cmpA a b < 0) = aheadB a b := by
  have h := cmpA_ahead a b
  by_cases hc : 0 ≤ cmpA a b
  · rw [decide_eq_true hc] at h
    rw [decide_eq_false (by omega)]
    cases hb : aheadB a b with
    | true => rw [hb] at h; cases h
    | false => rfl
  · rw [decide_eq_false hc] at h
    rw [decide_eq_true (by omega)]
    cases hb : aheadB a b with
    | true => rfl
    | false => rw [hb] at h; cases h
theorem cmpA_zero (a b : Arr) : cmpA a b = 0 ↔ arrEq a b := by
  unfold cmpA orI cmpI arrEq
  constructor
  · intro h
    revert h
    repeat' split
    all_goals (intro h; first | omega | exact absurd h (by decide))
  · rintro ⟨h1, h2, h3⟩
    rw [h1, h2, h3]
    simp
/-- Where an arrow stands, or would stand. -/
structure BsIs (xs : List Arr) (x : Arr) (k : Nat) (b : Bool) : Prop where
  le : k ≤ xs.length
  lo : ∀ j, j < k → aheadB (xs[j]?.getD arr0) x = true
  hi : ∀ j, k ≤ j → j < xs.length → aheadB (xs[j]?.getD arr0) x = false
  eq : b = true ↔ k < xs.length ∧ arrEq (xs[k]?.getD arr0) x
theorem incA_at {xs : List Arr} (h : IncA xs) {p q : Nat} (hq : q < xs.length) (hpq : p < q) : aheadB (xs[p]?.getD arr0) (xs[q]?.getD arr0) = true := by
  have := List.pairwise_iff_getElem.1 h p q (by omega) hq hpq
  rw [List.getElem?_eq_getElem (by omega), List.getElem?_eq_getElem hq]
  exact this

set_option maxRecDepth 100000 in
set_option maxHeartbeats 4000000 in
theorem bsf_some (b off cap : Nat) (xs : List Arr) (x : Arr) (w : World) (hl : xs.length ≤ 5000) (hb : b < w.heap.size) (hc0 : Hid (CellsA w b off xs)) (hi : Hid (IncA xs)) :
    Calls Try.prog 75 #[.slice (some ⟨b, off, none⟩) xs.length cap, .agg (acells x), .func (.func 76) #[] #[]] w fun e w' => ∃ (k : Nat) (f : Bool), e = .returned (.tuple #[.int .i64 k, .bool f]) ∧ BsIs xs x k f ∧ Below w.heap.size w w' := by
  have HB0 : Hid (Below w.heap.size w (w.alloc (.cells (acells x) 60))) := (Below.refl _ _).alloc (Nat.le_refl _) _
  have HK : Hid (Blk (w.alloc (.cells (acells x) 60)) w.heap.size 60 (acells x)) := Blk.new w _ _
  go_enter Try.func75, Try.ntmps75
  go_wp2_with fail
  revert HB0 HK
  generalize w.alloc (.cells (acells x) 60) = V
  obtain ⟨bx, HBXE⟩ : ∃ bx, Hid (bx = w.heap.size) := ⟨_, rfl⟩
  rw [← HBXE.out]
  have hbx : b < bx := by rw [HBXE.out]; exact hb
  intro HB0 HK
  go_loopw [9, 10] (fun vi vj wr => ∃ i j : Nat, i ≤ j ∧ j ≤ xs.length ∧ vi = .int .i64 i ∧ vj = .int .i64 j ∧ Hid (∀ p, p < i → aheadB (xs[p]?.getD arr0) x = true) ∧ Hid (∀ p, j ≤ p → p < xs.length → aheadB (xs[p]?.getD arr0) x = false) ∧ Hid (Below bx w wr) ∧ Hid (Blk wr bx 60 (acells x))) (fun vi vj _ => (intOf vj).toNat - (intOf vi).toNat)
  case atStart => exact ⟨0, xs.length, Nat.zero_le _, Nat.le_refl _, rfl, rfl, fun p h => by omega, fun p h hx => by omega, HB0, HK⟩
  case round =>
    clear HB0 HK
    obtain ⟨i, j, hij, hj, rfl, rfl, HL, HU, HB, HK⟩ := hrel
    have kx0 : wr.cell? ⟨bx, 0, none⟩ = some (.int .i64 x.f) := HK.out.cell 0 rfl
    have kx1 : wr.cell? ⟨bx, 1, none⟩ = some (.int .i64 x.e) := HK.out.cell 1 rfl
    have kx2 : wr.cell? ⟨bx, 2, none⟩ = some (.int .i64 x.t) := HK.out.cell 2 rfl
    have HBd := Hid.of HB.out.drew
    have HKd : Hid (Blk wr.drew bx 60 (acells x)) := HK.out
    by_cases hlt : i < j
    · have hh : (i + j) / 2 < xs.length := by omega
      have hm1 : (0 : Int) ≤ ((i : Int) + (j : Int)) / 2 := by omega
      have hm2 : ((i : Int) + (j : Int)) / 2 < (xs.length : Int) := by omega
      have hm3 : (((i : Int) + (j : Int)) / 2).toNat = (i + j) / 2 := by omega
      obtain ⟨y, HY, c0, c1, c2⟩ := hc0.out.at hh
      have hbb := hbx
      replace c0 := (HB.out.cell (p := ⟨b, _, none⟩) hbb).trans c0
      replace c1 := (HB.out.cell (p := ⟨b, _, none⟩) hbb).trans c1
      replace c2 := (HB.out.cell (p := ⟨b, _, none⟩) hbb).trans c2
      obtain ⟨cv, HCV⟩ : ∃ cv, Hid (cmpA y x = cv) := ⟨_, rfl⟩
      have HCC : Hid (∀ V : World, Calls Try.prog 76 #[.agg (acells y), .agg (acells x)] V fun e w' => e = .returned (.int .i64 cv) ∧ Below V.heap.size V w') := fun V => by rw [← HCV.out]; exact compare_any y x V
      have hneg := cmpA_neg y x
      rw [HCV.out] at hneg
      cases hah : aheadB y x with
      | true =>
        have HAH := Hid.of hah
        have hn1 : decide (cv < 0) = true := hneg.trans hah
        have hn2 : cv < 0 := of_decide_eq_true hn1
        clear hah hneg
        go_wp2_with fail
        go_region_with (go_at_call 76; refine (HCC.out _).mono ?_; rintro e' w2 ⟨rfl, hb2⟩)
        all_goals
          have HB2 := Hid.of (HBd.out.trans (hb2.mono (Nat.le_of_lt HKd.out.lt)))
          have HK2 := Hid.of (HKd.out.below hb2 HKd.out.lt)
          clear kx0 kx1 kx2 c0 c1 c2 hb2 HB HK HBd HKd
          go_wp2_with fail
          go_roundw
          case rel =>
            refine ⟨(i + j) / 2 + 1, j, by omega, hj, by go_num, rfl, fun p hp => ?_, HU, HB2, HK2⟩
            by_cases hpq : p < (i + j) / 2
            · refine aheadB_trans (incA_at hi.out hh hpq) ?_
              rw [← HY.out]; exact HAH.out
            · have : p = (i + j) / 2 := by omega
              rw [this, ← HY.out]; exact HAH.out
          case measure => simp [intOf]; omega
      | false =>
        have HAH := Hid.of hah
        have hn1 : decide (cv < 0) = false := hneg.trans hah
        have hn2 : ¬ cv < 0 := of_decide_eq_false hn1
        have hn3 : 0 ≤ cv := by omega
        clear hah hneg
        go_wp2_with fail
        go_region_with (go_at_call 76; refine (HCC.out _).mono ?_; rintro e' w2 ⟨rfl, hb2⟩)
        all_goals
          have HB2 := Hid.of (HBd.out.trans (hb2.mono (Nat.le_of_lt HKd.out.lt)))
          have HK2 := Hid.of (HKd.out.below hb2 HKd.out.lt)
          clear kx0 kx1 kx2 c0 c1 c2 hb2 HB HK HBd HKd
          go_wp2_with fail
          go_roundw
          case rel =>
            refine ⟨i, (i + j) / 2, by omega, by omega, rfl, by go_num, HL, fun p hp hpl => ?_, HB2, HK2⟩
            by_cases hpq : (i + j) / 2 < p
            · have h1 := incA_at hi.out hpl hpq
              cases hz : aheadB (xs[p]?.getD arr0) x with
              | false => rfl
              | true =>
                have := aheadB_trans h1 hz
                rw [← HY.out, HAH.out] at this; cases this
            · have : p = (i + j) / 2 := by omega
              rw [this, ← HY.out]; exact HAH.out
          case measure => simp [intOf]; omega
    · have hE : i = j := by omega
      subst hE
      by_cases hil : i < xs.length
      · obtain ⟨y, HY, c0, c1, c2⟩ := hc0.out.at hil
        have hbb := hbx
        replace c0 := (HB.out.cell (p := ⟨b, _, none⟩) hbb).trans c0
        replace c1 := (HB.out.cell (p := ⟨b, _, none⟩) hbb).trans c1
        replace c2 := (HB.out.cell (p := ⟨b, _, none⟩) hbb).trans c2
        obtain ⟨cv, HCV⟩ : ∃ cv, Hid (cmpA y x = cv) := ⟨_, rfl⟩
        have HCC : Hid (∀ V : World, Calls Try.prog 76 #[.agg (acells y), .agg (acells x)] V fun e w' => e = .returned (.int .i64 cv) ∧ Below V.heap.size V w') := fun V => by rw [← HCV.out]; exact compare_any y x V
        obtain ⟨f, HF⟩ : ∃ f, Hid ((cv == 0) = f) := ⟨_, rfl⟩
        have hf := HF.out
        have HBS : Hid (BsIs xs x i f) := by
          refine ⟨by omega, HL.out, HU.out, ?_⟩
          rw [← HF.out, beq_iff_eq, ← HCV.out, cmpA_zero, HY.out]
          exact ⟨fun h => ⟨hil, h⟩, fun h => h.2⟩
        have hilI : (i : Int) < (xs.length : Int) := by omega
        go_wp2_with fail
        have SA : wr.drew.cell? ⟨bx, 0, none⟩ = some (.int .i64 x.f) ∧ wr.drew.cell? ⟨bx, 1, none⟩ = some (.int .i64 x.e) ∧ wr.drew.cell? ⟨bx, 2, none⟩ = some (.int .i64 x.t) ∧ wr.drew.cell? ⟨b, off + i * 3, none⟩ = some (.int .i64 y.f) ∧ wr.drew.cell? ⟨b, off + i * 3 + 1, none⟩ = some (.int .i64 y.e) ∧ wr.drew.cell? ⟨b, off + i * 3 + 2, none⟩ = some (.int .i64 y.t) := ⟨kx0, kx1, kx2, c0, c1, c2⟩
        have QB : Hid (Below bx w wr.drew) := HBd.out
        have QL : Hid (bx < wr.drew.heap.size) := HKd.out.lt
        refine wp_region_held_drew (S := fun w' => w'.cell? ⟨bx, 0, none⟩ = some (.int .i64 x.f) ∧ w'.cell? ⟨bx, 1, none⟩ = some (.int .i64 x.e) ∧ w'.cell? ⟨bx, 2, none⟩ = some (.int .i64 x.t) ∧ w'.cell? ⟨b, off + i * 3, none⟩ = some (.int .i64 y.f) ∧ w'.cell? ⟨b, off + i * 3 + 1, none⟩ = some (.int .i64 y.e) ∧ w'.cell? ⟨b, off + i * 3 + 2, none⟩ = some (.int .i64 y.t)) (by kernel_rfl) SA (fun hS => ?_)
        clear kx0 kx1 kx2 c0 c1 c2 HB HK HBd HKd
        have HSA := Hid.of SA
        clear SA
        revert HSA QB QL hS
        generalize wr.drew = Y0
        intro QB QL hS HSA
        refine wpAnyH_take (i := 0) (v := .int .i64 (i : Int)) rfl (by kernel_rfl) (by kernel_rfl) (by kernel_rfl) (fun _ _ _ h => h) (Or.inl ⟨by kernel_rfl, fun w' hw' => by obtain ⟨q0, q1, q2, q3, q4, q5⟩ := hw'; go_simp⟩) hS ?_
        refine wpAnyH_take (i := 1) (v := .int .i64 (i : Int)) rfl (by kernel_rfl) (by kernel_rfl) (by kernel_rfl) (fun _ _ _ h => h) (Or.inl ⟨by kernel_rfl, fun w' hw' => by obtain ⟨q0, q1, q2, q3, q4, q5⟩ := hw'; go_simp⟩) hS ?_
        refine wpAnyH_take (i := 2) (v := .int .i64 (xs.length : Int)) rfl (by kernel_rfl) (by kernel_rfl) (by kernel_rfl) (fun _ _ _ h => h) (Or.inl ⟨by kernel_rfl, fun w' hw' => by obtain ⟨q0, q1, q2, q3, q4, q5⟩ := hw'; go_simp⟩) hS ?_
        refine wpAnyH_take (i := 3) (v := .bool true) rfl (by kernel_rfl) (by kernel_rfl) (by kernel_rfl) (fun _ _ _ h => h) (Or.inl ⟨by kernel_rfl, fun w' hw' => by obtain ⟨q0, q1, q2, q3, q4, q5⟩ := hw'; go_simp⟩) hS ?_
        refine wpAnyH_take (i := 4) (v := .bool true) rfl (by kernel_rfl) (by kernel_rfl) (by kernel_rfl) (fun _ _ _ h => h) (Or.inl ⟨by kernel_rfl, fun w' hw' => by obtain ⟨q0, q1, q2, q3, q4, q5⟩ := hw'; go_simp⟩) hS ?_
        refine wpAnyH_take (i := 5) (v := .func (.func 76) #[] #[]) rfl (by kernel_rfl) (by kernel_rfl) (by kernel_rfl) (fun _ _ _ h => h) (Or.inl ⟨by kernel_rfl, fun w' hw' => by obtain ⟨q0, q1, q2, q3, q4, q5⟩ := hw'; go_simp⟩) hS ?_
        refine wpAnyH_take (i := 6) (v := .slice (some ⟨b, off, none⟩) xs.length cap) rfl (by kernel_rfl) (by kernel_rfl) (by kernel_rfl) (fun _ _ _ h => h) (Or.inl ⟨by kernel_rfl, fun w' hw' => by obtain ⟨q0, q1, q2, q3, q4, q5⟩ := hw'; go_simp⟩) hS ?_
        refine wpAnyH_take (i := 7) (v := .int .i64 (i : Int)) rfl (by kernel_rfl) (by kernel_rfl) (by kernel_rfl) (fun _ _ _ h => h) (Or.inl ⟨by kernel_rfl, fun w' hw' => by obtain ⟨q0, q1, q2, q3, q4, q5⟩ := hw'; go_simp⟩) hS ?_
        refine wpAnyH_take (i := 8) (v := .pointer (some ⟨b, off + i * 3, none⟩)) rfl (by kernel_rfl) (by kernel_rfl) (by kernel_rfl) (fun _ _ _ h => h) (Or.inl ⟨by kernel_rfl, fun w' hw' => by obtain ⟨q0, q1, q2, q3, q4, q5⟩ := hw'; go_simp⟩) hS ?_
        refine wpAnyH_take (i := 9) (v := .agg (acells y)) rfl (by kernel_rfl) (by kernel_rfl) (by kernel_rfl) (fun _ _ _ h => h) (Or.inl ⟨by kernel_rfl, fun w' hw' => by obtain ⟨q0, q1, q2, q3, q4, q5⟩ := hw'; go_simp⟩) hS ?_
        refine wpAnyH_take (i := 10) (v := .agg (acells x)) rfl (by kernel_rfl) (by kernel_rfl) (by kernel_rfl) (fun _ _ _ h => h) (Or.inl ⟨by kernel_rfl, fun w' hw' => by obtain ⟨q0, q1, q2, q3, q4, q5⟩ := hw'; go_simp⟩) hS ?_
        simp only [Act.put, List.setIfInBounds_toArray]
        refine wpAnyH_ready (rs := [11]) (by kernel_rfl) (by simp) ?_
        refine AllReadyH.cons rfl (fun K' hK' => ?_) AllReadyH.nil
        clear hS
        go_simp
        refine (HCC.out _).mono ?_
        rintro e Y1 ⟨rfl, hb⟩
        have SB1 : Y1.cell? ⟨bx, 0, none⟩ = some (.int .i64 x.f) ∧ Y1.cell? ⟨bx, 1, none⟩ = some (.int .i64 x.e) ∧ Y1.cell? ⟨bx, 2, none⟩ = some (.int .i64 x.t) ∧ Y1.cell? ⟨b, off + i * 3, none⟩ = some (.int .i64 y.f) ∧ Y1.cell? ⟨b, off + i * 3 + 1, none⟩ = some (.int .i64 y.e) ∧ Y1.cell? ⟨b, off + i * 3 + 2, none⟩ = some (.int .i64 y.t) := by
          obtain ⟨q0, q1, q2, q3, q4, q5⟩ := HSA.out
          have l1 := QL.out
          exact ⟨(hb.cell (p := ⟨bx, _, none⟩) l1).trans q0, (hb.cell (p := ⟨bx, _, none⟩) l1).trans q1, (hb.cell (p := ⟨bx, _, none⟩) l1).trans q2, (hb.cell (p := ⟨b, _, none⟩) (Nat.lt_trans hbx l1)).trans q3, (hb.cell (p := ⟨b, _, none⟩) (Nat.lt_trans hbx l1)).trans q4, (hb.cell (p := ⟨b, _, none⟩) (Nat.lt_trans hbx l1)).trans q5⟩
        replace QB := Hid.of (QB.out.trans (hb.mono (Nat.le_of_lt QL.out)))
        clear hb HSA
        refine hK'.out _ _ SB1 (fun hS => ?_)
        clear hK' K' SB1
        refine wpAnyH_take (i := 12) (v := .bool f) rfl (by kernel_rfl) (by kernel_rfl) (by kernel_rfl) (fun _ _ _ h => h) (Or.inl ⟨by kernel_rfl, fun w' hw' => by obtain ⟨q0, q1, q2, q3, q4, q5⟩ := hw'; go_simp⟩) hS ?_
        refine wpAnyH_take (i := 13) (v := .bool f) rfl (by kernel_rfl) (by kernel_rfl) (by kernel_rfl) (fun _ _ _ h => h) (Or.inl ⟨by kernel_rfl, fun w' hw' => by obtain ⟨q0, q1, q2, q3, q4, q5⟩ := hw'; go_simp⟩) hS ?_
        refine wpAnyH_take (i := 14) (v := .int .i64 (i : Int)) rfl (by kernel_rfl) (by kernel_rfl) (by kernel_rfl) (fun _ _ _ h => h) (Or.inl ⟨by kernel_rfl, fun w' hw' => by obtain ⟨q0, q1, q2, q3, q4, q5⟩ := hw'; go_simp⟩) hS ?_
        refine wpAnyH_take (i := 15) (v := .bool f) rfl (by kernel_rfl) (by kernel_rfl) (by kernel_rfl) (fun _ _ _ h => h) (Or.inl ⟨by kernel_rfl, fun w' hw' => by obtain ⟨q0, q1, q2, q3, q4, q5⟩ := hw'; go_simp⟩) hS ?_
        simp only [Act.put, List.setIfInBounds_toArray, List.getElem_toArray, List.getElem_cons_succ, List.getElem_cons_zero, List.set_cons_zero, List.set_cons_succ]
        clear hS
        refine wpAnyH_done (by kernel_rfl) ?_ _
        go_wp2_with fail
        exact bodyPost_ret (v := .tuple #[.int .i64 (i : Int), .bool f]) (by simp [results, go_sem, Try.results75]) rfl ⟨i, f, rfl, HBS.out, by rw [← HBXE.out]; exact QB.out⟩
      · have HBS : Hid (BsIs xs x i false) := ⟨by omega, HL.out, HU.out, ⟨fun h => (by cases h), fun h => absurd h.1 hil⟩⟩
        have hilI : ¬ (i : Int) < (xs.length : Int) := by omega
        have hd : decide ((i : Int) < (xs.length : Int)) = false := decide_eq_false hilI
        go_wp2_with fail
        go_quiet (fail)
        go_wp2_with fail
        go_ret2
        exact ⟨i, false, rfl, HBS.out, by rw [← HBXE.out]; exact below_drewN HB.out _⟩
set_option maxRecDepth 100000 in
set_option maxHeartbeats 1000000 in
theorem bsf_nil (a : Option Addr) (cap : Nat) (x : Arr) (w : World) :
    Calls Try.prog 75 #[.slice a 0 cap, .agg (acells x), .func (.func 76) #[] #[]] w fun e w' => ∃ (k : Nat) (f : Bool), e = .returned (.tuple #[.int .i64 k, .bool f]) ∧ BsIs [] x k f ∧ Below w.heap.size w w' := by
  have HB0 : Hid (Below w.heap.size w (w.alloc (.cells (acells x) 60))) := (Below.refl _ _).alloc (Nat.le_refl _) _
  go_enter Try.func75, Try.ntmps75
  go_wp2_with fail
  revert HB0
  generalize w.alloc (.cells (acells x) 60) = V
  intro HB0
  refine wp_loop_rounds 1 ?_
  rw [rounds_succ]
  go_wp2_with fail
  go_quiet (fail)
  go_wp2_with fail
  go_ret2
  exact ⟨0, false, rfl, ⟨Nat.le_refl _, fun j hj => by omega, fun j _ hj => by simp at hj, by simp⟩, below_drewN HB0.out _⟩
theorem bsf_any (a : Option Addr) (cap : Nat) (xs : List Arr) (x : Arr) (w : World) (h : AtA w a xs) (hl : xs.length ≤ 5000) (hi : IncA xs) :
    Calls Try.prog 75 #[.slice a xs.length cap, .agg (acells x), .func (.func 76) #[] #[]] w fun e w' => ∃ (k : Nat) (f : Bool), e = .returned (.tuple #[.int .i64 k, .bool f]) ∧ BsIs xs x k f ∧ Below w.heap.size w w' := by
  rcases h with rfl | ⟨b, off, rfl, hb, hc⟩
  · exact bsf_nil a cap x w
  · exact bsf_some b off cap xs x w hl hb hc hi

end Go.Proofs.Ytbgiliophmofgaa
