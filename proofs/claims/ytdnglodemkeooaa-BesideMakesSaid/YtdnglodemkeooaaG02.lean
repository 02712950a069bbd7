/-
  Plain mathematics: sets of bits for rows of states; a table of where each state leads at each event; where a set leads. No program, no model.
  What is said of a slice of integers that a call has made: 'Own'; what an append of one number does to it.
  The walks of row.finder and of the closure that it answers (row.finder$1): a list gone through once for rising numbers.
  The walks of row.first and row.behind, and the plain facts on them: the least number of two rows, and what is left of a row behind it.
  What a call leaves that hands back a slice of its own.
  What is said of a slice of slices of integers: that it reads as a list of lists ('At2'), that it is in the call's own memory ('Own2'); one row more.
  append onto a row of the call's own: the row stays in its block, or it is in a new one.
-/
import Derived.Lib.TrailingZeros
import Derived.Test.YtdnglodemkeooaaG01
import Derived.Laws.EntriesVeiled
import Derived.Deep.RegionLaw
namespace Go.Proofs.Ytdnglodemkeooaa
open Go.RowKit
set_option linter.unusedVariables false

theorem mem_stepL (ars : List Arr) (l : List Int) (e : Int) (x : Int) : x ∈ stepL ars l e ↔ ∃ a ∈ ars, a.e = e ∧ a.f ∈ l ∧ a.t = x := by
  unfold stepL stepTo
  rw [mem_srt]
  simp only [List.mem_map, List.mem_filter, Bool.and_eq_true, beq_iff_eq, hasB, List.contains_iff_mem]
  constructor
  · rintro ⟨a, ⟨h1, h2, h3⟩, h4⟩; exact ⟨a, h1, h2, h3, h4⟩
  · rintro ⟨a, h1, h2, h3, h4⟩; exact ⟨a, ⟨h1, h2, h3⟩, h4⟩

end Go.Proofs.Ytdnglodemkeooaa
namespace Go.Proofs.Ytdnglodemkeooaa
open Go.RowKit

theorem Try.infoInt : (Try.prog.info? 3).map (fun i => (i.zero, i.size, i.bytes)) = some (some (.int .i64 0), 1, 8) := by kernel_rfl

/-- The slice v is in memory made from block B on, and holds xs. -/
def Own (w : World) (B : Nat) (v : Value) (xs : List Int) : Prop := w.ownsRow B 3 1 v xs.length (xs.map (Value.int .i64))

theorem own_nil (w : World) (B : Nat) : Own w B (.slice none 0 0) [] := World.ownsRow_nil _ _ _ _

theorem Own.at {w : World} {B : Nat} {v : Value} {xs : List Int} (h : Own w B v xs) : ∃ a cap, v = .slice a xs.length cap ∧ At w a xs ∧ xs.length ≤ maxLen := by
  rcases h.2 with ⟨rfl, hn⟩ | ⟨g, cap, cur, rfl, hg, hh, hnc, hcm, hcs, ht⟩
  · have : xs = [] := List.eq_nil_of_length_eq_zero hn
    subst this
    exact ⟨none, 0, rfl, .inl rfl, Nat.zero_le _⟩
  · refine ⟨some ⟨g, 0, none⟩, cap, rfl, .inr ⟨g, 0, rfl, (Array.getElem?_eq_some_iff.1 hh).1, fun j hj => ?_⟩, Nat.le_trans hnc hcm⟩
    have := h.cells (g := g) rfl j (.int .i64 (xs.getD j 0)) (by rw [List.getElem?_map, List.getElem?_eq_getElem hj]; simp [List.getElem?_eq_getElem hj])
    rw [show (⟨g, 0, none⟩ : Addr).add j = ⟨g, 0 + j, none⟩ from by unfold Addr.add; split <;> simp_all] at this
    exact this

/-- What a call that hands back a slice leaves: the slice reads as xs, and nothing old has turned. -/
def Gives (w : World) (xs : List Int) (e : Ending) (w' : World) : Prop := ∃ a cap, e = .returned (.slice a xs.length cap) ∧ At w' a xs ∧ xs.length ≤ maxLen ∧ Below w.heap.size w w'

theorem gives_of_own {w w' : World} {B : Nat} {v : Value} {xs : List Int} (h : Own w' B v xs) (hb : Below w.heap.size w w') : Gives w xs (.returned v) w' := by
  obtain ⟨a, cap, rfl, h1, h2⟩ := h.at
  exact ⟨a, cap, rfl, h1, h2, hb⟩

theorem own_snoc {w wr w1 : World} {B : Nat} {v v' : Value} {L : List Int} {x : Int} {o : Obj} (hown : Own wr B v L) (hb : Below B w wr) (hB : B ≤ wr.heap.size)
    (hown' : w1.ownsRow B 3 1 v' (L.length + 1) (L.map (Value.int .i64) ++ [.int .i64 x])) (hgrow : (wr.alloc o).grownBy w1 v.ownBlock) :
    Own w1 B v' (L ++ [x]) ∧ Below B w w1 ∧ B ≤ w1.heap.size := by
  refine ⟨by unfold Own; rw [List.length_append, List.map_append]; exact hown', (hb.alloc hB o).grown hgrow (by simp; omega) (fun j hj => (hown.lt j hj).1), ?_⟩
  have := hgrow.size
  simp at this
  omega

theorem Own.drewN {w : World} {B : Nat} {v : Value} {xs : List Int} (h : Own w B v xs) (m : Nat) : Own (w.drewN m) B v xs := h

/-- An owned slice, as its value and its cells. -/
theorem Own.cells_of {w : World} {B : Nat} {v : Value} {xs : List Int} (h : Own w B v xs) : (v = .slice none 0 0 ∧ xs = []) ∨ ∃ g cap, v = .slice (some ⟨g, 0, none⟩) xs.length cap ∧ B ≤ g ∧ g < w.heap.size ∧ Cells w g 0 xs ∧ (∀ j, w.frozen? ⟨g, j, none⟩ = false) := by
  rcases h.2 with ⟨rfl, hn⟩ | ⟨g, cap, cur, rfl, hg, hh, hnc, hcm, hcs, ht⟩
  · exact .inl ⟨rfl, List.eq_nil_of_length_eq_zero hn⟩
  · refine .inr ⟨g, cap, rfl, hg, (Array.getElem?_eq_some_iff.1 hh).1, fun j hj => ?_, fun j => ?_⟩
    · have := h.cells (g := g) rfl j (.int .i64 (xs.getD j 0)) (by rw [List.getElem?_map, List.getElem?_eq_getElem hj]; simp [List.getElem?_eq_getElem hj])
      rw [show (⟨g, 0, none⟩ : Addr).add j = ⟨g, 0 + j, none⟩ from by unfold Addr.add; split <;> simp_all] at this
      exact this
    · simp [World.frozen?, hh]

end Go.Proofs.Ytdnglodemkeooaa
namespace Go.Proofs.Ytdnglodemkeooaa
open Go.RowKit
set_option linter.unusedVariables false

/-- Of the blocks of which K holds each is as it was. -/
structure Kept (K : Nat → Prop) (w w' : World) : Prop where
  os : w'.os = w.os
  tape : w'.tape = w.tape
  output : w'.output = w.output
  size : w.heap.size ≤ w'.heap.size
  block : ∀ k, K k → w'.heap[k]? = w.heap[k]?

theorem Kept.refl (K : Nat → Prop) (w : World) : Kept K w w := ⟨rfl, rfl, rfl, Nat.le_refl _, fun _ _ => rfl⟩
theorem Kept.trans {K : Nat → Prop} {a b c : World} (h : Kept K a b) (k : Kept K b c) : Kept K a c :=
  ⟨k.os.trans h.os, k.tape.trans h.tape, k.output.trans h.output, Nat.le_trans h.size k.size, fun i hi => (k.block i hi).trans (h.block i hi)⟩
theorem Kept.mono {K K' : Nat → Prop} {w w' : World} (h : Kept K w w') (hB : ∀ k, K' k → K k) : Kept K' w w' := ⟨h.os, h.tape, h.output, h.size, fun k hk => h.block k (hB k hk)⟩
theorem Kept.cell {K : Nat → Prop} {w w' : World} (h : Kept K w w') {p : Addr} (hp : K p.block) : w'.cell? p = w.cell? p := World.cell?_of_block (w := w) (h.block p.block hp)
theorem Kept.frozen {K : Nat → Prop} {w w' : World} (h : Kept K w w') {p : Addr} (hp : K p.block) : w'.frozen? p = w.frozen? p := World.frozen?_of_block (w := w) (h.block p.block hp)
theorem Kept.setCell {K : Nat → Prop} {a w : World} (h : Kept K a w) {p : Addr} (hp : ¬ K p.block) (u : Value) : Kept K a (w.setCell p u) :=
  h.trans ⟨rfl, rfl, rfl, by simp [World.setCell], fun k hk => Below.heap_setCell _ _ _ _ (fun e => hp (e ▸ hk))⟩
theorem Kept.below {K : Nat → Prop} {w w' : World} (h : Kept K w w') {B : Nat} (hB : ∀ k, k < B → K k) : Below B w w' := ⟨h.os, h.tape, h.output, h.size, fun k hk => h.block k (hB k hk)⟩

/-- The slice 'a' of block number less than B reads as xs. -/
def AtB (w : World) (B : Nat) (a : Option Addr) (xs : List Int) : Prop := xs = [] ∨ ∃ b off, a = some ⟨b, off, none⟩ ∧ b < B ∧ Cells w b off xs

theorem AtB.kept {w w' : World} {B : Nat} {a : Option Addr} {xs : List Int} {K : Nat → Prop} (h : AtB w B a xs) (hk : Kept K w w') (hB : ∀ k, k < B → K k) : AtB w' B a xs := by
  rcases h with h | ⟨b, off, rfl, hlt, hc⟩
  · exact .inl h
  · exact .inr ⟨b, off, rfl, hlt, fun j hj => by rw [hk.cell (p := ⟨b, off + j, none⟩) (hB b hlt)]; exact hc j hj⟩

/-- What the call knows of a finder: the place where it stands (all ahead of it is below n), and its list. -/
structure FI (w : World) (B pa pl : Nat) (a : Option Addr) (cap : Nat) (xs : List Int) (n : Int) (k : Nat) : Prop where
  le : k ≤ xs.length
  low : ∀ j, j < k → xs[j]?.getD 0 < n
  cur : w.cell? ⟨pa, 0, none⟩ = some (.int .i64 k)
  free : w.frozen? ⟨pa, 0, none⟩ = false
  lst : w.cell? ⟨pl, 0, none⟩ = some (.slice a xs.length cap)
  ne : pa ≠ pl
  ba : B ≤ pa
  bl : B ≤ pl
  row : AtB w B a xs
  small : xs.length ≤ 9223372036854775807

theorem FI.step {w : World} {B pa pl : Nat} {a : Option Addr} {cap : Nat} {xs : List Int} {n : Int} {k : Nat} (h : FI w B pa pl a cap xs n k) (hlt : k < xs.length) (hx : xs[k]?.getD 0 < n) :
    FI (w.setCell ⟨pa, 0, none⟩ (.int .i64 ((k : Int) + 1))) B pa pl a cap xs n (k + 1) where
  le := hlt
  low := fun j hj => by
    by_cases e : j = k
    · subst e; exact hx
    · exact h.low j (by omega)
  cur := by rw [World.cell?_setCell_same _ _ _ h.cur]; simp
  free := (World.frozen?_setCell _ _ _ _).trans h.free
  lst := (World.cell?_setCell_other _ _ _ _ (by simp; intro e; exact (h.ne e).elim)).trans h.lst
  ne := h.ne
  ba := h.ba
  bl := h.bl
  row := h.row.kept (K := fun k => k < B) ((Kept.refl _ _).setCell (by have := h.ba; show ¬ pa < B; omega) _) (fun _ h => h)
  small := h.small

theorem FI.mono {w : World} {B pa pl : Nat} {a : Option Addr} {cap : Nat} {xs : List Int} {n m : Int} {k : Nat} (h : FI w B pa pl a cap xs n k) (hm : n ≤ m) : FI w B pa pl a cap xs m k :=
  ⟨h.le, fun j hj => by have := h.low j hj; omega, h.cur, h.free, h.lst, h.ne, h.ba, h.bl, h.row, h.small⟩

theorem FI.kept {w w' : World} {B pa pl : Nat} {a : Option Addr} {cap : Nat} {xs : List Int} {n : Int} {k : Nat} {K : Nat → Prop} (h : FI w B pa pl a cap xs n k) (hk : Kept K w w') (h1 : K pa) (h2 : K pl) (hB : ∀ k, k < B → K k) : FI w' B pa pl a cap xs n k :=
  ⟨h.le, h.low, (hk.cell (p := ⟨pa, 0, none⟩) h1).trans h.cur, (hk.frozen (p := ⟨pa, 0, none⟩) h1).trans h.free, (hk.cell (p := ⟨pl, 0, none⟩) h2).trans h.lst, h.ne, h.ba, h.bl, h.row.kept hk hB, h.small⟩

/-- Where a finder stands. -/
def atOf (p : Nat) (w : World) : Nat := (intOf ((w.cell? ⟨p, 0, none⟩).getD (.int .i64 0))).toNat

theorem FI.atOf {w : World} {B pa pl : Nat} {a : Option Addr} {cap : Nat} {xs : List Int} {n : Int} {k : Nat} (h : FI w B pa pl a cap xs n k) : atOf pa w = k := by
  unfold Ytdnglodemkeooaa.atOf; rw [h.cur]; simp [intOf]

theorem find_yes {xs : List Int} {k : Nat} {n x : Int} (h : k < xs.length) (hx : Hid (x = xs[k]?.getD 0)) (e : x = n) : true = hasB xs n := by
  have hx := hx.out
  rw [List.getElem?_eq_getElem h, Option.getD_some] at hx
  simp only [hasB]
  rw [eq_comm, List.contains_iff_mem, ← e, hx]
  exact List.getElem_mem h
theorem find_no {xs : List Int} {k : Nat} {n x : Int} (hi : Inc xs) (h : k < xs.length) (hx : Hid (x = xs[k]?.getD 0)) (e : n < x) (low : ∀ j, j < k → xs[j]?.getD 0 < n) : false = hasB xs n := by
  have hx := hx.out
  rw [List.getElem?_eq_getElem h, Option.getD_some] at hx
  simp only [hasB]
  rw [eq_comm, ← Bool.not_eq_true, List.contains_iff_mem]
  intro m
  obtain ⟨j, hj, hjn⟩ := List.getElem_of_mem m
  by_cases c : j < k
  · have := low j c; rw [List.getElem?_eq_getElem hj, Option.getD_some] at this; omega
  · by_cases c' : j = k
    · subst c'; omega
    · have := (List.pairwise_iff_getElem.1 hi) k j h hj (by omega); omega
theorem find_out {xs : List Int} {k : Nat} {n : Int} (h : ¬ k < xs.length) (low : ∀ j, j < k → xs[j]?.getD 0 < n) : false = hasB xs n := by
  simp only [hasB]
  rw [eq_comm, ← Bool.not_eq_true, List.contains_iff_mem]
  intro m
  obtain ⟨j, hj, hjn⟩ := List.getElem_of_mem m
  have := low j (by omega); rw [List.getElem?_eq_getElem hj, Option.getD_some] at this; omega

set_option maxHeartbeats 1000000 in
theorem rowFind_any (w : World) (B pa pl : Nat) (a : Option Addr) (cap : Nat) (xs : List Int) (n : Int) (k0 : Nat) (hi : Inc xs) (hf : FI w B pa pl a cap xs n k0) :
    Calls Try.prog 36 #[.int .i64 n, .pointer (some ⟨pa, 0, none⟩), .pointer (some ⟨pl, 0, none⟩)] w fun e w' => e = .returned (.bool (hasB xs n)) ∧ (∃ k, FI w' B pa pl a cap xs n k) ∧ Kept (fun k => k ≠ pa) w w' := by
  have HI : Hid (Inc xs) := hi
  have hsm := hf.small
  clear hi
  go_enter Try.func36, Try.ntmps36
  go_wp2
  go_loopw [] (fun wr => ∃ k, FI wr B pa pl a cap xs n k ∧ Kept (fun k => k ≠ pa) w wr) (fun wr => xs.length - atOf pa wr)
  case atStart => exact ⟨k0, hf, Kept.refl _ _⟩
  case round =>
    obtain ⟨k, hk, hkept⟩ := hrel
    have hcur := hk.cur
    have hlst := hk.lst
    have hfree := hk.free
    have hle := hk.le
    by_cases hlt : k < xs.length
    · rcases hk.row with h0 | ⟨b, off, rfl, hb, hc⟩
      · subst h0; simp at hlt
      · obtain ⟨x, HX, hcx⟩ := hc.at hlt
        by_cases c1 : x < n
        · have hst := hk.step hlt (by have := HX.out; omega)
          have hme := hst.atOf
          have hme0 := hk.atOf
          have hkp := hkept.setCell (p := ⟨pa, 0, none⟩) (by simp) (.int .i64 ((k : Int) + 1))
          have H1 : Hid (atOf pa (wr.setCell ⟨pa, 0, none⟩ (.int .i64 ((k : Int) + 1))) = k + 1) := hme
          have H0 : Hid (atOf pa wr = k) := hme0
          clear hme hme0
          go_wp2
          go_roundw
          case rel => exact ⟨k + 1, hst, hkp⟩
          case measure => rw [H1.out, H0.out]; omega
        · by_cases c2 : x = n
          · have HE : Hid (x = n) := c2
            have d : (x == n) = true := by simp [c2]
            clear c2
            go_wp2
            go_ret
            exact ⟨ret_bool (find_yes hlt HX HE.out), ⟨k, hk⟩, hkept⟩
          · have d : (x == n) = false := by simp [c2]
            go_wp2
            go_ret
            exact ⟨ret_bool (find_no HI.out hlt HX (by omega) hk.low), ⟨k, hk⟩, hkept⟩
    · go_wp2
      go_ret
      exact ⟨ret_bool (find_out hlt hk.low), ⟨k, hk⟩, hkept⟩

theorem At.atB {w : World} {a : Option Addr} {xs : List Int} (h : At w a xs) : AtB w w.heap.size a xs := h

theorem kept_alloc (w : World) (o : Obj) {K : Nat → Prop} (hK : ∀ k, K k → k < w.heap.size) : Kept K w (w.alloc o) := ⟨rfl, rfl, rfl, by simp, fun k hk => Below.heap_alloc _ _ _ (hK k hk)⟩

theorem fi_new (w : World) (B : Nat) (a : Option Addr) (cap : Nat) (xs : List Int) (n : Int) (hs : AtB w B a xs) (hB : B ≤ w.heap.size) (hl : xs.length ≤ maxLen) :
    FI ((w.alloc (.cells #[.slice a xs.length cap] 22)).alloc (.cells #[.int .i64 0] 3)) B (w.heap.size + 1) w.heap.size a cap xs n 0 where
  le := Nat.zero_le _
  low := fun j hj => by omega
  cur := by rw [World.cell?_alloc_at _ _ _ _ (by simp)]; rfl
  free := World.frozen?_alloc_at _ _ _ _ (by simp)
  lst := by rw [World.cell?_alloc_past _ _ _ (by simp), World.cell?_alloc_at _ _ _ _ rfl]; rfl
  ne := by omega
  ba := by omega
  bl := hB
  row := (hs.kept (kept_alloc w _ (K := fun k => k < w.heap.size) (fun _ h => h)) (fun k h => by omega)).kept (kept_alloc _ _ (K := fun k => k < w.heap.size + 1) (fun k h => by simpa using h)) (fun k h => by omega)
  small := hl

set_option maxHeartbeats 400000 in
theorem finder_any (a : Option Addr) (cap : Nat) (xs : List Int) (w : World) :
    Calls Try.prog 26 #[.slice a xs.length cap] w fun e w' => e = .returned (.func (.func 36) #[] #[.pointer (some ⟨w.heap.size + 1, 0, none⟩), .pointer (some ⟨w.heap.size, 0, none⟩)]) ∧ (w.alloc (.cells #[.slice a xs.length cap] 22)).alloc (.cells #[.int .i64 0] 3) = w' := by
  have hmf : ∀ (fn : Fn) (first cap : Array Value) (w : World), (Instr.makeFunc fn first cap).run Try.prog w = .ok (.func fn first cap) w := fun _ _ _ _ => rfl
  go_enter Try.func26, Try.ntmps26
  go_wp2
  go_ret
  exact ⟨rfl, rfl⟩

/-- What is known of the two finders that Join, Meet and Less lay: from block B on: the first list, its place; the second list, its place; the two variables that hold them. -/
structure PI (w : World) (B : Nat) (a1 : Option Addr) (c1 : Nat) (xs : List Int) (a2 : Option Addr) (c2 : Nat) (ys : List Int) (n : Int) : Prop where
  f1 : ∃ k, FI w B (B + 1) B a1 c1 xs n k
  f2 : ∃ k, FI w B (B + 3) (B + 2) a2 c2 ys n k
  qa : w.cell? ⟨B + 4, 0, none⟩ = some (.func (.func 36) #[] #[.pointer (some ⟨B + 1, 0, none⟩), .pointer (some ⟨B, 0, none⟩)])
  qb : w.cell? ⟨B + 5, 0, none⟩ = some (.func (.func 36) #[] #[.pointer (some ⟨B + 3, 0, none⟩), .pointer (some ⟨B + 2, 0, none⟩)])

theorem PI.mono {w : World} {B : Nat} {a1 : Option Addr} {c1 : Nat} {xs : List Int} {a2 : Option Addr} {c2 : Nat} {ys : List Int} {n m : Int} (h : PI w B a1 c1 xs a2 c2 ys n) (hm : n ≤ m) : PI w B a1 c1 xs a2 c2 ys m :=
  ⟨h.f1.imp fun _ h => h.mono hm, h.f2.imp fun _ h => h.mono hm, h.qa, h.qb⟩

theorem PI.kept {w w' : World} {B : Nat} {a1 : Option Addr} {c1 : Nat} {xs : List Int} {a2 : Option Addr} {c2 : Nat} {ys : List Int} {n : Int} (h : PI w B a1 c1 xs a2 c2 ys n) (hk : Kept (fun k => k < B + 6) w w') : PI w' B a1 c1 xs a2 c2 ys n := by
  obtain ⟨k1, h1⟩ := h.f1
  obtain ⟨k2, h2⟩ := h.f2
  exact ⟨⟨k1, h1.kept hk (by omega) (by omega) (fun k h => by omega)⟩, ⟨k2, h2.kept hk (by omega) (by omega) (fun k h => by omega)⟩, (hk.cell (p := ⟨B + 4, 0, none⟩) (by show B + 4 < B + 6; omega)).trans h.qa, (hk.cell (p := ⟨B + 5, 0, none⟩) (by show B + 5 < B + 6; omega)).trans h.qb⟩

theorem PI.first {w w' : World} {B : Nat} {a1 : Option Addr} {c1 : Nat} {xs : List Int} {a2 : Option Addr} {c2 : Nat} {ys : List Int} {n : Int} (h : PI w B a1 c1 xs a2 c2 ys n) (h1 : ∃ k, FI w' B (B + 1) B a1 c1 xs n k) (hk : Kept (fun k => k ≠ B + 1) w w') : PI w' B a1 c1 xs a2 c2 ys n := by
  obtain ⟨k2, h2⟩ := h.f2
  exact ⟨h1, ⟨k2, h2.kept hk (by omega) (by omega) (fun k h => by omega)⟩, (hk.cell (p := ⟨B + 4, 0, none⟩) (by show B + 4 ≠ B + 1; omega)).trans h.qa, (hk.cell (p := ⟨B + 5, 0, none⟩) (by show B + 5 ≠ B + 1; omega)).trans h.qb⟩

theorem PI.second {w w' : World} {B : Nat} {a1 : Option Addr} {c1 : Nat} {xs : List Int} {a2 : Option Addr} {c2 : Nat} {ys : List Int} {n : Int} (h : PI w B a1 c1 xs a2 c2 ys n) (h2 : ∃ k, FI w' B (B + 3) (B + 2) a2 c2 ys n k) (hk : Kept (fun k => k ≠ B + 3) w w') : PI w' B a1 c1 xs a2 c2 ys n := by
  obtain ⟨k1, h1⟩ := h.f1
  exact ⟨⟨k1, h1.kept hk (by omega) (by omega) (fun k h => by omega)⟩, h2, (hk.cell (p := ⟨B + 4, 0, none⟩) (by show B + 4 ≠ B + 3; omega)).trans h.qa, (hk.cell (p := ⟨B + 5, 0, none⟩) (by show B + 5 ≠ B + 3; omega)).trans h.qb⟩

end Go.Proofs.Ytdnglodemkeooaa
namespace Go.Proofs.Ytdnglodemkeooaa
open Go.RowKit
set_option linter.unusedVariables false

/-- The least number of two rows that are not both empty. -/
def fst : List Int → List Int → Int
  | [], [] => 0
  | [], y :: _ => y
  | x :: _, [] => x
  | x :: _, y :: _ => min x y

/-- What is left of a row when n is taken from its front. -/
def rem : List Int → Int → List Int
  | [], _ => []
  | x :: r, n => if x = n then r else x :: r

theorem rem_hd (x : Int) (r : List Int) : rem (x :: r) x = r := by simp [rem]
theorem rem_ne {x n : Int} (r : List Int) (h : ¬ x = n) : rem (x :: r) n = x :: r := by simp [rem, h]
theorem rem_nil (n : Int) : rem [] n = [] := rfl
theorem fst_l {x y : Int} (a b : List Int) (h : x ≤ y) : fst (x :: a) (y :: b) = x := by simp only [fst]; omega
theorem fst_r {x y : Int} (a b : List Int) (h : y ≤ x) : fst (x :: a) (y :: b) = y := by simp only [fst]; omega

theorem rem_len (xs : List Int) (n : Int) : (rem xs n).length ≤ xs.length := by
  cases xs with
  | nil => exact Nat.le_refl _
  | cons x r =>
    by_cases h : x = n
    · subst h; rw [rem_hd]; simp
    · rw [rem_ne r h]; exact Nat.le_refl _

theorem uni_nil (a : List Int) : uni a [] = a := by cases a <;> rfl

theorem uni_step (xs ys : List Int) (h : ¬ (xs = [] ∧ ys = [])) : uni xs ys = fst xs ys :: uni (rem xs (fst xs ys)) (rem ys (fst xs ys)) := by
  cases xs with
  | nil =>
    cases ys with
    | nil => exact absurd ⟨rfl, rfl⟩ h
    | cons y b => show uni [] (y :: b) = y :: uni (rem [] y) (rem (y :: b) y); rw [rem_hd, rem_nil]; rfl
  | cons x a =>
    cases ys with
    | nil => show uni (x :: a) [] = x :: uni (rem (x :: a) x) (rem [] x); rw [rem_hd, rem_nil, uni_nil, uni_nil]
    | cons y b =>
      by_cases h1 : x < y
      · rw [fst_l a b (by omega), rem_hd, rem_ne b (by omega), uni_cc, if_pos h1]
      · by_cases h2 : y < x
        · rw [fst_r a b (by omega), rem_hd, rem_ne a (by omega), uni_cc, if_neg h1, if_pos h2]
        · have : x = y := by omega
          subst this
          rw [fst_l a b (by omega), rem_hd, rem_hd, uni_cc, if_neg h1, if_neg h1]

theorem rem_lenlt (xs ys : List Int) (h : ¬ (xs = [] ∧ ys = [])) : (rem xs (fst xs ys)).length + (rem ys (fst xs ys)).length < xs.length + ys.length := by
  cases xs with
  | nil =>
    cases ys with
    | nil => exact absurd ⟨rfl, rfl⟩ h
    | cons y b => show (rem [] y).length + (rem (y :: b) y).length < _; rw [rem_hd, rem_nil]; simp
  | cons x a =>
    cases ys with
    | nil => show (rem (x :: a) x).length + (rem [] x).length < _; rw [rem_hd, rem_nil]; simp
    | cons y b =>
      by_cases h1 : x ≤ y
      · have := rem_len (y :: b) x
        rw [fst_l a b h1, rem_hd]; simp only [List.length_cons] at this ⊢; omega
      · have := rem_len (x :: a) y
        rw [fst_r a b (by omega), rem_hd]; simp only [List.length_cons] at this ⊢; omega

theorem inc_rem {xs : List Int} (n : Int) (h : Inc xs) : Inc (rem xs n) := by
  cases xs with
  | nil => exact h
  | cons x r =>
    by_cases c : x = n
    · subst c; rw [rem_hd]; exact (List.pairwise_cons.1 h).2
    · rw [rem_ne r c]; exact h

theorem rem_low {xs ys : List Int} (hx : Inc xs) (hy : Inc ys) : (∀ z ∈ rem xs (fst xs ys), fst xs ys < z) ∧ (∀ z ∈ rem ys (fst xs ys), fst xs ys < z) := by
  cases xs with
  | nil =>
    cases ys with
    | nil => simp [rem]
    | cons y b => refine ⟨by simp [rem], ?_⟩; show ∀ z ∈ rem (y :: b) y, y < z; rw [rem_hd]; exact (List.pairwise_cons.1 hy).1
  | cons x a =>
    have ha := List.pairwise_cons.1 hx
    cases ys with
    | nil => refine ⟨?_, by simp [rem]⟩; show ∀ z ∈ rem (x :: a) x, x < z; rw [rem_hd]; exact ha.1
    | cons y b =>
      have hb := List.pairwise_cons.1 hy
      by_cases h1 : x < y
      · rw [fst_l a b (by omega), rem_hd, rem_ne b (by omega)]
        refine ⟨ha.1, fun z hz => ?_⟩
        rcases List.mem_cons.1 hz with rfl | hz
        · exact h1
        · have := hb.1 z hz; omega
      · by_cases h2 : y < x
        · rw [fst_r a b (by omega), rem_hd, rem_ne a (by omega)]
          refine ⟨fun z hz => ?_, hb.1⟩
          rcases List.mem_cons.1 hz with rfl | hz
          · exact h2
          · have := ha.1 z hz; omega
        · have : x = y := by omega
          subst this
          rw [fst_l a b (by omega), rem_hd, rem_hd]
          exact ⟨ha.1, hb.1⟩

theorem fst_ge {xs ys : List Int} {m : Int} (h : ¬ (xs = [] ∧ ys = [])) (hx : ∀ z ∈ xs, m ≤ z) (hy : ∀ z ∈ ys, m ≤ z) : m ≤ fst xs ys := by
  cases xs with
  | nil =>
    cases ys with
    | nil => exact absurd ⟨rfl, rfl⟩ h
    | cons y b => exact hy y (by simp)
  | cons x a =>
    cases ys with
    | nil => exact hx x (by simp)
    | cons y b => have := hx x (by simp); have := hy y (by simp); simp only [fst]; omega

set_option maxHeartbeats 400000 in
theorem first_nl (a b : Option Addr) (ca cb : Nat) (y : Int) (r : List Int) (w : World) (hl : (y :: r).length ≤ maxLen) (ht : At w b (y :: r)) :
    Calls Try.prog 37 #[.slice a 0 ca, .slice b (y :: r).length cb] w fun e w' => e = .returned (.int .i64 y) ∧ ∃ q, w' = w.drewN q := by
  rcases ht with h | ⟨bb, ob, rfl, -, hc⟩
  · cases h
  · have h0 := hc 0 (by simp)
    simp only [Nat.add_zero, List.getD_cons_zero] at h0
    clear hc
    unfold maxLen at hl
    generalize hn : (y :: r).length = n at *
    have hp : 0 < n := by rw [← hn]; simp
    clear hn
    go_enter Try.func37, Try.ntmps37
    go_wp2
    go_ret
    exact ⟨rfl, 0, rfl⟩

set_option maxHeartbeats 400000 in
theorem first_ln (a b : Option Addr) (ca cb : Nat) (x : Int) (r : List Int) (w : World) (hl : (x :: r).length ≤ maxLen) (ht : At w a (x :: r)) :
    Calls Try.prog 37 #[.slice a (x :: r).length ca, .slice b 0 cb] w fun e w' => e = .returned (.int .i64 x) ∧ ∃ q, w' = w.drewN q := by
  rcases ht with h | ⟨bb, ob, rfl, -, hc⟩
  · cases h
  · have h0 := hc 0 (by simp)
    simp only [Nat.add_zero, List.getD_cons_zero] at h0
    clear hc
    unfold maxLen at hl
    generalize hn : (x :: r).length = n at *
    have hp : 0 < n := by rw [← hn]; simp
    have hp2 : ((n : Int) == 0) = false := by simp; omega
    clear hn
    go_enter Try.func37, Try.ntmps37
    go_wp2
    go_ret
    exact ⟨rfl, 0, rfl⟩

set_option maxHeartbeats 400000 in
theorem first_ll (a b : Option Addr) (ca cb : Nat) (x y : Int) (r s : List Int) (w : World) (hl : (x :: r).length ≤ maxLen) (hm : (y :: s).length ≤ maxLen) (hs : At w a (x :: r)) (ht : At w b (y :: s)) :
    Calls Try.prog 37 #[.slice a (x :: r).length ca, .slice b (y :: s).length cb] w fun e w' => e = .returned (.int .i64 (min x y)) ∧ ∃ q, w' = w.drewN q := by
  rcases hs with h | ⟨ba, oa, rfl, -, hca⟩
  · cases h
  · rcases ht with h | ⟨bb, ob, rfl, -, hcb⟩
    · cases h
    · have h0 := hca 0 (by simp)
      have h1 := hcb 0 (by simp)
      simp only [Nat.add_zero, List.getD_cons_zero] at h0 h1
      clear hca hcb
      unfold maxLen at hl hm
      generalize hn : (x :: r).length = n at *
      have hp : 0 < n := by rw [← hn]; simp
      clear hn
      generalize hn' : (y :: s).length = n' at *
      have hp' : 0 < n' := by rw [← hn']; simp
      clear hn'
      have hq : ((n : Int) == 0) = false := by simp; omega
      have hq' : ((n' : Int) == 0) = false := by simp; omega
      go_enter Try.func37, Try.ntmps37
      go_wp2
      go_region
      all_goals (try go_wp2)
      all_goals go_ret
      all_goals exact ⟨ret_int (by omega), 1, rfl⟩

theorem first_any (a b : Option Addr) (ca cb : Nat) (xs ys : List Int) (w : World) (hne : ¬ (xs = [] ∧ ys = [])) (hs : At w a xs) (ht : At w b ys) (hl : xs.length ≤ maxLen) (hm : ys.length ≤ maxLen) :
    Calls Try.prog 37 #[.slice a xs.length ca, .slice b ys.length cb] w fun e w' => e = .returned (.int .i64 (fst xs ys)) ∧ ∃ q, w' = w.drewN q := by
  cases xs with
  | nil =>
    cases ys with
    | nil => exact absurd ⟨rfl, rfl⟩ hne
    | cons y s => exact first_nl a b ca cb y s w hm ht
  | cons x r =>
    cases ys with
    | nil => exact first_ln a b ca cb x r w hl hs
    | cons y s => exact first_ll a b ca cb x y r s w hl hm hs ht

theorem cells_tail {w : World} {b off : Nat} {x : Int} {r : List Int} (h : Cells w b off (x :: r)) : Cells w b (off + 1) r := fun j hj => by
  have := h (j + 1) (by simp; omega)
  rw [show off + (j + 1) = off + 1 + j by omega] at this
  simpa using this

set_option maxHeartbeats 400000 in
theorem behind_nil (a : Option Addr) (cap : Nat) (n : Int) (w : World) :
    Calls Try.prog 38 #[.slice a 0 cap, .int .i64 n] w fun e w' => e = .returned (.slice a 0 cap) ∧ w' = w := by
  go_enter Try.func38, Try.ntmps38
  go_wp2
  go_ret
  exact ⟨rfl, rfl⟩

set_option maxHeartbeats 400000 in
theorem behind_no (b off cap len : Nat) (x n : Int) (w : World) (hp : 0 < len) (hl : len ≤ 9223372036854775807) (h0 : w.cell? ⟨b, off, none⟩ = some (.int .i64 x)) (hx : (x == n) = false) :
    Calls Try.prog 38 #[.slice (some ⟨b, off, none⟩) len cap, .int .i64 n] w fun e w' => e = .returned (.slice (some ⟨b, off, none⟩) len cap) ∧ w' = w := by
  have d : decide ((0 : Int) < (len : Int)) = true := by simp; omega
  go_enter Try.func38, Try.ntmps38
  go_wp2
  go_ret
  exact ⟨rfl, rfl⟩

set_option maxHeartbeats 400000 in
theorem behind_yes (b off cap len : Nat) (x n : Int) (w : World) (hp : 0 < len) (hcap : len ≤ cap) (hl : cap ≤ 9223372036854775807) (h0 : w.cell? ⟨b, off, none⟩ = some (.int .i64 x)) (hx : (x == n) = true) :
    Calls Try.prog 38 #[.slice (some ⟨b, off, none⟩) len cap, .int .i64 n] w fun e w' => (∃ o, e = .returned (.slice (some ⟨b, o, none⟩) (len - 1) (cap - 1)) ∧ (len = 1 ∨ o = off + 1)) ∧ w' = w := by
  have d : decide ((0 : Int) < (len : Int)) = true := by simp; omega
  go_enter Try.func38, Try.ntmps38
  go_wp2
  · have h : cap = 1 := by assumption
    subst h
    go_ret
    exact ⟨⟨off, rfl, .inl (by omega)⟩, rfl⟩
  · go_ret
    exact ⟨⟨off + 1, rfl, .inr rfl⟩, rfl⟩

theorem behind_any (a : Option Addr) (cap B : Nat) (xs : List Int) (n : Int) (w : World) (hs : AtB w B a xs) (hcap : xs.length ≤ cap) (hm : cap ≤ maxLen) :
    Calls Try.prog 38 #[.slice a xs.length cap, .int .i64 n] w fun e w' => (∃ a' cap', e = .returned (.slice a' (rem xs n).length cap') ∧ AtB w B a' (rem xs n) ∧ (rem xs n).length ≤ cap' ∧ cap' ≤ maxLen) ∧ w' = w := by
  rcases hs with rfl | ⟨b, off, rfl, hb, hc⟩
  · refine (behind_nil a cap n w).mono ?_
    rintro e w' ⟨rfl, rfl⟩
    exact ⟨⟨a, cap, rfl, .inl rfl, hcap, hm⟩, rfl⟩
  · cases xs with
    | nil =>
      refine (behind_nil _ cap n w).mono ?_
      rintro e w' ⟨rfl, rfl⟩
      exact ⟨⟨_, cap, rfl, .inl rfl, hcap, hm⟩, rfl⟩
    | cons x r =>
      have h0 := hc 0 (by simp)
      simp only [Nat.add_zero, List.getD_cons_zero] at h0
      by_cases hx : x = n
      · subst hx
        refine (behind_yes b off cap (x :: r).length x x w (by simp) hcap hm h0 (by simp)).mono ?_
        rintro e w' ⟨⟨o, rfl, ho⟩, rfl⟩
        rw [rem_hd]
        refine ⟨⟨some ⟨b, o, none⟩, cap - 1, rfl, ?_, by simp at hcap; omega, by omega⟩, rfl⟩
        rcases ho with h | h
        · exact .inl (List.eq_nil_of_length_eq_zero (by simpa using h))
        · subst h; exact .inr ⟨b, off + 1, rfl, hb, cells_tail hc⟩
      · refine (behind_no b off cap (x :: r).length x n w (by simp) (Nat.le_trans hcap hm) h0 (by simp [hx])).mono ?_
        rintro e w' ⟨rfl, rfl⟩
        rw [rem_ne r hx]
        exact ⟨⟨_, cap, rfl, .inr ⟨b, off, rfl, hb, hc⟩, hcap, hm⟩, rfl⟩

end Go.Proofs.Ytdnglodemkeooaa
namespace Go.Proofs.Ytdnglodemkeooaa
open Go.RowKit
set_option linter.unusedVariables false

/-- What a call leaves that hands back a slice of its own. -/
def GivesO (w : World) (xs : List Int) (e : Ending) (w' : World) : Prop := ∃ v, e = .returned v ∧ Own w' w.heap.size v xs ∧ Below w.heap.size w w'
theorem Own.at2 {w : World} {B : Nat} {v : Value} {xs : List Int} (h : Own w B v xs) : ∃ a cap, v = .slice a xs.length cap ∧ At w a xs ∧ xs.length ≤ cap ∧ cap ≤ maxLen ∧ (a = none → cap = 0) := by
  obtain ⟨a, cap, e, h1, -⟩ := h.at
  rcases h.2 with ⟨rfl, hn⟩ | ⟨g, cap', cur, rfl, hg, hh, hnc, hcm, hcs, ht⟩
  · have : xs = [] := List.eq_nil_of_length_eq_zero hn
    subst this
    exact ⟨none, 0, rfl, .inl rfl, Nat.le_refl _, Nat.zero_le _, fun _ => rfl⟩
  · cases e
    exact ⟨_, _, rfl, h1, hnc, hcm, fun h => by cases h⟩

end Go.Proofs.Ytdnglodemkeooaa
namespace Go.Proofs.Ytdnglodemkeooaa
open Go.RowKit
set_option linter.unusedVariables false

theorem Try.infoInts : (Try.prog.info? 22).map (fun i => (i.zero, i.size, i.bytes)) = some (some (.slice none 0 0), 1, 24) := by kernel_rfl

/-- A slice of slices reads as a list of lists. -/
def At2 (w : World) (a : Option Addr) (LL : List (List Int)) : Prop :=
  LL = [] ∨ ∃ b off, a = some ⟨b, off, none⟩ ∧ b < w.heap.size ∧ ∀ (k : Nat) (xs : List Int), LL[k]? = some xs → ∃ a' c', w.cell? ⟨b, off + k, none⟩ = some (.slice a' xs.length c') ∧ At w a' xs ∧ xs.length ≤ maxLen
theorem At2.below {w w' : World} {a : Option Addr} {LL : List (List Int)} {B : Nat} (h : At2 w a LL) (hb : Below B w w') (hB : w.heap.size ≤ B) : At2 w' a LL := by
  rcases h with h | ⟨b, off, rfl, hlt, hc⟩
  · exact .inl h
  · refine .inr ⟨b, off, rfl, Nat.lt_of_lt_of_le hlt hb.size, fun k xs hk => ?_⟩
    obtain ⟨a', c', h1, h2, h3⟩ := hc k xs hk
    exact ⟨a', c', (hb.cell (p := ⟨b, off + k, none⟩) (Nat.lt_of_lt_of_le hlt hB)).trans h1, h2.below hb hB, h3⟩
/-- An inner slice: it lies in a block of integers. -/
def InnB (w : World) (v : Value) (xs : List Int) : Prop := ∃ a c, v = .slice a xs.length c ∧ xs.length ≤ c ∧ c ≤ maxLen ∧ (xs = [] ∨ ∃ (g o : Nat) (cs : Array Value), a = some ⟨g, o, none⟩ ∧ w.heap[g]? = some (Obj.cells cs 3 (0, 0)) ∧ ∀ j, j < xs.length → cs[o + j]? = some (.int .i64 (xs.getD j 0)))
theorem InnB.kept {w w' : World} {v : Value} {xs : List Int} (h : InnB w v xs) (hk : ∀ (g : Nat) (cs : Array Value), w.heap[g]? = some (Obj.cells cs 3 (0, 0)) → w'.heap[g]? = w.heap[g]?) : InnB w' v xs := by
  obtain ⟨a, c, h1, h2, h3, h4⟩ := h
  refine ⟨a, c, h1, h2, h3, ?_⟩
  rcases h4 with h4 | ⟨k, o, cs, e, hh, hc⟩
  · exact .inl h4
  · exact .inr ⟨k, o, cs, e, (hk k cs hh).trans hh, hc⟩
theorem InnB.below {w w' : World} {v : Value} {xs : List Int} (h : InnB w v xs) (hb : Below w.heap.size w w') : InnB w' v xs :=
  h.kept fun g cs hg => hb.block g (Array.getElem?_eq_some_iff.1 hg).1
theorem InnB.at {w : World} {v : Value} {xs : List Int} (h : InnB w v xs) : ∃ a c, v = .slice a xs.length c ∧ At w a xs ∧ xs.length ≤ maxLen := by
  obtain ⟨a, c, h1, h2, h3, h4⟩ := h
  refine ⟨a, c, h1, ?_, Nat.le_trans h2 h3⟩
  rcases h4 with h4 | ⟨k, o, cs, e, hh, hc⟩
  · exact .inl h4
  · refine .inr ⟨k, o, e, (Array.getElem?_eq_some_iff.1 hh).1, fun j hj => ?_⟩
    simp [World.cell?, hh, hc j hj]

/-- The slice of slices v is in memory made from block B on, and holds LL. -/
def Own2 (w : World) (B : Nat) (v : Value) (LL : List (List Int)) : Prop := ∃ vs : List Value, w.ownsRow B 22 1 v LL.length vs ∧ ∀ (j : Nat) (x : Value) (xs : List Int), vs[j]? = some x → LL[j]? = some xs → InnB w x xs
theorem own2_nil (w : World) (B : Nat) : Own2 w B (.slice none 0 0) [] := ⟨[], World.ownsRow_nil _ _ _ _, fun j x xs h => by simp at h⟩
theorem Own2.at {w : World} {B : Nat} {v : Value} {LL : List (List Int)} (h : Own2 w B v LL) : ∃ a cap, v = .slice a LL.length cap ∧ At2 w a LL ∧ LL.length ≤ cap ∧ cap ≤ maxLen ∧ (a = none → cap = 0) := by
  obtain ⟨vs, ho, hi⟩ := h
  rcases ho.2 with ⟨rfl, hn⟩ | ⟨g, cap, cur, rfl, hg, hh, hnc, hcm, hcs, ht⟩
  · have : LL = [] := List.eq_nil_of_length_eq_zero hn
    subst this
    exact ⟨none, 0, rfl, .inl rfl, Nat.le_refl _, Nat.zero_le _, fun _ => rfl⟩
  · refine ⟨some ⟨g, 0, none⟩, cap, rfl, .inr ⟨g, 0, rfl, (Array.getElem?_eq_some_iff.1 hh).1, fun k xs hk => ?_⟩, hnc, hcm, fun h => by cases h⟩
    have hlt : k < vs.length := by rw [ho.1, Nat.mul_one]; exact (List.getElem?_eq_some_iff.1 hk).1
    have hx := List.getElem?_eq_getElem hlt
    obtain ⟨a, c, e, h1, h2⟩ := (hi k _ xs hx hk).at
    have hc := ho.cells (g := g) rfl k _ hx
    rw [show (⟨g, 0, none⟩ : Addr).add k = ⟨g, 0 + k, none⟩ from by unfold Addr.add; split <;> simp_all, e] at hc
    exact ⟨a, c, hc, h1, h2⟩
theorem Own2.below {w w' : World} {B : Nat} {v : Value} {LL : List (List Int)} (h : Own2 w B v LL) (hb : Below w.heap.size w w') : Own2 w' B v LL := by
  obtain ⟨vs, ho, hi⟩ := h
  refine ⟨vs, ⟨ho.1, ?_⟩, fun j x xs h1 h2 => (hi j x xs h1 h2).below hb⟩
  rcases ho.2 with hn | ⟨g, cap, cur, rfl, hg, hgg, rest⟩
  · exact .inl hn
  · exact .inr ⟨g, cap, cur, rfl, hg, (hb.block g (Array.getElem?_eq_some_iff.1 hgg).1).trans hgg, rest⟩
theorem Own2.lt {w : World} {B : Nat} {v : Value} {LL : List (List Int)} (h : Own2 w B v LL) : ∀ k, v.ownBlock = some k → B ≤ k := fun k hk => by
  obtain ⟨vs, ho, -⟩ := h
  exact (ho.lt k hk).1
/-- A block that is not of slices is none of its own. -/
theorem Own2.apart {w : World} {B : Nat} {v : Value} {LL : List (List Int)} (h : Own2 w B v LL) {g : Nat} {t : TypeId} {cs : Array Value} (hg : w.heap[g]? = some (.cells cs t (0, 0))) (ht : t ≠ 22) : some g ≠ v.ownBlock := by
  intro e
  obtain ⟨vs, ho, -⟩ := h
  rcases ho.2 with ⟨rfl, hn⟩ | ⟨g', cap, cur, rfl, hg', hh, rest⟩
  · cases e
  · have : g = g' := Option.some.inj e
    subst this
    rw [hg] at hh
    cases hh
    exact ht rfl

/-- One row more: behind an append onto the call's own row. -/
theorem Own2.snoc {w w' : World} {B : Nat} {v v' x : Value} {LL : List (List Int)} {xs : List Int} {vs : List Value} (hown : w.ownsRow B 22 1 v LL.length vs) (hi : ∀ (j : Nat) (x : Value) (xs : List Int), vs[j]? = some x → LL[j]? = some xs → InnB w x xs) (hx : InnB w x xs)
    (hown' : w'.ownsRow B 22 1 v' (LL.length + 1) (vs ++ [x])) (hg : w.grownBy w' v.ownBlock) : Own2 w' B v' (LL ++ [xs]) := by
  have hl : vs.length = LL.length := by have := hown.1; omega
  have h2 : Own2 w B v LL := ⟨vs, hown, hi⟩
  have hk : ∀ (g : Nat) (cs : Array Value), w.heap[g]? = some (Obj.cells cs 3 (0, 0)) → w'.heap[g]? = w.heap[g]? := fun g cs hh => hg.block g (Array.getElem?_eq_some_iff.1 hh).1 (h2.apart hh (by decide))
  refine ⟨vs ++ [x], by rw [List.length_append]; exact hown', fun j y ys h1 h2 => ?_⟩
  by_cases hj : j < LL.length
  · rw [List.getElem?_append_left (by omega)] at h1
    rw [List.getElem?_append_left hj] at h2
    exact (hi j y ys h1 h2).kept hk
  · have hj2 : j < (LL ++ [xs]).length := (List.getElem?_eq_some_iff.1 h2).1
    have : j = LL.length := by simp at hj2; omega
    subst this
    rw [List.getElem?_append_right (by omega)] at h1 h2
    rw [hl] at h1
    simp at h1 h2
    subst h1; subst h2
    exact hx.kept hk
theorem innB_new (W : World) (x y : Int) : InnB (W.alloc (.cells #[.int .i64 x, .int .i64 y] 3)) (.slice (some ⟨W.heap.size, 0, none⟩) 2 2) [x, y] := by
  refine ⟨_, 2, rfl, Nat.le_refl _, by decide, .inr ⟨W.heap.size, 0, _, rfl, World.alloc_heap_new W _, fun j hj => ?_⟩⟩
  have : j = 0 ∨ j = 1 := by simp at hj; omega
  rcases this with rfl | rfl <;> rfl

/-- Pairs, as rows of two. -/
def prs (L : List (Int × Int)) : List (List Int) := L.map fun p => [p.1, p.2]
theorem prs_len (L : List (Int × Int)) : (prs L).length = L.length := by simp [prs]
theorem prs_snoc (L : List (Int × Int)) (p : Int × Int) : prs (L ++ [p]) = prs L ++ [[p.1, p.2]] := by simp [prs]
theorem At2.pair {w : World} {a : Option Addr} {L : List (Int × Int)} (h : At2 w a (prs L)) {k : Nat} (hk : k < L.length) :
    ∃ b off, a = some ⟨b, off, none⟩ ∧ b < w.heap.size ∧ ∀ k, k < L.length → ∃ p g o c, Hid (L[k]? = some p) ∧ g < w.heap.size ∧ w.cell? ⟨b, off + k, none⟩ = some (.slice (some ⟨g, o, none⟩) 2 c) ∧ w.cell? ⟨g, o, none⟩ = some (.int .i64 p.1) ∧ w.cell? ⟨g, o + 1, none⟩ = some (.int .i64 p.2) := by
  rcases h with h | ⟨b, off, rfl, hlt, hc⟩
  · have := prs_len L; rw [h] at this; simp at this; omega
  · refine ⟨b, off, rfl, hlt, fun k hk => ?_⟩
    obtain ⟨p, hp⟩ : ∃ p, L[k]? = some p := ⟨_, List.getElem?_eq_getElem hk⟩
    obtain ⟨a', c', h1, h2, h3⟩ := hc k [p.1, p.2] (by simp [prs, hp])
    rcases h2 with h2 | ⟨g, o, rfl, hg, hcc⟩
    · cases h2
    · exact ⟨p, g, o, c', hp, hg, h1, hcc 0 (by simp), hcc 1 (by simp)⟩

end Go.Proofs.Ytdnglodemkeooaa
namespace Go.Proofs.Ytdnglodemkeooaa
open Go.RowKit
set_option linter.unusedVariables false

section
variable {P : Program} (w : World)
theorem run_append_block (base : Nat) (t ty e : TypeId) (i : TypeInfo) (z : Value) (size bytes : Nat) (ht : P.underlying t = some (.slice e)) (hi : P.info? e = some i) (hz : i.zero = some z)
    (hsize : i.size = size) (hby : i.bytes = bytes) (hzs : z.cells.size = size) (hsz : 0 < size)
    (v : Value) (n : Nat) (xs : List Value) (hown : w.ownsRow base e size v n xs)
    (a : Addr) (m c : Nat) (news : List Value) (hl : news.length = m * size) (hnews : ∀ j u, news[j]? = some u → w.cell? (a.add j) = some u) (h1 : ∀ u ∈ news, u.oneCell' = true)
    (hm : 0 < m) (h63 : n + m ≤ maxLen) (hbytes : (n + m) * bytes ≤ 140737488355328) (hbase : base ≤ w.heap.size) :
    ∃ v' w', (Builtin.append_ #[t, t] ty #[v, .slice (some a) m c]).run P w = .ok v' w' ∧ w'.ownsRow base e size v' (n + m) (xs ++ news) ∧ w.grownBy w' v.ownBlock ∧ (v'.ownBlock = v.ownBlock ∨ v'.ownBlock = some w.heap.size) := by
  obtain ⟨v', w', hrun, h2, h3, -⟩ := run_append_own (P := P) w base t ty e i z size bytes ht hi hz hsize hby hzs hsz v n xs hown a m c news hl hnews h1 h63 hbytes hbase
  refine ⟨v', w', hrun, h2, h3, ?_⟩
  have h9 : n + m ≤ 9223372036854775807 := by simp only [maxLen] at h63; omega
  subst hsize
  subst hby
  rcases hown.2 with ⟨rfl, rfl⟩ | ⟨g, cap, cur, rfl, hbg, hg, hnc, hcm, hcs, htake⟩
  · have hr := run_append_nil (P := P) w t ty e i z ht hi hz a m c news hl hnews hm (by omega) (by have hb := hbytes; simp only [Nat.zero_add] at hb; omega)
    rw [hrun] at hr
    injection hr with e1 e2
    right; rw [e1]; rfl
  · by_cases hroom : n + m ≤ cap
    · have hr := run_append_room (P := P) w t ty e i ht hi g n cap cur hg a m c news hl hnews h1 hroom (by rw [hl, hcs, ← Nat.add_mul]; exact Nat.mul_le_mul_right _ hroom)
      rw [hrun] at hr
      injection hr with e1 e2
      left; rw [e1]; rfl
    · have hr := run_append_grow (P := P) w t ty e i z ht hi hz ⟨g, 0, none⟩ n cap xs hown.1 (hown.cells (g := g) rfl) a m c news hl hnews (by omega) (by omega) (growslice_fits (by omega) hbytes)
      rw [hrun] at hr
      injection hr with e1 e2
      right; rw [e1]; rfl

theorem wpList_append_block {ops : Array Oper} {rest : List Oper} {o : Oper} {a : Act} {Q : Exit → Act → World → Prop} (hgd : o.guard = none) (s x : Operand) (t : TypeId)
    (ho : o.op = .call { callee := .builtin .append, args := #[s, x], argTypes := #[t, t] })
    (base : Nat) (e : TypeId) (i : TypeInfo) (z : Value) (size bytes : Nat) (ht : P.underlying t = some (.slice e)) (hi : P.info? e = some i) (hz : i.zero = some z)
    (hsize : i.size = size) (hby : i.bytes = bytes) (hzs : z.cells.size = size) (hsz : 0 < size)
    (v : Value) (n : Nat) (xs : List Value) (hs : a.eval s = v) (hown : w.ownsRow base e size v n xs)
    (ad : Addr) (m c : Nat) (news : List Value) (hx : a.eval x = .slice (some ad) m c) (hl : news.length = m * size) (hnews : ∀ j u, news[j]? = some u → w.cell? (ad.add j) = some u) (h1 : ∀ u ∈ news, u.oneCell' = true)
    (hm : 0 < m) (h63 : n + m ≤ maxLen) (hbytes : (n + m) * bytes ≤ 140737488355328) (hbase : base ≤ w.heap.size)
    (h : ∀ v' w', w'.ownsRow base e size v' (n + m) (xs ++ news) → w.grownBy w' v.ownBlock → (v'.ownBlock = v.ownBlock ∨ v'.ownBlock = some w.heap.size) → wpList P ops Q rest (a.put o.dst v') w') : wpList P ops Q (o :: rest) a w := by
  obtain ⟨v', w', hr, h2, h3, h4⟩ := run_append_block (P := P) w base t o.type e i z size bytes ht hi hz hsize hby hzs hsz v n xs hown ad m c news hl hnews h1 hm h63 hbytes hbase
  refine wpList_plain hgd fun _ hK => ?_
  unfold Oper.wp execOp
  simp only [ho, resolve, invoke, builtin, Sem.run_bind, Sem.run_pure, Result.andThen_ok, List.map_toArray, List.map_cons, List.map_nil, hs, hx, hr]
  exact hK _ _ (h v' w' h2 h3 h4)
end

section
variable {P : Program} {ops : Array Oper} {o : Oper} {a : Act} {w : World} {K : Act → World → Prop} {Q : Exit → Act → World → Prop} {E : Prop}
/-- The same, as one step of a region that draws. -/
theorem step_append_block (hg : o.guard = none) (s x : Operand) (t : TypeId) (hop : o.op = Op.call { callee := Callee.builtin Builtin.append, args := #[s, x], argTypes := #[t, t] })
    (base : Nat) (e : TypeId) (i : TypeInfo) (z : Value) (size bytes : Nat) (h1 : P.underlying t = some (.slice e)) (h2 : P.info? e = some i) (h3 : i.zero = some z) (h4 : i.size = size) (h5 : i.bytes = bytes) (h6 : z.cells.size = size) (h7 : 0 < size)
    (v : Value) (n : Nat) (xs : List Value) (hs : a.eval s = v) (hown : w.ownsRow base e size v n xs)
    (ad : Addr) (m c : Nat) (news : List Value) (hx : a.eval x = .slice (some ad) m c) (hn : news.length = m * size) (hc : ∀ j u, news[j]? = some u → w.cell? (ad.add j) = some u) (h1c : ∀ u ∈ news, u.oneCell' = true)
    (hm : 0 < m) (b1 : n + m ≤ maxLen) (b2 : (n + m) * bytes ≤ 140737488355328) (hbase : base ≤ w.heap.size)
    (hK : ∀ v' w', w'.ownsRow base e size v' (n + m) (xs ++ news) → w.grownBy w' v.ownBlock → (v'.ownBlock = v.ownBlock ∨ v'.ownBlock = some w.heap.size) → K (a.put o.dst v') w') :
    if Region.wanted o (yielded ops a.tmps) = true then Oper.wp P o a w K Q else E := by
  have hw : Region.wanted o (yielded ops a.tmps) = true := by simp [Region.wanted, hg]
  rw [if_pos hw]
  obtain ⟨v', w', hrun, r1, r2, r3⟩ := run_append_block (P := P) w base t o.type e i z size bytes h1 h2 h3 h4 h5 h6 h7 v n xs hown ad m c news hn hc h1c hm b1 b2 hbase
  unfold Oper.wp
  simp [execOp, hop, resolve, invoke, builtin, hs, hx, hrun, Result.andThen]
  exact hK v' w' r1 r2 r3
end

end Go.Proofs.Ytdnglodemkeooaa
