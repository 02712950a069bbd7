/-
  The walks of row.finder and of the closure that it answers (row.finder$1): a list gone through once for rising numbers.
-/
import Derived.Test.YtfjkdlhnieiibaaOwn
import Derived.Laws.EntriesVeiled
namespace Go.Proofs.Ytfjkdlhnieiibaa
open Go.RowKit
set_option linter.unusedVariables false

/-- Of the blocks of which K holds each is as it was. -/
structure Kept (K : Nat → Prop) (w w' : World) : Prop where
  os : w'.os = w.os
  tape : w'.tape = w.tape
  output : w'.output = w.output
  size : w.heap.size ≤ w'.heap.size
  block : ∀ k, K k → w'.heap[k]? = w.heap[k]?

theorem Kept.refl (K : Nat → Prop) (w : World) : Kept K w w := ⟨rfl, rfl, rfl, Nat.le_refl _, fun _ _ => rfl⟩
theorem Kept.trans {K : Nat → Prop} {a b c : World} (h : Kept K a b) (k : Kept K b c) : Kept K a c :=
  ⟨k.os.trans h.os, k.tape.trans h.tape, k.output.trans h.output, Nat.le_trans h.size k.size, fun i hi => (k.block i hi).trans (h.block i hi)⟩
theorem Kept.mono {K K' : Nat → Prop} {w w' : World} (h : Kept K w w') (hB : ∀ k, K' k → K k) : Kept K' w w' := ⟨h.os, h.tape, h.output, h.size, fun k hk => h.block k (hB k hk)⟩
theorem Kept.cell {K : Nat → Prop} {w w' : World} (h : Kept K w w') {p : Addr} (hp : K p.block) : w'.cell? p = w.cell? p := World.cell?_of_block (w := w) (h.block p.block hp)
theorem Kept.frozen {K : Nat → Prop} {w w' : World} (h : Kept K w w') {p : Addr} (hp : K p.block) : w'.frozen? p = w.frozen? p := World.frozen?_of_block (w := w) (h.block p.block hp)
theorem Kept.setCell {K : Nat → Prop} {a w : World} (h : Kept K a w) {p : Addr} (hp : ¬ K p.block) (u : Value) : Kept K a (w.setCell p u) :=
  h.trans ⟨rfl, rfl, rfl, by simp [World.setCell], fun k hk => Below.heap_setCell _ _ _ _ (fun e => hp (e ▸ hk))⟩
theorem Kept.below {K : Nat → Prop} {w w' : World} (h : Kept K w w') {B : Nat} (hB : ∀ k, k < B → K k) : Below B w w' := ⟨h.os, h.tape, h.output, h.size, fun k hk => h.block k (hB k hk)⟩

/-- The slice 'a' of block number less than B reads as xs. -/
def AtB (w : World) (B : Nat) (a : Option Addr) (xs : List Int) : Prop := xs = [] ∨ ∃ b off, a = some ⟨b, off, none⟩ ∧ b < B ∧ Cells w b off xs

theorem AtB.kept {w w' : World} {B : Nat} {a : Option Addr} {xs : List Int} {K : Nat → Prop} (h : AtB w B a xs) (hk : Kept K w w') (hB : ∀ k, k < B → K k) : AtB w' B a xs := by
  rcases h with h | ⟨b, off, rfl, hlt, hc⟩
  · exact .inl h
  · exact .inr ⟨b, off, rfl, hlt, fun j hj => by rw [hk.cell (p := ⟨b, off + j, none⟩) (hB b hlt)]; exact hc j hj⟩

/-- What the call knows of a finder: the place where it stands (all ahead of it is below n), and its list. -/
structure FI (w : World) (B pa pl : Nat) (a : Option Addr) (cap : Nat) (xs : List Int) (n : Int) (k : Nat) : Prop where
  le : k ≤ xs.length
  low : ∀ j, j < k → xs[j]?.getD 0 < n
  cur : w.cell? ⟨pa, 0, none⟩ = some (.int .i64 k)
  free : w.frozen? ⟨pa, 0, none⟩ = false
  lst : w.cell? ⟨pl, 0, none⟩ = some (.slice a xs.length cap)
  ne : pa ≠ pl
  ba : B ≤ pa
  bl : B ≤ pl
  row : AtB w B a xs
  small : xs.length ≤ 9223372036854775807

theorem FI.step {w : World} {B pa pl : Nat} {a : Option Addr} {cap : Nat} {xs : List Int} {n : Int} {k : Nat} (h : FI w B pa pl a cap xs n k) (hlt : k < xs.length) (hx : xs[k]?.getD 0 < n) :
    FI (w.setCell ⟨pa, 0, none⟩ (.int .i64 ((k : Int) + 1))) B pa pl a cap xs n (k + 1) where
  le := hlt
  low := fun j hj => by
    by_cases e : j = k
    · subst e; exact hx
    · exact h.low j (by omega)
  cur := by rw [World.cell?_setCell_same _ _ _ h.cur]; simp
  free := (World.frozen?_setCell _ _ _ _).trans h.free
  lst := (World.cell?_setCell_other _ _ _ _ (by simp; intro e; exact (h.ne e).elim)).trans h.lst
  ne := h.ne
  ba := h.ba
  bl := h.bl
  row := h.row.kept (K := fun k => k < B) ((Kept.refl _ _).setCell (by have := h.ba; show ¬ pa < B; omega) _) (fun _ h => h)
  small := h.small

theorem FI.mono {w : World} {B pa pl : Nat} {a : Option Addr} {cap : Nat} {xs : List Int} {n m : Int} {k : Nat} (h : FI w B pa pl a cap xs n k) (hm : n ≤ m) : FI w B pa pl a cap xs m k :=
  ⟨h.le, fun j hj => by have := h.low j hj; omega, h.cur, h.free, h.lst, h.ne, h.ba, h.bl, h.row, h.small⟩

theorem FI.kept {w w' : World} {B pa pl : Nat} {a : Option Addr} {cap : Nat} {xs : List Int} {n : Int} {k : Nat} {K : Nat → Prop} (h : FI w B pa pl a cap xs n k) (hk : Kept K w w') (h1 : K pa) (h2 : K pl) (hB : ∀ k, k < B → K k) : FI w' B pa pl a cap xs n k :=
  ⟨h.le, h.low, (hk.cell (p := ⟨pa, 0, none⟩) h1).trans h.cur, (hk.frozen (p := ⟨pa, 0, none⟩) h1).trans h.free, (hk.cell (p := ⟨pl, 0, none⟩) h2).trans h.lst, h.ne, h.ba, h.bl, h.row.kept hk hB, h.small⟩

/-- Where a finder stands. -/
def atOf (p : Nat) (w : World) : Nat := (intOf ((w.cell? ⟨p, 0, none⟩).getD (.int .i64 0))).toNat

theorem FI.atOf {w : World} {B pa pl : Nat} {a : Option Addr} {cap : Nat} {xs : List Int} {n : Int} {k : Nat} (h : FI w B pa pl a cap xs n k) : atOf pa w = k := by
  unfold Ytfjkdlhnieiibaa.atOf; rw [h.cur]; simp [intOf]

theorem find_yes {xs : List Int} {k : Nat} {n x : Int} (h : k < xs.length) (hx : Hid (x = xs[k]?.getD 0)) (e : x = n) : true = hasB xs n := by
  have hx := hx.out
  rw [List.getElem?_eq_getElem h, Option.getD_some] at hx
  simp only [hasB]
  rw [eq_comm, List.contains_iff_mem, ← e, hx]
  exact List.getElem_mem h
theorem find_no {xs : List Int} {k : Nat} {n x : Int} (hi : Inc xs) (h : k < xs.length) (hx : Hid (x = xs[k]?.getD 0)) (e : n < x) (low : ∀ j, j < k → xs[j]?.getD 0 < n) : false = hasB xs n := by
  have hx := hx.out
  rw [List.getElem?_eq_getElem h, Option.getD_some] at hx
  simp only [hasB]
  rw [eq_comm, ← Bool.not_eq_true, List.contains_iff_mem]
  intro m
  obtain ⟨j, hj, hjn⟩ := List.getElem_of_mem m
  by_cases c : j < k
  · have := low j c; rw [List.getElem?_eq_getElem hj, Option.getD_some] at this; omega
  · by_cases c' : j = k
    · subst c'; omega
    · have := (List.pairwise_iff_getElem.1 hi) k j h hj (by omega); omega
theorem find_out {xs : List Int} {k : Nat} {n : Int} (h : ¬ k < xs.length) (low : ∀ j, j < k → xs[j]?.getD 0 < n) : false = hasB xs n := by
  simp only [hasB]
  rw [eq_comm, ← Bool.not_eq_true, List.contains_iff_mem]
  intro m
  obtain ⟨j, hj, hjn⟩ := List.getElem_of_mem m
  have := low j (by omega); rw [List.getElem?_eq_getElem hj, Option.getD_some] at this; omega

set_option maxHeartbeats 1000000 in
theorem find_any (w : World) (B pa pl : Nat) (a : Option Addr) (cap : Nat) (xs : List Int) (n : Int) (k0 : Nat) (hi : Inc xs) (hf : FI w B pa pl a cap xs n k0) :
    Calls Try.prog 25 #[.int .i64 n, .pointer (some ⟨pa, 0, none⟩), .pointer (some ⟨pl, 0, none⟩)] w fun e w' => e = .returned (.bool (hasB xs n)) ∧ (∃ k, FI w' B pa pl a cap xs n k) ∧ Kept (fun k => k ≠ pa) w w' := by
  have HI : Hid (Inc xs) := hi
  have hsm := hf.small
  clear hi
  go_enter Try.func25, Try.ntmps25
  go_wp2
  go_loopw [] (fun wr => ∃ k, FI wr B pa pl a cap xs n k ∧ Kept (fun k => k ≠ pa) w wr) (fun wr => xs.length - atOf pa wr)
  case atStart => exact ⟨k0, hf, Kept.refl _ _⟩
  case round =>
    obtain ⟨k, hk, hkept⟩ := hrel
    have hcur := hk.cur
    have hlst := hk.lst
    have hfree := hk.free
    have hle := hk.le
    by_cases hlt : k < xs.length
    · rcases hk.row with h0 | ⟨b, off, rfl, hb, hc⟩
      · subst h0; simp at hlt
      · obtain ⟨x, HX, hcx⟩ := hc.at hlt
        by_cases c1 : x < n
        · have hst := hk.step hlt (by have := HX.out; omega)
          have hme := hst.atOf
          have hme0 := hk.atOf
          have hkp := hkept.setCell (p := ⟨pa, 0, none⟩) (by simp) (.int .i64 ((k : Int) + 1))
          have H1 : Hid (atOf pa (wr.setCell ⟨pa, 0, none⟩ (.int .i64 ((k : Int) + 1))) = k + 1) := hme
          have H0 : Hid (atOf pa wr = k) := hme0
          clear hme hme0
          go_wp2
          go_roundw
          case rel => exact ⟨k + 1, hst, hkp⟩
          case measure => rw [H1.out, H0.out]; omega
        · by_cases c2 : x = n
          · have HE : Hid (x = n) := c2
            have d : (x == n) = true := by simp [c2]
            clear c2
            go_wp2
            go_ret
            exact ⟨ret_bool (find_yes hlt HX HE.out), ⟨k, hk⟩, hkept⟩
          · have d : (x == n) = false := by simp [c2]
            go_wp2
            go_ret
            exact ⟨ret_bool (find_no HI.out hlt HX (by omega) hk.low), ⟨k, hk⟩, hkept⟩
    · go_wp2
      go_ret
      exact ⟨ret_bool (find_out hlt hk.low), ⟨k, hk⟩, hkept⟩

theorem At.atB {w : World} {a : Option Addr} {xs : List Int} (h : At w a xs) : AtB w w.heap.size a xs := h

theorem kept_alloc (w : World) (o : Obj) {K : Nat → Prop} (hK : ∀ k, K k → k < w.heap.size) : Kept K w (w.alloc o) := ⟨rfl, rfl, rfl, by simp, fun k hk => Below.heap_alloc _ _ _ (hK k hk)⟩

theorem fi_new (w : World) (B : Nat) (a : Option Addr) (cap : Nat) (xs : List Int) (n : Int) (hs : AtB w B a xs) (hB : B ≤ w.heap.size) (hl : xs.length ≤ maxLen) :
    FI ((w.alloc (.cells #[.slice a xs.length cap] 22)).alloc (.cells #[.int .i64 0] 3)) B (w.heap.size + 1) w.heap.size a cap xs n 0 where
  le := Nat.zero_le _
  low := fun j hj => by omega
  cur := by rw [World.cell?_alloc_at _ _ _ _ (by simp)]; rfl
  free := World.frozen?_alloc_at _ _ _ _ (by simp)
  lst := by rw [World.cell?_alloc_past _ _ _ (by simp), World.cell?_alloc_at _ _ _ _ rfl]; rfl
  ne := by omega
  ba := by omega
  bl := hB
  row := (hs.kept (kept_alloc w _ (K := fun k => k < w.heap.size) (fun _ h => h)) (fun k h => by omega)).kept (kept_alloc _ _ (K := fun k => k < w.heap.size + 1) (fun k h => by simpa using h)) (fun k h => by omega)
  small := hl

set_option maxHeartbeats 400000 in
theorem finder_any (a : Option Addr) (cap : Nat) (xs : List Int) (w : World) :
    Calls Try.prog 18 #[.slice a xs.length cap] w fun e w' => e = .returned (.func (.func 25) #[] #[.pointer (some ⟨w.heap.size + 1, 0, none⟩), .pointer (some ⟨w.heap.size, 0, none⟩)]) ∧ (w.alloc (.cells #[.slice a xs.length cap] 22)).alloc (.cells #[.int .i64 0] 3) = w' := by
  have hmf : ∀ (fn : Fn) (first cap : Array Value) (w : World), (Instr.makeFunc fn first cap).run Try.prog w = .ok (.func fn first cap) w := fun _ _ _ _ => rfl
  go_enter Try.func18, Try.ntmps18
  go_wp2
  go_ret
  exact ⟨rfl, rfl⟩

/-- What is known of the two finders that Join, Meet and Less lay: from block B on: the first list, its place; the second list, its place; the two variables that hold them. -/
structure PI (w : World) (B : Nat) (a1 : Option Addr) (c1 : Nat) (xs : List Int) (a2 : Option Addr) (c2 : Nat) (ys : List Int) (n : Int) : Prop where
  f1 : ∃ k, FI w B (B + 1) B a1 c1 xs n k
  f2 : ∃ k, FI w B (B + 3) (B + 2) a2 c2 ys n k
  qa : w.cell? ⟨B + 4, 0, none⟩ = some (.func (.func 25) #[] #[.pointer (some ⟨B + 1, 0, none⟩), .pointer (some ⟨B, 0, none⟩)])
  qb : w.cell? ⟨B + 5, 0, none⟩ = some (.func (.func 25) #[] #[.pointer (some ⟨B + 3, 0, none⟩), .pointer (some ⟨B + 2, 0, none⟩)])

theorem PI.mono {w : World} {B : Nat} {a1 : Option Addr} {c1 : Nat} {xs : List Int} {a2 : Option Addr} {c2 : Nat} {ys : List Int} {n m : Int} (h : PI w B a1 c1 xs a2 c2 ys n) (hm : n ≤ m) : PI w B a1 c1 xs a2 c2 ys m :=
  ⟨h.f1.imp fun _ h => h.mono hm, h.f2.imp fun _ h => h.mono hm, h.qa, h.qb⟩

theorem PI.kept {w w' : World} {B : Nat} {a1 : Option Addr} {c1 : Nat} {xs : List Int} {a2 : Option Addr} {c2 : Nat} {ys : List Int} {n : Int} (h : PI w B a1 c1 xs a2 c2 ys n) (hk : Kept (fun k => k < B + 6) w w') : PI w' B a1 c1 xs a2 c2 ys n := by
  obtain ⟨k1, h1⟩ := h.f1
  obtain ⟨k2, h2⟩ := h.f2
  exact ⟨⟨k1, h1.kept hk (by omega) (by omega) (fun k h => by omega)⟩, ⟨k2, h2.kept hk (by omega) (by omega) (fun k h => by omega)⟩, (hk.cell (p := ⟨B + 4, 0, none⟩) (by show B + 4 < B + 6; omega)).trans h.qa, (hk.cell (p := ⟨B + 5, 0, none⟩) (by show B + 5 < B + 6; omega)).trans h.qb⟩

theorem PI.first {w w' : World} {B : Nat} {a1 : Option Addr} {c1 : Nat} {xs : List Int} {a2 : Option Addr} {c2 : Nat} {ys : List Int} {n : Int} (h : PI w B a1 c1 xs a2 c2 ys n) (h1 : ∃ k, FI w' B (B + 1) B a1 c1 xs n k) (hk : Kept (fun k => k ≠ B + 1) w w') : PI w' B a1 c1 xs a2 c2 ys n := by
  obtain ⟨k2, h2⟩ := h.f2
  exact ⟨h1, ⟨k2, h2.kept hk (by omega) (by omega) (fun k h => by omega)⟩, (hk.cell (p := ⟨B + 4, 0, none⟩) (by show B + 4 ≠ B + 1; omega)).trans h.qa, (hk.cell (p := ⟨B + 5, 0, none⟩) (by show B + 5 ≠ B + 1; omega)).trans h.qb⟩

theorem PI.second {w w' : World} {B : Nat} {a1 : Option Addr} {c1 : Nat} {xs : List Int} {a2 : Option Addr} {c2 : Nat} {ys : List Int} {n : Int} (h : PI w B a1 c1 xs a2 c2 ys n) (h2 : ∃ k, FI w' B (B + 3) (B + 2) a2 c2 ys n k) (hk : Kept (fun k => k ≠ B + 3) w w') : PI w' B a1 c1 xs a2 c2 ys n := by
  obtain ⟨k1, h1⟩ := h.f1
  exact ⟨⟨k1, h1.kept hk (by omega) (by omega) (fun k h => by omega)⟩, h2, (hk.cell (p := ⟨B + 4, 0, none⟩) (by show B + 4 ≠ B + 3; omega)).trans h.qa, (hk.cell (p := ⟨B + 5, 0, none⟩) (by show B + 5 ≠ B + 3; omega)).trans h.qb⟩

end Go.Proofs.Ytfjkdlhnieiibaa
