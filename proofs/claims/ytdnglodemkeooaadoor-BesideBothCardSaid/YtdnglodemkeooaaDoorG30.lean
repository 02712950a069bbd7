/-
  The walk of beside.refuse.
  The walks of row.finder and of the closure that it answers (row.finder$1): a list gone through once for rising numbers.
  The walks of row.first and row.behind, and the plain facts on them: the least number of two rows, and what is left of a row behind it.
  The walk of jalousiekeep.has: whether a list has a number.
  slices.SortFunc as it lies in this program: the kit's laying.
  Plain mathematics of machines beside one another: pairs as they are found, arrows between them. No program, no model.
-/
import Derived.Test.YtdnglodemkeooaaDoorG07
import Derived.Test.YtdnglodemkeooaaDoorG05
import Derived.Test.YtdnglodemkeooaaDoorCTrimBase
import Derived.Laws.EntriesVeiled
import Derived.Test.YtdnglodemkeooaaDoorG04
import Derived.Test.YtdnglodemkeooaaDoorG03
import Derived.Test.YtdnglodemkeooaaDoorProg
import Derived.Shelf.SlSortCmp.WholeK
import Derived.Shelf.SlSortCmp.NoneTotal
import Derived.Test.YtdnglodemkeooaaDoorG11
namespace Go.Proofs.YtdnglodemkeooaaDoor
open Go.RowKit
set_option linter.unusedVariables false

/-- What is wrong, but for the size. -/
def refC (a b : Mach) (ofA ofB : List Int) : Int :=
  if mayB a = false ∨ mayB b = false then 2 else if ¬ a.ev = b.ev then 3 else if rowB a.ev ofA = false ∨ rowB a.ev ofB = false then 2 else 0

theorem refC_a {a b : Mach} {ofA ofB : List Int} (h : mayB a = false) : 2 = refC a b ofA ofB := by unfold refC; rw [if_pos (.inl h)]
theorem refC_b {a b : Mach} {ofA ofB : List Int} (h : mayB b = false) : 2 = refC a b ofA ofB := by unfold refC; rw [if_pos (.inr h)]
theorem refC_k {a b : Mach} {ofA ofB : List Int} (h1 : mayB a = true) (h2 : mayB b = true) (h : ¬ a.ev = b.ev) : 3 = refC a b ofA ofB := by unfold refC; rw [if_neg (by simp [h1, h2]), if_pos h]
theorem refC_r {a b : Mach} {ofA ofB : List Int} (h1 : mayB a = true) (h2 : mayB b = true) (h : a.ev = b.ev) : refC a b ofA ofB = if rowB a.ev ofA = false ∨ rowB a.ev ofB = false then 2 else 0 := by unfold refC; rw [if_neg (by simp [h1, h2]), if_neg (by simp [h])]

set_option maxRecDepth 100000 in
set_option maxHeartbeats 4000000 in
theorem refuse_any (a b : Mach) (la lb : ML) (fa ga : Option Addr) (fc gc : Nat) (ofA ofB : List Int) (w : World) (ha : Hid (MAt w a la)) (hb : Hid (MAt w b lb)) (hA : Hid (At w fa ofA)) (lA : Hid (ofA.length ≤ maxLen)) (hB : Hid (At w ga ofB)) (lB : Hid (ofB.length ≤ maxLen)) :
    Calls Tryd.prog 65 #[mval a la, mval b lb, .slice fa ofA.length fc, .slice ga ofB.length gc] w fun e w' => e = .returned (.int .i64 (refC a b ofA ofB)) ∧ Below w.heap.size w w' := by
  have B0 : Hid (Below w.heap.size w ((w.alloc (.cells (mcells a la) 25)).alloc (.cells (mcells b lb) 25))) := ((Below.refl _ _).alloc (Nat.le_refl _) _).alloc (by simp) _
  have KA0 : Hid (Blk ((w.alloc (.cells (mcells a la) 25)).alloc (.cells (mcells b lb) 25)) w.heap.size 25 (mcells a la)) := (Blk.new w _ _).alloc _
  have KB0 : Hid (Blk ((w.alloc (.cells (mcells a la) 25)).alloc (.cells (mcells b lb) 25)) (w.heap.size + 1) 25 (mcells b lb)) := by
    have := Blk.new (w.alloc (.cells (mcells a la) 25)) 25 (mcells b lb)
    rwa [World.size_alloc] at this
  go_enter Tryd.func65, Tryd.ntmps65
  go_wp2_with fail
  revert B0 KA0 KB0
  generalize (w.alloc (.cells (mcells a la) 25)).alloc (.cells (mcells b lb) 25) = V0
  intro B0 KA0 KB0
  refine (pMay_any a la _ (ha.out.below B0.out (Nat.le_refl _))).mono ?_
  rintro e V1 ⟨rfl, hb1⟩
  have B1 := Hid.of (B0.out.trans (hb1.mono B0.out.size))
  have KA1 := Hid.of (KA0.out.below hb1 KA0.out.lt)
  have KB1 := Hid.of (KB0.out.below hb1 KB0.out.lt)
  clear hb1 B0 KA0 KB0
  obtain ⟨x0, x1, x2, x3, x4⟩ := mcell_at KA1.out
  obtain ⟨y0, y1, y2, y3, y4⟩ := mcell_at KB1.out
  have lk := KA1.out.lt
  have lk2 := KB1.out.lt
  cases ma : mayB a with
  | false =>
    go_wp2_with fail
    go_ret
    exact ⟨ret_int (refC_a ma), B1.out⟩
  | true =>
    go_wp2_with fail
    refine (pMay_any b lb _ (hb.out.below B1.out (Nat.le_refl _))).mono ?_
    rintro e V2 ⟨rfl, hb1⟩
    have B2 := Hid.of (B1.out.trans (hb1.mono B1.out.size))
    have KA2 := Hid.of (KA1.out.below hb1 KA1.out.lt)
    have KB2 := Hid.of (KB1.out.below hb1 KB1.out.lt)
    clear hb1 B1 KA1 KB1 x0 x1 x2 x3 x4 y0 y1 y2 y3 y4 lk lk2
    obtain ⟨x0, x1, x2, x3, x4⟩ := mcell_at KA2.out
    obtain ⟨y0, y1, y2, y3, y4⟩ := mcell_at KB2.out
    have lk := KA2.out.lt
    have lk2 := KB2.out.lt
    cases mb : mayB b with
    | false =>
      go_wp2_with fail
      go_ret
      exact ⟨ret_int (refC_b mb), B2.out⟩
    | true =>
      by_cases ne : a.ev = b.ev
      · have HR : Hid (refC a b ofA ofB = if rowB a.ev ofA = false ∨ rowB a.ev ofB = false then 2 else 0) := refC_r ma mb ne
        rw [← ne] at y1
        clear ne
        cases ra : rowB a.ev ofA with
        | false =>
          go_wp2_with fail
          refine (rowIs_any fa fc ofA a.ev _ (hA.out.below B2.out (Nat.le_refl _)) lA.out).mono ?_
          rintro e V3 ⟨rfl, rfl⟩
          rw [ra]
          go_wp2_with fail
          go_ret
          exact ⟨ret_int (by rw [HR.out, if_pos (.inl ra)]), B2.out⟩
        | true =>
          cases rb : rowB a.ev ofB with
          | false =>
            go_wp2_with fail
            refine (rowIs_any fa fc ofA a.ev _ (hA.out.below B2.out (Nat.le_refl _)) lA.out).mono ?_
            rintro e V3 ⟨rfl, rfl⟩
            rw [ra]
            go_wp2_with fail
            refine (rowIs_any ga gc ofB a.ev _ (hB.out.below B2.out (Nat.le_refl _)) lB.out).mono ?_
            rintro e V3 ⟨rfl, rfl⟩
            rw [rb]
            go_wp2_with fail
            go_ret
            exact ⟨ret_int (by rw [HR.out, if_pos (.inr rb)]), B2.out⟩
          | true =>
            go_wp2_with fail
            refine (rowIs_any fa fc ofA a.ev _ (hA.out.below B2.out (Nat.le_refl _)) lA.out).mono ?_
            rintro e V3 ⟨rfl, rfl⟩
            rw [ra]
            go_wp2_with fail
            refine (rowIs_any ga gc ofB a.ev _ (hB.out.below B2.out (Nat.le_refl _)) lB.out).mono ?_
            rintro e V3 ⟨rfl, rfl⟩
            rw [rb]
            go_wp2_with fail
            go_ret
            exact ⟨ret_int (by rw [HR.out, if_neg (by simp [ra, rb])]), B2.out⟩
      · have d : (a.ev != b.ev) = true := by simpa using ne
        go_wp2_with fail
        go_ret
        exact ⟨ret_int (refC_k ma mb ne), B2.out⟩

end Go.Proofs.YtdnglodemkeooaaDoor
namespace Go.Proofs.YtdnglodemkeooaaDoor
open Go.RowKit
set_option linter.unusedVariables false

/-- Of the blocks of which K holds each is as it was. -/
structure Kept (K : Nat → Prop) (w w' : World) : Prop where
  os : w'.os = w.os
  tape : w'.tape = w.tape
  output : w'.output = w.output
  size : w.heap.size ≤ w'.heap.size
  block : ∀ k, K k → w'.heap[k]? = w.heap[k]?

theorem Kept.refl (K : Nat → Prop) (w : World) : Kept K w w := ⟨rfl, rfl, rfl, Nat.le_refl _, fun _ _ => rfl⟩
theorem Kept.trans {K : Nat → Prop} {a b c : World} (h : Kept K a b) (k : Kept K b c) : Kept K a c :=
  ⟨k.os.trans h.os, k.tape.trans h.tape, k.output.trans h.output, Nat.le_trans h.size k.size, fun i hi => (k.block i hi).trans (h.block i hi)⟩
theorem Kept.mono {K K' : Nat → Prop} {w w' : World} (h : Kept K w w') (hB : ∀ k, K' k → K k) : Kept K' w w' := ⟨h.os, h.tape, h.output, h.size, fun k hk => h.block k (hB k hk)⟩
theorem Kept.cell {K : Nat → Prop} {w w' : World} (h : Kept K w w') {p : Addr} (hp : K p.block) : w'.cell? p = w.cell? p := World.cell?_of_block (w := w) (h.block p.block hp)
theorem Kept.frozen {K : Nat → Prop} {w w' : World} (h : Kept K w w') {p : Addr} (hp : K p.block) : w'.frozen? p = w.frozen? p := World.frozen?_of_block (w := w) (h.block p.block hp)
theorem Kept.setCell {K : Nat → Prop} {a w : World} (h : Kept K a w) {p : Addr} (hp : ¬ K p.block) (u : Value) : Kept K a (w.setCell p u) :=
  h.trans ⟨rfl, rfl, rfl, by simp [World.setCell], fun k hk => Below.heap_setCell _ _ _ _ (fun e => hp (e ▸ hk))⟩
theorem Kept.below {K : Nat → Prop} {w w' : World} (h : Kept K w w') {B : Nat} (hB : ∀ k, k < B → K k) : Below B w w' := ⟨h.os, h.tape, h.output, h.size, fun k hk => h.block k (hB k hk)⟩

/-- The slice 'a' of block number less than B reads as xs. -/
def AtB (w : World) (B : Nat) (a : Option Addr) (xs : List Int) : Prop := xs = [] ∨ ∃ b off, a = some ⟨b, off, none⟩ ∧ b < B ∧ Cells w b off xs

theorem AtB.kept {w w' : World} {B : Nat} {a : Option Addr} {xs : List Int} {K : Nat → Prop} (h : AtB w B a xs) (hk : Kept K w w') (hB : ∀ k, k < B → K k) : AtB w' B a xs := by
  rcases h with h | ⟨b, off, rfl, hlt, hc⟩
  · exact .inl h
  · exact .inr ⟨b, off, rfl, hlt, fun j hj => by rw [hk.cell (p := ⟨b, off + j, none⟩) (hB b hlt)]; exact hc j hj⟩

/-- What the call knows of a finder: the place where it stands (all ahead of it is below n), and its list. -/
structure FI (w : World) (B pa pl : Nat) (a : Option Addr) (cap : Nat) (xs : List Int) (n : Int) (k : Nat) : Prop where
  le : k ≤ xs.length
  low : ∀ j, j < k → xs[j]?.getD 0 < n
  cur : w.cell? ⟨pa, 0, none⟩ = some (.int .i64 k)
  free : w.frozen? ⟨pa, 0, none⟩ = false
  lst : w.cell? ⟨pl, 0, none⟩ = some (.slice a xs.length cap)
  ne : pa ≠ pl
  ba : B ≤ pa
  bl : B ≤ pl
  row : AtB w B a xs
  small : xs.length ≤ 9223372036854775807

theorem FI.step {w : World} {B pa pl : Nat} {a : Option Addr} {cap : Nat} {xs : List Int} {n : Int} {k : Nat} (h : FI w B pa pl a cap xs n k) (hlt : k < xs.length) (hx : xs[k]?.getD 0 < n) :
    FI (w.setCell ⟨pa, 0, none⟩ (.int .i64 ((k : Int) + 1))) B pa pl a cap xs n (k + 1) where
  le := hlt
  low := fun j hj => by
    by_cases e : j = k
    · subst e; exact hx
    · exact h.low j (by omega)
  cur := by rw [World.cell?_setCell_same _ _ _ h.cur]; simp
  free := (World.frozen?_setCell _ _ _ _).trans h.free
  lst := (World.cell?_setCell_other _ _ _ _ (by simp; intro e; exact (h.ne e).elim)).trans h.lst
  ne := h.ne
  ba := h.ba
  bl := h.bl
  row := h.row.kept (K := fun k => k < B) ((Kept.refl _ _).setCell (by have := h.ba; show ¬ pa < B; omega) _) (fun _ h => h)
  small := h.small

theorem FI.mono {w : World} {B pa pl : Nat} {a : Option Addr} {cap : Nat} {xs : List Int} {n m : Int} {k : Nat} (h : FI w B pa pl a cap xs n k) (hm : n ≤ m) : FI w B pa pl a cap xs m k :=
  ⟨h.le, fun j hj => by have := h.low j hj; omega, h.cur, h.free, h.lst, h.ne, h.ba, h.bl, h.row, h.small⟩

theorem FI.kept {w w' : World} {B pa pl : Nat} {a : Option Addr} {cap : Nat} {xs : List Int} {n : Int} {k : Nat} {K : Nat → Prop} (h : FI w B pa pl a cap xs n k) (hk : Kept K w w') (h1 : K pa) (h2 : K pl) (hB : ∀ k, k < B → K k) : FI w' B pa pl a cap xs n k :=
  ⟨h.le, h.low, (hk.cell (p := ⟨pa, 0, none⟩) h1).trans h.cur, (hk.frozen (p := ⟨pa, 0, none⟩) h1).trans h.free, (hk.cell (p := ⟨pl, 0, none⟩) h2).trans h.lst, h.ne, h.ba, h.bl, h.row.kept hk hB, h.small⟩

/-- Where a finder stands. -/
def atOf (p : Nat) (w : World) : Nat := (intOf ((w.cell? ⟨p, 0, none⟩).getD (.int .i64 0))).toNat

theorem FI.atOf {w : World} {B pa pl : Nat} {a : Option Addr} {cap : Nat} {xs : List Int} {n : Int} {k : Nat} (h : FI w B pa pl a cap xs n k) : atOf pa w = k := by
  unfold YtdnglodemkeooaaDoor.atOf; rw [h.cur]; simp [intOf]

theorem find_yes {xs : List Int} {k : Nat} {n x : Int} (h : k < xs.length) (hx : Hid (x = xs[k]?.getD 0)) (e : x = n) : true = hasB xs n := by
  have hx := hx.out
  rw [List.getElem?_eq_getElem h, Option.getD_some] at hx
  simp only [hasB]
  rw [eq_comm, List.contains_iff_mem, ← e, hx]
  exact List.getElem_mem h
theorem find_no {xs : List Int} {k : Nat} {n x : Int} (hi : Inc xs) (h : k < xs.length) (hx : Hid (x = xs[k]?.getD 0)) (e : n < x) (low : ∀ j, j < k → xs[j]?.getD 0 < n) : false = hasB xs n := by
  have hx := hx.out
  rw [List.getElem?_eq_getElem h, Option.getD_some] at hx
  simp only [hasB]
  rw [eq_comm, ← Bool.not_eq_true, List.contains_iff_mem]
  intro m
  obtain ⟨j, hj, hjn⟩ := List.getElem_of_mem m
  by_cases c : j < k
  · have := low j c; rw [List.getElem?_eq_getElem hj, Option.getD_some] at this; omega
  · by_cases c' : j = k
    · subst c'; omega
    · have := (List.pairwise_iff_getElem.1 hi) k j h hj (by omega); omega
theorem find_out {xs : List Int} {k : Nat} {n : Int} (h : ¬ k < xs.length) (low : ∀ j, j < k → xs[j]?.getD 0 < n) : false = hasB xs n := by
  simp only [hasB]
  rw [eq_comm, ← Bool.not_eq_true, List.contains_iff_mem]
  intro m
  obtain ⟨j, hj, hjn⟩ := List.getElem_of_mem m
  have := low j (by omega); rw [List.getElem?_eq_getElem hj, Option.getD_some] at this; omega

set_option maxHeartbeats 1000000 in
theorem rowFind_any (w : World) (B pa pl : Nat) (a : Option Addr) (cap : Nat) (xs : List Int) (n : Int) (k0 : Nat) (hi : Inc xs) (hf : FI w B pa pl a cap xs n k0) :
    Calls Tryd.prog 126 #[.int .i64 n, .pointer (some ⟨pa, 0, none⟩), .pointer (some ⟨pl, 0, none⟩)] w fun e w' => e = .returned (.bool (hasB xs n)) ∧ (∃ k, FI w' B pa pl a cap xs n k) ∧ Kept (fun k => k ≠ pa) w w' := by
  have HI : Hid (Inc xs) := hi
  have hsm := hf.small
  clear hi
  go_enter Tryd.func126, Tryd.ntmps126
  go_wp2
  go_loopw [] (fun wr => ∃ k, FI wr B pa pl a cap xs n k ∧ Kept (fun k => k ≠ pa) w wr) (fun wr => xs.length - atOf pa wr)
  case atStart => exact ⟨k0, hf, Kept.refl _ _⟩
  case round =>
    obtain ⟨k, hk, hkept⟩ := hrel
    have hcur := hk.cur
    have hlst := hk.lst
    have hfree := hk.free
    have hle := hk.le
    by_cases hlt : k < xs.length
    · rcases hk.row with h0 | ⟨b, off, rfl, hb, hc⟩
      · subst h0; simp at hlt
      · obtain ⟨x, HX, hcx⟩ := hc.at hlt
        by_cases c1 : x < n
        · have hst := hk.step hlt (by have := HX.out; omega)
          have hme := hst.atOf
          have hme0 := hk.atOf
          have hkp := hkept.setCell (p := ⟨pa, 0, none⟩) (by simp) (.int .i64 ((k : Int) + 1))
          have H1 : Hid (atOf pa (wr.setCell ⟨pa, 0, none⟩ (.int .i64 ((k : Int) + 1))) = k + 1) := hme
          have H0 : Hid (atOf pa wr = k) := hme0
          clear hme hme0
          go_wp2
          go_roundw
          case rel => exact ⟨k + 1, hst, hkp⟩
          case measure => rw [H1.out, H0.out]; omega
        · by_cases c2 : x = n
          · have HE : Hid (x = n) := c2
            have d : (x == n) = true := by simp [c2]
            clear c2
            go_wp2
            go_ret
            exact ⟨ret_bool (find_yes hlt HX HE.out), ⟨k, hk⟩, hkept⟩
          · have d : (x == n) = false := by simp [c2]
            go_wp2
            go_ret
            exact ⟨ret_bool (find_no HI.out hlt HX (by omega) hk.low), ⟨k, hk⟩, hkept⟩
    · go_wp2
      go_ret
      exact ⟨ret_bool (find_out hlt hk.low), ⟨k, hk⟩, hkept⟩

theorem At.atB {w : World} {a : Option Addr} {xs : List Int} (h : At w a xs) : AtB w w.heap.size a xs := h

theorem kept_alloc (w : World) (o : Obj) {K : Nat → Prop} (hK : ∀ k, K k → k < w.heap.size) : Kept K w (w.alloc o) := ⟨rfl, rfl, rfl, by simp, fun k hk => Below.heap_alloc _ _ _ (hK k hk)⟩

theorem fi_new (w : World) (B : Nat) (a : Option Addr) (cap : Nat) (xs : List Int) (n : Int) (hs : AtB w B a xs) (hB : B ≤ w.heap.size) (hl : xs.length ≤ maxLen) :
    FI ((w.alloc (.cells #[.slice a xs.length cap] 22)).alloc (.cells #[.int .i64 0] 3)) B (w.heap.size + 1) w.heap.size a cap xs n 0 where
  le := Nat.zero_le _
  low := fun j hj => by omega
  cur := by rw [World.cell?_alloc_at _ _ _ _ (by simp)]; rfl
  free := World.frozen?_alloc_at _ _ _ _ (by simp)
  lst := by rw [World.cell?_alloc_past _ _ _ (by simp), World.cell?_alloc_at _ _ _ _ rfl]; rfl
  ne := by omega
  ba := by omega
  bl := hB
  row := (hs.kept (kept_alloc w _ (K := fun k => k < w.heap.size) (fun _ h => h)) (fun k h => by omega)).kept (kept_alloc _ _ (K := fun k => k < w.heap.size + 1) (fun k h => by simpa using h)) (fun k h => by omega)
  small := hl

set_option maxHeartbeats 400000 in
theorem finder_any (a : Option Addr) (cap : Nat) (xs : List Int) (w : World) :
    Calls Tryd.prog 99 #[.slice a xs.length cap] w fun e w' => e = .returned (.func (.func 126) #[] #[.pointer (some ⟨w.heap.size + 1, 0, none⟩), .pointer (some ⟨w.heap.size, 0, none⟩)]) ∧ (w.alloc (.cells #[.slice a xs.length cap] 22)).alloc (.cells #[.int .i64 0] 3) = w' := by
  have hmf : ∀ (fn : Fn) (first cap : Array Value) (w : World), (Instr.makeFunc fn first cap).run Tryd.prog w = .ok (.func fn first cap) w := fun _ _ _ _ => rfl
  go_enter Tryd.func99, Tryd.ntmps99
  go_wp2
  go_ret
  exact ⟨rfl, rfl⟩

/-- What is known of the two finders that Join, Meet and Less lay: from block B on: the first list, its place; the second list, its place; the two variables that hold them. -/
structure PI (w : World) (B : Nat) (a1 : Option Addr) (c1 : Nat) (xs : List Int) (a2 : Option Addr) (c2 : Nat) (ys : List Int) (n : Int) : Prop where
  f1 : ∃ k, FI w B (B + 1) B a1 c1 xs n k
  f2 : ∃ k, FI w B (B + 3) (B + 2) a2 c2 ys n k
  qa : w.cell? ⟨B + 4, 0, none⟩ = some (.func (.func 126) #[] #[.pointer (some ⟨B + 1, 0, none⟩), .pointer (some ⟨B, 0, none⟩)])
  qb : w.cell? ⟨B + 5, 0, none⟩ = some (.func (.func 126) #[] #[.pointer (some ⟨B + 3, 0, none⟩), .pointer (some ⟨B + 2, 0, none⟩)])

theorem PI.mono {w : World} {B : Nat} {a1 : Option Addr} {c1 : Nat} {xs : List Int} {a2 : Option Addr} {c2 : Nat} {ys : List Int} {n m : Int} (h : PI w B a1 c1 xs a2 c2 ys n) (hm : n ≤ m) : PI w B a1 c1 xs a2 c2 ys m :=
  ⟨h.f1.imp fun _ h => h.mono hm, h.f2.imp fun _ h => h.mono hm, h.qa, h.qb⟩

theorem PI.kept {w w' : World} {B : Nat} {a1 : Option Addr} {c1 : Nat} {xs : List Int} {a2 : Option Addr} {c2 : Nat} {ys : List Int} {n : Int} (h : PI w B a1 c1 xs a2 c2 ys n) (hk : Kept (fun k => k < B + 6) w w') : PI w' B a1 c1 xs a2 c2 ys n := by
  obtain ⟨k1, h1⟩ := h.f1
  obtain ⟨k2, h2⟩ := h.f2
  exact ⟨⟨k1, h1.kept hk (by omega) (by omega) (fun k h => by omega)⟩, ⟨k2, h2.kept hk (by omega) (by omega) (fun k h => by omega)⟩, (hk.cell (p := ⟨B + 4, 0, none⟩) (by show B + 4 < B + 6; omega)).trans h.qa, (hk.cell (p := ⟨B + 5, 0, none⟩) (by show B + 5 < B + 6; omega)).trans h.qb⟩

theorem PI.first {w w' : World} {B : Nat} {a1 : Option Addr} {c1 : Nat} {xs : List Int} {a2 : Option Addr} {c2 : Nat} {ys : List Int} {n : Int} (h : PI w B a1 c1 xs a2 c2 ys n) (h1 : ∃ k, FI w' B (B + 1) B a1 c1 xs n k) (hk : Kept (fun k => k ≠ B + 1) w w') : PI w' B a1 c1 xs a2 c2 ys n := by
  obtain ⟨k2, h2⟩ := h.f2
  exact ⟨h1, ⟨k2, h2.kept hk (by omega) (by omega) (fun k h => by omega)⟩, (hk.cell (p := ⟨B + 4, 0, none⟩) (by show B + 4 ≠ B + 1; omega)).trans h.qa, (hk.cell (p := ⟨B + 5, 0, none⟩) (by show B + 5 ≠ B + 1; omega)).trans h.qb⟩

theorem PI.second {w w' : World} {B : Nat} {a1 : Option Addr} {c1 : Nat} {xs : List Int} {a2 : Option Addr} {c2 : Nat} {ys : List Int} {n : Int} (h : PI w B a1 c1 xs a2 c2 ys n) (h2 : ∃ k, FI w' B (B + 3) (B + 2) a2 c2 ys n k) (hk : Kept (fun k => k ≠ B + 3) w w') : PI w' B a1 c1 xs a2 c2 ys n := by
  obtain ⟨k1, h1⟩ := h.f1
  exact ⟨⟨k1, h1.kept hk (by omega) (by omega) (fun k h => by omega)⟩, h2, (hk.cell (p := ⟨B + 4, 0, none⟩) (by show B + 4 ≠ B + 3; omega)).trans h.qa, (hk.cell (p := ⟨B + 5, 0, none⟩) (by show B + 5 ≠ B + 3; omega)).trans h.qb⟩

end Go.Proofs.YtdnglodemkeooaaDoor
namespace Go.Proofs.YtdnglodemkeooaaDoor
open Go.RowKit
set_option linter.unusedVariables false

/-- The least number of two rows that are not both empty. -/
def fst : List Int → List Int → Int
  | [], [] => 0
  | [], y :: _ => y
  | x :: _, [] => x
  | x :: _, y :: _ => min x y

/-- What is left of a row when n is taken from its front. -/
def rem : List Int → Int → List Int
  | [], _ => []
  | x :: r, n => if x = n then r else x :: r

theorem rem_hd (x : Int) (r : List Int) : rem (x :: r) x = r := by simp [rem]
theorem rem_ne {x n : Int} (r : List Int) (h : ¬ x = n) : rem (x :: r) n = x :: r := by simp [rem, h]
theorem rem_nil (n : Int) : rem [] n = [] := rfl
theorem fst_l {x y : Int} (a b : List Int) (h : x ≤ y) : fst (x :: a) (y :: b) = x := by simp only [fst]; omega
theorem fst_r {x y : Int} (a b : List Int) (h : y ≤ x) : fst (x :: a) (y :: b) = y := by simp only [fst]; omega

theorem rem_len (xs : List Int) (n : Int) : (rem xs n).length ≤ xs.length := by
  cases xs with
  | nil => exact Nat.le_refl _
  | cons x r =>
    by_cases h : x = n
    · subst h; rw [rem_hd]; simp
    · rw [rem_ne r h]; exact Nat.le_refl _

theorem uni_nil (a : List Int) : uni a [] = a := by cases a <;> rfl

theorem uni_step (xs ys : List Int) (h : ¬ (xs = [] ∧ ys = [])) : uni xs ys = fst xs ys :: uni (rem xs (fst xs ys)) (rem ys (fst xs ys)) := by
  cases xs with
  | nil =>
    cases ys with
    | nil => exact absurd ⟨rfl, rfl⟩ h
    | cons y b => show uni [] (y :: b) = y :: uni (rem [] y) (rem (y :: b) y); rw [rem_hd, rem_nil]; rfl
  | cons x a =>
    cases ys with
    | nil => show uni (x :: a) [] = x :: uni (rem (x :: a) x) (rem [] x); rw [rem_hd, rem_nil, uni_nil, uni_nil]
    | cons y b =>
      by_cases h1 : x < y
      · rw [fst_l a b (by omega), rem_hd, rem_ne b (by omega), uni_cc, if_pos h1]
      · by_cases h2 : y < x
        · rw [fst_r a b (by omega), rem_hd, rem_ne a (by omega), uni_cc, if_neg h1, if_pos h2]
        · have : x = y := by omega
          subst this
          rw [fst_l a b (by omega), rem_hd, rem_hd, uni_cc, if_neg h1, if_neg h1]

theorem rem_lenlt (xs ys : List Int) (h : ¬ (xs = [] ∧ ys = [])) : (rem xs (fst xs ys)).length + (rem ys (fst xs ys)).length < xs.length + ys.length := by
  cases xs with
  | nil =>
    cases ys with
    | nil => exact absurd ⟨rfl, rfl⟩ h
    | cons y b => show (rem [] y).length + (rem (y :: b) y).length < _; rw [rem_hd, rem_nil]; simp
  | cons x a =>
    cases ys with
    | nil => show (rem (x :: a) x).length + (rem [] x).length < _; rw [rem_hd, rem_nil]; simp
    | cons y b =>
      by_cases h1 : x ≤ y
      · have := rem_len (y :: b) x
        rw [fst_l a b h1, rem_hd]; simp only [List.length_cons] at this ⊢; omega
      · have := rem_len (x :: a) y
        rw [fst_r a b (by omega), rem_hd]; simp only [List.length_cons] at this ⊢; omega

theorem inc_rem {xs : List Int} (n : Int) (h : Inc xs) : Inc (rem xs n) := by
  cases xs with
  | nil => exact h
  | cons x r =>
    by_cases c : x = n
    · subst c; rw [rem_hd]; exact (List.pairwise_cons.1 h).2
    · rw [rem_ne r c]; exact h

theorem rem_low {xs ys : List Int} (hx : Inc xs) (hy : Inc ys) : (∀ z ∈ rem xs (fst xs ys), fst xs ys < z) ∧ (∀ z ∈ rem ys (fst xs ys), fst xs ys < z) := by
  cases xs with
  | nil =>
    cases ys with
    | nil => simp [rem]
    | cons y b => refine ⟨by simp [rem], ?_⟩; show ∀ z ∈ rem (y :: b) y, y < z; rw [rem_hd]; exact (List.pairwise_cons.1 hy).1
  | cons x a =>
    have ha := List.pairwise_cons.1 hx
    cases ys with
    | nil => refine ⟨?_, by simp [rem]⟩; show ∀ z ∈ rem (x :: a) x, x < z; rw [rem_hd]; exact ha.1
    | cons y b =>
      have hb := List.pairwise_cons.1 hy
      by_cases h1 : x < y
      · rw [fst_l a b (by omega), rem_hd, rem_ne b (by omega)]
        refine ⟨ha.1, fun z hz => ?_⟩
        rcases List.mem_cons.1 hz with rfl | hz
        · exact h1
        · have := hb.1 z hz; omega
      · by_cases h2 : y < x
        · rw [fst_r a b (by omega), rem_hd, rem_ne a (by omega)]
          refine ⟨fun z hz => ?_, hb.1⟩
          rcases List.mem_cons.1 hz with rfl | hz
          · exact h2
          · have := ha.1 z hz; omega
        · have : x = y := by omega
          subst this
          rw [fst_l a b (by omega), rem_hd, rem_hd]
          exact ⟨ha.1, hb.1⟩

theorem fst_ge {xs ys : List Int} {m : Int} (h : ¬ (xs = [] ∧ ys = [])) (hx : ∀ z ∈ xs, m ≤ z) (hy : ∀ z ∈ ys, m ≤ z) : m ≤ fst xs ys := by
  cases xs with
  | nil =>
    cases ys with
    | nil => exact absurd ⟨rfl, rfl⟩ h
    | cons y b => exact hy y (by simp)
  | cons x a =>
    cases ys with
    | nil => exact hx x (by simp)
    | cons y b => have := hx x (by simp); have := hy y (by simp); simp only [fst]; omega

set_option maxHeartbeats 400000 in
theorem first_nl (a b : Option Addr) (ca cb : Nat) (y : Int) (r : List Int) (w : World) (hl : (y :: r).length ≤ maxLen) (ht : At w b (y :: r)) :
    Calls Tryd.prog 127 #[.slice a 0 ca, .slice b (y :: r).length cb] w fun e w' => e = .returned (.int .i64 y) ∧ ∃ q, w' = w.drewN q := by
  rcases ht with h | ⟨bb, ob, rfl, -, hc⟩
  · cases h
  · have h0 := hc 0 (by simp)
    simp only [Nat.add_zero, List.getD_cons_zero] at h0
    clear hc
    unfold maxLen at hl
    generalize hn : (y :: r).length = n at *
    have hp : 0 < n := by rw [← hn]; simp
    clear hn
    go_enter Tryd.func127, Tryd.ntmps127
    go_wp2
    go_ret
    exact ⟨rfl, 0, rfl⟩

set_option maxHeartbeats 400000 in
theorem first_ln (a b : Option Addr) (ca cb : Nat) (x : Int) (r : List Int) (w : World) (hl : (x :: r).length ≤ maxLen) (ht : At w a (x :: r)) :
    Calls Tryd.prog 127 #[.slice a (x :: r).length ca, .slice b 0 cb] w fun e w' => e = .returned (.int .i64 x) ∧ ∃ q, w' = w.drewN q := by
  rcases ht with h | ⟨bb, ob, rfl, -, hc⟩
  · cases h
  · have h0 := hc 0 (by simp)
    simp only [Nat.add_zero, List.getD_cons_zero] at h0
    clear hc
    unfold maxLen at hl
    generalize hn : (x :: r).length = n at *
    have hp : 0 < n := by rw [← hn]; simp
    have hp2 : ((n : Int) == 0) = false := by simp; omega
    clear hn
    go_enter Tryd.func127, Tryd.ntmps127
    go_wp2
    go_ret
    exact ⟨rfl, 0, rfl⟩

set_option maxHeartbeats 400000 in
theorem first_ll (a b : Option Addr) (ca cb : Nat) (x y : Int) (r s : List Int) (w : World) (hl : (x :: r).length ≤ maxLen) (hm : (y :: s).length ≤ maxLen) (hs : At w a (x :: r)) (ht : At w b (y :: s)) :
    Calls Tryd.prog 127 #[.slice a (x :: r).length ca, .slice b (y :: s).length cb] w fun e w' => e = .returned (.int .i64 (min x y)) ∧ ∃ q, w' = w.drewN q := by
  rcases hs with h | ⟨ba, oa, rfl, -, hca⟩
  · cases h
  · rcases ht with h | ⟨bb, ob, rfl, -, hcb⟩
    · cases h
    · have h0 := hca 0 (by simp)
      have h1 := hcb 0 (by simp)
      simp only [Nat.add_zero, List.getD_cons_zero] at h0 h1
      clear hca hcb
      unfold maxLen at hl hm
      generalize hn : (x :: r).length = n at *
      have hp : 0 < n := by rw [← hn]; simp
      clear hn
      generalize hn' : (y :: s).length = n' at *
      have hp' : 0 < n' := by rw [← hn']; simp
      clear hn'
      have hq : ((n : Int) == 0) = false := by simp; omega
      have hq' : ((n' : Int) == 0) = false := by simp; omega
      go_enter Tryd.func127, Tryd.ntmps127
      go_wp2
      go_region
      all_goals (try go_wp2)
      all_goals go_ret
      all_goals exact ⟨ret_int (by omega), 1, rfl⟩

theorem first_any (a b : Option Addr) (ca cb : Nat) (xs ys : List Int) (w : World) (hne : ¬ (xs = [] ∧ ys = [])) (hs : At w a xs) (ht : At w b ys) (hl : xs.length ≤ maxLen) (hm : ys.length ≤ maxLen) :
    Calls Tryd.prog 127 #[.slice a xs.length ca, .slice b ys.length cb] w fun e w' => e = .returned (.int .i64 (fst xs ys)) ∧ ∃ q, w' = w.drewN q := by
  cases xs with
  | nil =>
    cases ys with
    | nil => exact absurd ⟨rfl, rfl⟩ hne
    | cons y s => exact first_nl a b ca cb y s w hm ht
  | cons x r =>
    cases ys with
    | nil => exact first_ln a b ca cb x r w hl hs
    | cons y s => exact first_ll a b ca cb x y r s w hl hm hs ht

theorem cells_tail {w : World} {b off : Nat} {x : Int} {r : List Int} (h : Cells w b off (x :: r)) : Cells w b (off + 1) r := fun j hj => by
  have := h (j + 1) (by simp; omega)
  rw [show off + (j + 1) = off + 1 + j by omega] at this
  simpa using this

set_option maxHeartbeats 400000 in
theorem behind_nil (a : Option Addr) (cap : Nat) (n : Int) (w : World) :
    Calls Tryd.prog 128 #[.slice a 0 cap, .int .i64 n] w fun e w' => e = .returned (.slice a 0 cap) ∧ w' = w := by
  go_enter Tryd.func128, Tryd.ntmps128
  go_wp2
  go_ret
  exact ⟨rfl, rfl⟩

set_option maxHeartbeats 400000 in
theorem behind_no (b off cap len : Nat) (x n : Int) (w : World) (hp : 0 < len) (hl : len ≤ 9223372036854775807) (h0 : w.cell? ⟨b, off, none⟩ = some (.int .i64 x)) (hx : (x == n) = false) :
    Calls Tryd.prog 128 #[.slice (some ⟨b, off, none⟩) len cap, .int .i64 n] w fun e w' => e = .returned (.slice (some ⟨b, off, none⟩) len cap) ∧ w' = w := by
  have d : decide ((0 : Int) < (len : Int)) = true := by simp; omega
  go_enter Tryd.func128, Tryd.ntmps128
  go_wp2
  go_ret
  exact ⟨rfl, rfl⟩

set_option maxHeartbeats 400000 in
theorem behind_yes (b off cap len : Nat) (x n : Int) (w : World) (hp : 0 < len) (hcap : len ≤ cap) (hl : cap ≤ 9223372036854775807) (h0 : w.cell? ⟨b, off, none⟩ = some (.int .i64 x)) (hx : (x == n) = true) :
    Calls Tryd.prog 128 #[.slice (some ⟨b, off, none⟩) len cap, .int .i64 n] w fun e w' => (∃ o, e = .returned (.slice (some ⟨b, o, none⟩) (len - 1) (cap - 1)) ∧ (len = 1 ∨ o = off + 1)) ∧ w' = w := by
  have d : decide ((0 : Int) < (len : Int)) = true := by simp; omega
  go_enter Tryd.func128, Tryd.ntmps128
  go_wp2
  · have h : cap = 1 := by assumption
    subst h
    go_ret
    exact ⟨⟨off, rfl, .inl (by omega)⟩, rfl⟩
  · go_ret
    exact ⟨⟨off + 1, rfl, .inr rfl⟩, rfl⟩

theorem behind_any (a : Option Addr) (cap B : Nat) (xs : List Int) (n : Int) (w : World) (hs : AtB w B a xs) (hcap : xs.length ≤ cap) (hm : cap ≤ maxLen) :
    Calls Tryd.prog 128 #[.slice a xs.length cap, .int .i64 n] w fun e w' => (∃ a' cap', e = .returned (.slice a' (rem xs n).length cap') ∧ AtB w B a' (rem xs n) ∧ (rem xs n).length ≤ cap' ∧ cap' ≤ maxLen) ∧ w' = w := by
  rcases hs with rfl | ⟨b, off, rfl, hb, hc⟩
  · refine (behind_nil a cap n w).mono ?_
    rintro e w' ⟨rfl, rfl⟩
    exact ⟨⟨a, cap, rfl, .inl rfl, hcap, hm⟩, rfl⟩
  · cases xs with
    | nil =>
      refine (behind_nil _ cap n w).mono ?_
      rintro e w' ⟨rfl, rfl⟩
      exact ⟨⟨_, cap, rfl, .inl rfl, hcap, hm⟩, rfl⟩
    | cons x r =>
      have h0 := hc 0 (by simp)
      simp only [Nat.add_zero, List.getD_cons_zero] at h0
      by_cases hx : x = n
      · subst hx
        refine (behind_yes b off cap (x :: r).length x x w (by simp) hcap hm h0 (by simp)).mono ?_
        rintro e w' ⟨⟨o, rfl, ho⟩, rfl⟩
        rw [rem_hd]
        refine ⟨⟨some ⟨b, o, none⟩, cap - 1, rfl, ?_, by simp at hcap; omega, by omega⟩, rfl⟩
        rcases ho with h | h
        · exact .inl (List.eq_nil_of_length_eq_zero (by simpa using h))
        · subst h; exact .inr ⟨b, off + 1, rfl, hb, cells_tail hc⟩
      · refine (behind_no b off cap (x :: r).length x n w (by simp) (Nat.le_trans hcap hm) h0 (by simp [hx])).mono ?_
        rintro e w' ⟨rfl, rfl⟩
        rw [rem_ne r hx]
        exact ⟨⟨_, cap, rfl, .inr ⟨b, off, rfl, hb, hc⟩, hcap, hm⟩, rfl⟩

end Go.Proofs.YtdnglodemkeooaaDoor
namespace Go.Proofs.YtdnglodemkeooaaDoor
open Go.RowKit

set_option maxHeartbeats 400000 in
theorem keepHas_some (b off cap : Nat) (xs : List Int) (n : Int) (w : World) (hl : xs.length ≤ 9223372036854775807) (hc : Cells w b off xs) :
    Calls Tryd.prog 35 #[.slice (some ⟨b, off, none⟩) xs.length cap, .int .i64 n] w fun e w' => e = .returned (.bool (hasB xs n)) ∧ w' = w := by
  go_enter Tryd.func35, Tryd.ntmps35
  go_wp2
  go_loop [5] (fun i => ∃ k : Nat, k ≤ xs.length ∧ i = .int .i64 k ∧ Hid (hasB xs n = hasB (xs.drop k) n)) (fun i => xs.length - (intOf i).toNat)
  case atStart => exact ⟨0, Nat.zero_le _, rfl, rfl⟩
  case round =>
    obtain ⟨k, hk, rfl, he⟩ := hrel
    by_cases hlt : k < xs.length
    · obtain ⟨x, HX, hcell⟩ := hc.at hlt
      go_wp2
      · go_ret
        exact ⟨ret_bool (has_hit hlt he HX (by assumption)), rfl⟩
      · go_round
        case rel => exact ⟨k + 1, by omega, by go_num, has_miss hlt he HX (by assumption)⟩
        case measure => simp [intOf]; omega
    · go_wp2
      go_ret
      exact ⟨ret_bool (has_end hlt he), rfl⟩

set_option maxHeartbeats 400000 in
theorem keepHas_nil (a : Option Addr) (cap : Nat) (n : Int) (w : World) :
    Calls Tryd.prog 35 #[.slice a 0 cap, .int .i64 n] w fun e w' => e = .returned (.bool false) ∧ w' = w := by
  go_enter Tryd.func35, Tryd.ntmps35
  go_wp2
  refine wp_loop_rounds 1 ?_
  rw [rounds_succ]
  go_wp2
  go_ret
  exact ⟨rfl, rfl⟩

theorem keepHas_any (a : Option Addr) (cap : Nat) (xs : List Int) (n : Int) (w : World) (hs : At w a xs) (hl : xs.length ≤ maxLen) :
    Calls Tryd.prog 35 #[.slice a xs.length cap, .int .i64 n] w fun e w' => e = .returned (.bool (hasB xs n)) ∧ w' = w := by
  rcases hs with rfl | ⟨b, off, rfl, -, hc⟩
  · exact keepHas_nil a cap n w
  · exact keepHas_some b off cap xs n w hl hc

end Go.Proofs.YtdnglodemkeooaaDoor
namespace Go.Proofs.YtdnglodemkeooaaDoor
open Go.Shelf

def Tryd.sortA_ren : Go.Shelf.Ren := ⟨fun | 6 => 129 | 15 => 107 | 14 => 146 | 28 => 140 | 29 => 141 | 20 => 153 | 21 => 154 | 22 => 155 | 23 => 156 | 24 => 157 | 25 => 158 | 26 => 159 | 27 => 160 | 46 => 162 | 47 => 149 | 48 => 150 | 49 => 163 | 50 => 164 | 57 => 165 | n => n, fun | 22 => 23 | 24 => 58 | 25 => 116 | 3 => 3 | 39 => 134 | 0 => 0 | 53 => 163 | 55 => 60 | 4 => 4 | 46 => 157 | 45 => 156 | 50 => 87 | 5 => 5 | 9 => 9 | 66 => 168 | 70 => 172 | 76 => 179 | 77 => 180 | n => n, fun | n => n⟩
theorem Tryd.sortA : Go.Proofs.SlLaysF0.n6 Tryd.prog Tryd.sortA_ren := {
  mixed := by kernel_rfl
  f6 := ⟨Tryd.f129.name, by decide, Tryd.func129.trans (congrArg some (by kernel_rfl))⟩
  f14 := ⟨Tryd.f146.name, by decide, Tryd.func146.trans (congrArg some (by kernel_rfl))⟩
  f15 := Tryd.func107.trans (congrArg some (by kernel_rfl))
  f20 := ⟨Tryd.f153.name, by decide, Tryd.func153.trans (congrArg some (by kernel_rfl))⟩
  f21 := ⟨Tryd.f154.name, by decide, Tryd.func154.trans (congrArg some (by kernel_rfl))⟩
  f22 := ⟨Tryd.f155.name, by decide, Tryd.func155.trans (congrArg some (by kernel_rfl))⟩
  f23 := ⟨Tryd.f156.name, by decide, Tryd.func156.trans (congrArg some (by kernel_rfl))⟩
  f24 := ⟨Tryd.f157.name, by decide, Tryd.func157.trans (congrArg some (by kernel_rfl))⟩
  f25 := ⟨Tryd.f158.name, by decide, Tryd.func158.trans (congrArg some (by kernel_rfl))⟩
  f26 := ⟨Tryd.f159.name, by decide, Tryd.func159.trans (congrArg some (by kernel_rfl))⟩
  f27 := ⟨Tryd.f160.name, by decide, Tryd.func160.trans (congrArg some (by kernel_rfl))⟩
  f28 := Tryd.func140.trans (congrArg some (by kernel_rfl))
  f29 := Tryd.func141.trans (congrArg some (by kernel_rfl))
  f46 := ⟨Tryd.f162.name, by decide, Tryd.func162.trans (congrArg some (by kernel_rfl))⟩
  f47 := Tryd.func149.trans (congrArg some (by kernel_rfl))
  f48 := Tryd.func150.trans (congrArg some (by kernel_rfl))
  f49 := ⟨Tryd.f163.name, by decide, Tryd.func163.trans (congrArg some (by kernel_rfl))⟩
  f50 := ⟨Tryd.f164.name, by decide, Tryd.func164.trans (congrArg some (by kernel_rfl))⟩
  f57 := ⟨Tryd.f165.name, by decide, Tryd.func165.trans (congrArg some (by kernel_rfl))⟩
  t0 := Tryd.underlying0
  a0 := Tryd.isAgg0
  z0 := Tryd.sizeOf0
  v0 := Tryd.zeroValue0
  t3 := Tryd.underlying3
  a3 := Tryd.isAgg3
  z3 := Tryd.sizeOf3
  v3 := Tryd.zeroValue3
  t4 := Tryd.underlying4
  a4 := Tryd.isAgg4
  z4 := Tryd.sizeOf4
  v4 := Tryd.zeroValue4
  t5 := Tryd.underlying5
  a5 := Tryd.isAgg5
  z5 := Tryd.sizeOf5
  v5 := Tryd.zeroValue5
  t9 := Tryd.underlying9
  a9 := Tryd.isAgg9
  z9 := Tryd.sizeOf9
  v9 := Tryd.zeroValue9
  t22 := Tryd.underlying23
  a22 := Tryd.isAgg23
  z22 := Tryd.sizeOf23
  v22 := Tryd.zeroValue23
  t25 := Tryd.underlying116
  a25 := Tryd.isAgg116
  z25 := Tryd.sizeOf116
  v25 := Tryd.zeroValue116
  t39 := Tryd.underlying134
  a39 := Tryd.isAgg134
  z39 := Tryd.sizeOf134
  v39 := Tryd.zeroValue134
  t45 := Tryd.underlying156
  a45 := Tryd.isAgg156
  z45 := Tryd.sizeOf156
  v45 := Tryd.zeroValue156
  t46 := Tryd.underlying157
  a46 := Tryd.isAgg157
  z46 := Tryd.sizeOf157
  v46 := Tryd.zeroValue157
  t50 := Tryd.underlying87
  a50 := Tryd.isAgg87
  z50 := Tryd.sizeOf87
  v50 := Tryd.zeroValue87
  t53 := Tryd.underlying163
  a53 := Tryd.isAgg163
  z53 := Tryd.sizeOf163
  v53 := Tryd.zeroValue163
  t55 := Tryd.underlying60
  a55 := Tryd.isAgg60
  z55 := Tryd.sizeOf60
  v55 := Tryd.zeroValue60
  t66 := Tryd.underlying168
  a66 := Tryd.isAgg168
  z66 := Tryd.sizeOf168
  v66 := Tryd.zeroValue168
  t70 := Tryd.underlying172
  a70 := Tryd.isAgg172
  z70 := Tryd.sizeOf172
  v70 := Tryd.zeroValue172
  t76 := Tryd.underlying179
  a76 := Tryd.isAgg179
  z76 := Tryd.sizeOf179
  v76 := Tryd.zeroValue179
  t77 := Tryd.underlying180
  a77 := Tryd.isAgg180
  z77 := Tryd.sizeOf180
  v77 := Tryd.zeroValue180 }

end Go.Proofs.YtdnglodemkeooaaDoor
namespace Go.Proofs.YtdnglodemkeooaaDoor
open Go.RowKit
set_option linter.unusedVariables false

/-- A pair's place, or how many there are. -/
def findP : List (Int × Int) → Int → Int → Nat
  | [], _, _ => 0
  | p :: r, x, y => if p.1 = x ∧ p.2 = y then 0 else findP r x y + 1
theorem findP_le : ∀ (L : List (Int × Int)) (x y : Int), findP L x y ≤ L.length
  | [], _, _ => Nat.le_refl _
  | p :: r, x, y => by
    unfold findP
    have := findP_le r x y
    split <;> simp <;> omega
/-- All pairs of one of both. -/
def crossP (S T : List Int) : List (Int × Int) := S.flatMap fun x => T.map fun y => (x, y)
theorem crossP_take {S T : List Int} {k : Nat} {x : Int} (h : k < S.length) (hx : Hid (x = S[k]?.getD 0)) : crossP (S.take (k + 1)) T = crossP (S.take k) T ++ T.map fun y => (x, y) := by
  have hx := hx.out
  rw [List.getElem?_eq_getElem h, Option.getD_some] at hx
  unfold crossP
  rw [List.take_add_one, List.getElem?_eq_getElem h, List.flatMap_append, ← hx]
  simp
theorem mapP_take {T : List Int} {q : Nat} {x y : Int} (h : q < T.length) (hy : Hid (y = T[q]?.getD 0)) : ((T.take (q + 1)).map fun z => (x, z)) = ((T.take q).map fun z => (x, z)) ++ [(x, y)] := by
  have hy := hy.out
  rw [List.getElem?_eq_getElem h, Option.getD_some] at hy
  rw [List.take_add_one, List.getElem?_eq_getElem h, List.map_append, ← hy]
  simp
/-- Where a pair leads to. -/
def leadsP (ars brs : List Arr) (p : Int × Int) (e : Int) (inA inB : Bool) : List (Int × Int) :=
  if (inA || inB) = true then crossP (if inA = true then stepL ars [p.1] e else [p.1]) (if inB = true then stepL brs [p.2] e else [p.2]) else []
/-- Pairs found, and arrows. -/
structure BS where
  ps : List (Int × Int)
  ar : List Arr
/-- One pair that is led to. -/
def bAdd (i : Nat) (e : Int) (s : BS) (p : Int × Int) : BS :=
  ⟨if findP s.ps p.1 p.2 = s.ps.length then s.ps ++ [p] else s.ps, s.ar ++ [⟨(i : Int), e, (findP s.ps p.1 p.2 : Nat)⟩]⟩
/-- What a pair leads to, at one event. -/
def bEv (a b : Mach) (ofA ofB : List Int) (i : Nat) (p : Int × Int) (s : BS) (e : Int) : BS := (leadsP a.arrows b.arrows p e (hasB ofA e) (hasB ofB e)).foldl (bAdd i e) s
/-- .. at the first k events. -/
def bEvs (a b : Mach) (ofA ofB : List Int) (i : Nat) (p : Int × Int) (s : BS) (k : Nat) : BS := (List.range k).foldl (fun (s : BS) (e : Nat) => bEv a b ofA ofB i p s (e : Int)) s
def bPair (a b : Mach) (ofA ofB : List Int) (s : BS) (i : Nat) : BS := bEvs a b ofA ofB i (s.ps[i]?.getD (0, 0)) s a.ev.toNat
/-- Too many? -/
def bBig (s : BS) : Bool := decide (256 < s.ps.length) || decide (4096 < s.ar.length)
def bGo (a b : Mach) (ofA ofB : List Int) : Nat → Nat → BS → Option BS
  | 0, _, s => some s
  | f + 1, i, s => if i < s.ps.length then (if bBig (bPair a b ofA ofB s i) = true then none else bGo a b ofA ofB f (i + 1) (bPair a b ofA ofB s i)) else some s
/-- 0, 1, .., n - 1. -/
def rngI (n : Nat) : List Int := (List.range n).map fun k : Nat => (k : Int)
theorem rngI_succ (n : Nat) : rngI (n + 1) = rngI n ++ [(n : Int)] := by simp [rngI, List.range_succ]
theorem rngI_len (n : Nat) : (rngI n).length = n := by simp [rngI]
def besideS (a b : Mach) (ofA ofB : List Int) : Option BS := bGo a b ofA ofB 300 0 ⟨crossP a.starts b.starts, []⟩
/-- Which pairs are ends. -/
def endsP (a b : Mach) (L : List (Int × Int)) (n : Nat) : List Int := (rngI n).filter fun k => (hasB a.ends (L[k.toNat]?.getD (0, 0)).1 && hasB b.ends (L[k.toNat]?.getD (0, 0)).2)
def besideM (a b : Mach) (s : BS) : Mach := ⟨if s.ps.length = 0 then 1 else s.ps.length, a.ev, rngI (crossP a.starts b.starts).length, srtA s.ar, endsP a b s.ps s.ps.length⟩

theorem bEvs_succ (a b : Mach) (ofA ofB : List Int) (i : Nat) (p : Int × Int) (s : BS) (k : Nat) : bEvs a b ofA ofB i p s (k + 1) = bEv a b ofA ofB i p (bEvs a b ofA ofB i p s k) (k : Int) := by
  unfold bEvs; rw [List.range_succ, List.foldl_append]; rfl
theorem bAdd_ps (i : Nat) (e : Int) (s : BS) (p : Int × Int) : ∃ t, (bAdd i e s p).ps = s.ps ++ t ∧ t.length ≤ 1 := by
  unfold bAdd
  by_cases h : findP s.ps p.1 p.2 = s.ps.length
  · exact ⟨[p], by simp [h], by simp⟩
  · exact ⟨[], by simp [h], by simp⟩
theorem bFold_ps (i : Nat) (e : Int) : ∀ (L : List (Int × Int)) (s : BS), ∃ t, (L.foldl (bAdd i e) s).ps = s.ps ++ t ∧ t.length ≤ L.length
  | [], s => ⟨[], by simp, by simp⟩
  | p :: r, s => by
    obtain ⟨t, h1, h2⟩ := bAdd_ps i e s p
    obtain ⟨t', h3, h4⟩ := bFold_ps i e r (bAdd i e s p)
    exact ⟨t ++ t', by rw [List.foldl_cons, h3, h1, List.append_assoc], by simp; omega⟩
theorem bFold_ar (i : Nat) (e : Int) : ∀ (L : List (Int × Int)) (s : BS), (L.foldl (bAdd i e) s).ar.length = s.ar.length + L.length
  | [], s => by simp
  | p :: r, s => by
    rw [List.foldl_cons, bFold_ar i e r]
    simp [bAdd]; omega
end Go.Proofs.YtdnglodemkeooaaDoor
