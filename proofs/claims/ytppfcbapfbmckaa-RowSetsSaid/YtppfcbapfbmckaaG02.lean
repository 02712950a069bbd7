/-
  What is said of a slice of integers that a call has made: 'Own'; what an append of one number does to it.
  append(v, y...) of integers: v a row of the call's own, y any slice; and the empty literal slice.
  The walks of row.finder and of the closure that it answers (row.finder$1): a list gone through once for rising numbers.
  The walks of row.first and row.behind, and the plain facts on them: the least number of two rows, and what is left of a row behind it.
  The walk of jalousieref1.Only: the numbers of a list that are (or are not) in another one.
  The walk of row.pick: the numbers of two rows of which a closure says that they stay; and its answer where one is no row.
  The walk of row.pick with the closure of row.Join: the numbers of two rows of which it says that they stay.
-/
import Derived.Test.YtppfcbapfbmckaaG01
import Derived.Laws.EntriesVeiled
namespace Go.Proofs.Ytppfcbapfbmckaa
open Go.RowKit

theorem Try.infoInt : (Try.prog.info? 3).map (fun i => (i.zero, i.size, i.bytes)) = some (some (.int .i64 0), 1, 8) := by kernel_rfl

/-- The slice v is in memory made from block B on, and holds xs. -/
def Own (w : World) (B : Nat) (v : Value) (xs : List Int) : Prop := w.ownsRow B 3 1 v xs.length (xs.map (Value.int .i64))

theorem own_nil (w : World) (B : Nat) : Own w B (.slice none 0 0) [] := World.ownsRow_nil _ _ _ _

theorem Own.at {w : World} {B : Nat} {v : Value} {xs : List Int} (h : Own w B v xs) : ∃ a cap, v = .slice a xs.length cap ∧ At w a xs ∧ xs.length ≤ maxLen := by
  rcases h.2 with ⟨rfl, hn⟩ | ⟨g, cap, cur, rfl, hg, hh, hnc, hcm, hcs, ht⟩
  · have : xs = [] := List.eq_nil_of_length_eq_zero hn
    subst this
    exact ⟨none, 0, rfl, .inl rfl, Nat.zero_le _⟩
  · refine ⟨some ⟨g, 0, none⟩, cap, rfl, .inr ⟨g, 0, rfl, (Array.getElem?_eq_some_iff.1 hh).1, fun j hj => ?_⟩, Nat.le_trans hnc hcm⟩
    have := h.cells (g := g) rfl j (.int .i64 (xs.getD j 0)) (by rw [List.getElem?_map, List.getElem?_eq_getElem hj]; simp [List.getElem?_eq_getElem hj])
    rw [show (⟨g, 0, none⟩ : Addr).add j = ⟨g, 0 + j, none⟩ from by unfold Addr.add; split <;> simp_all] at this
    exact this

/-- What a call that hands back a slice leaves: the slice reads as xs, and nothing old has turned. -/
def Gives (w : World) (xs : List Int) (e : Ending) (w' : World) : Prop := ∃ a cap, e = .returned (.slice a xs.length cap) ∧ At w' a xs ∧ xs.length ≤ maxLen ∧ Below w.heap.size w w'

theorem gives_of_own {w w' : World} {B : Nat} {v : Value} {xs : List Int} (h : Own w' B v xs) (hb : Below w.heap.size w w') : Gives w xs (.returned v) w' := by
  obtain ⟨a, cap, rfl, h1, h2⟩ := h.at
  exact ⟨a, cap, rfl, h1, h2, hb⟩

theorem own_snoc {w wr w1 : World} {B : Nat} {v v' : Value} {L : List Int} {x : Int} {o : Obj} (hown : Own wr B v L) (hb : Below B w wr) (hB : B ≤ wr.heap.size)
    (hown' : w1.ownsRow B 3 1 v' (L.length + 1) (L.map (Value.int .i64) ++ [.int .i64 x])) (hgrow : (wr.alloc o).grownBy w1 v.ownBlock) :
    Own w1 B v' (L ++ [x]) ∧ Below B w w1 ∧ B ≤ w1.heap.size := by
  refine ⟨by unfold Own; rw [List.length_append, List.map_append]; exact hown', (hb.alloc hB o).grown hgrow (by simp; omega) (fun j hj => (hown.lt j hj).1), ?_⟩
  have := hgrow.size
  simp at this
  omega

theorem Own.drewN {w : World} {B : Nat} {v : Value} {xs : List Int} (h : Own w B v xs) (m : Nat) : Own (w.drewN m) B v xs := h

/-- An owned slice, as its value and its cells. -/
theorem Own.cells_of {w : World} {B : Nat} {v : Value} {xs : List Int} (h : Own w B v xs) : (v = .slice none 0 0 ∧ xs = []) ∨ ∃ g cap, v = .slice (some ⟨g, 0, none⟩) xs.length cap ∧ B ≤ g ∧ g < w.heap.size ∧ Cells w g 0 xs ∧ (∀ j, w.frozen? ⟨g, j, none⟩ = false) := by
  rcases h.2 with ⟨rfl, hn⟩ | ⟨g, cap, cur, rfl, hg, hh, hnc, hcm, hcs, ht⟩
  · exact .inl ⟨rfl, List.eq_nil_of_length_eq_zero hn⟩
  · refine .inr ⟨g, cap, rfl, hg, (Array.getElem?_eq_some_iff.1 hh).1, fun j hj => ?_, fun j => ?_⟩
    · have := h.cells (g := g) rfl j (.int .i64 (xs.getD j 0)) (by rw [List.getElem?_map, List.getElem?_eq_getElem hj]; simp [List.getElem?_eq_getElem hj])
      rw [show (⟨g, 0, none⟩ : Addr).add j = ⟨g, 0 + j, none⟩ from by unfold Addr.add; split <;> simp_all] at this
      exact this
    · simp [World.frozen?, hh]

end Go.Proofs.Ytppfcbapfbmckaa
namespace Go.Proofs.Ytppfcbapfbmckaa
open Go.RowKit
set_option linter.unusedVariables false

section
variable {P : Program} (w : World)
theorem wp_append_nil {o : Oper} {a : Act} {K : Act → World → Prop} {Q : Exit → Act → World → Prop} (s x : Operand) (t : TypeId)
    (ho : o.op = .call { callee := .builtin .append, args := #[s, x], argTypes := #[t, t] })
    (base : Nat) (e : TypeId) (i : TypeInfo) (size : Nat) (ht : P.underlying t = some (.slice e)) (hi : P.info? e = some i)
    (v : Value) (n : Nat) (xs : List Value) (hs : a.eval s = v) (hown : w.ownsRow base e size v n xs) (hx : a.eval x = .slice none 0 0)
    (h : K (a.put o.dst v) w) : o.wp P a w K Q := by
  have hr := run_append_owned_none (P := P) w base t o.type e i size ht hi v n xs hown
  unfold Oper.wp execOp
  simp only [ho, resolve, invoke, builtin, Sem.run_bind, Sem.run_pure, Result.andThen_ok, List.map_toArray, List.map_cons, List.map_nil, hs, hx, hr]
  exact h

/-- append(v, y...): v is a row of integers of the call's own, y any slice of integers (nil among them). -/
theorem wpList_append_ints {ops : Array Oper} {rest : List Oper} {o : Oper} {a : Act} {Q : Exit → Act → World → Prop} (hgd : o.guard = none) (s x : Operand) (t : TypeId)
    (ho : o.op = .call { callee := .builtin .append, args := #[s, x], argTypes := #[t, t] })
    (B : Nat) (i : TypeInfo) (ht : P.underlying t = some (.slice 3)) (hi : P.info? 3 = some i) (hz : i.zero = some (.int .i64 0)) (hsize : i.size = 1) (hby : i.bytes = 8)
    (v : Value) (L : List Int) (hs : a.eval s = v) (hown : Own w B v L)
    (ad : Option Addr) (c : Nat) (ys : List Int) (hx : a.eval x = .slice ad ys.length c) (hat : At w ad ys) (hnil : ad = none → c = 0)
    (hroom : (L.length + ys.length) * 8 ≤ 140737488355328) (hbase : B ≤ w.heap.size)
    (h : ∀ v' w', Own w' B v' (L ++ ys) → Below B w w' → B ≤ w'.heap.size → wpList P ops Q rest (a.put o.dst v') w') : wpList P ops Q (o :: rest) a w := by
  cases ad with
  | none =>
    have hy : ys = [] := by
      rcases hat with h | ⟨b, off, h, _⟩
      · exact h
      · cases h
    subst hy
    rw [hnil rfl] at hx
    refine wpList_plain hgd fun _ hK => wp_append_nil w s x t ho B 3 i 1 ht hi v _ _ hs hown hx (hK _ _ (h v w ?_ (Below.refl _ _) hbase))
    rw [List.append_nil]; exact hown
  | some ad =>
    refine wpList_append_own w hgd s x t ho B 3 i (.int .i64 0) 1 8 ht hi hz hsize hby rfl (by decide) v _ _ hs hown ad ys.length c (ys.map (Value.int .i64)) hx (by simp) ?_ ?_ (by unfold maxLen; omega) hroom hbase ?_
    · intro j u hu
      rw [List.getElem?_map] at hu
      rcases hat with h0 | ⟨b, off, h0, _, hc⟩
      · subst h0; simp at hu
      · cases h0
        cases hj : ys[j]? with
        | none => rw [hj] at hu; simp at hu
        | some y =>
          rw [hj] at hu
          simp only [Option.map_some, Option.some.injEq] at hu
          subst hu
          have := hc j (List.getElem?_eq_some_iff.1 hj).1
          rw [List.getD_eq_getElem?_getD, hj, Option.getD_some] at this
          rw [show (⟨b, off, none⟩ : Addr).add j = ⟨b, off + j, none⟩ from by simp [Addr.add]]
          exact this
    · intro u hu
      obtain ⟨y, _, rfl⟩ := List.mem_map.1 hu
      rfl
    · intro v' w' ho' hg _
      refine h v' w' ?_ ((Below.refl _ _).grown hg hbase (fun j hj => (hown.lt j hj).1)) (Nat.le_trans hbase hg.size)
      unfold Own
      rw [List.length_append, List.map_append]
      exact ho'
end

theorem own_empty (w : World) : Own (w.alloc (.cells #[] 3)) w.heap.size (.slice (some ⟨w.heap.size, 0, none⟩) 0 0) [] :=
  World.ownsRow_lit w #[] 0 (Nat.le_refl _) (Nat.zero_le _) rfl

end Go.Proofs.Ytppfcbapfbmckaa
namespace Go.Proofs.Ytppfcbapfbmckaa
open Go.RowKit
set_option linter.unusedVariables false

/-- Of the blocks of which K holds each is as it was. -/
structure Kept (K : Nat → Prop) (w w' : World) : Prop where
  os : w'.os = w.os
  tape : w'.tape = w.tape
  output : w'.output = w.output
  size : w.heap.size ≤ w'.heap.size
  block : ∀ k, K k → w'.heap[k]? = w.heap[k]?

theorem Kept.refl (K : Nat → Prop) (w : World) : Kept K w w := ⟨rfl, rfl, rfl, Nat.le_refl _, fun _ _ => rfl⟩
theorem Kept.trans {K : Nat → Prop} {a b c : World} (h : Kept K a b) (k : Kept K b c) : Kept K a c :=
  ⟨k.os.trans h.os, k.tape.trans h.tape, k.output.trans h.output, Nat.le_trans h.size k.size, fun i hi => (k.block i hi).trans (h.block i hi)⟩
theorem Kept.mono {K K' : Nat → Prop} {w w' : World} (h : Kept K w w') (hB : ∀ k, K' k → K k) : Kept K' w w' := ⟨h.os, h.tape, h.output, h.size, fun k hk => h.block k (hB k hk)⟩
theorem Kept.cell {K : Nat → Prop} {w w' : World} (h : Kept K w w') {p : Addr} (hp : K p.block) : w'.cell? p = w.cell? p := World.cell?_of_block (w := w) (h.block p.block hp)
theorem Kept.frozen {K : Nat → Prop} {w w' : World} (h : Kept K w w') {p : Addr} (hp : K p.block) : w'.frozen? p = w.frozen? p := World.frozen?_of_block (w := w) (h.block p.block hp)
theorem Kept.setCell {K : Nat → Prop} {a w : World} (h : Kept K a w) {p : Addr} (hp : ¬ K p.block) (u : Value) : Kept K a (w.setCell p u) :=
  h.trans ⟨rfl, rfl, rfl, by simp [World.setCell], fun k hk => Below.heap_setCell _ _ _ _ (fun e => hp (e ▸ hk))⟩
theorem Kept.below {K : Nat → Prop} {w w' : World} (h : Kept K w w') {B : Nat} (hB : ∀ k, k < B → K k) : Below B w w' := ⟨h.os, h.tape, h.output, h.size, fun k hk => h.block k (hB k hk)⟩

/-- The slice 'a' of block number less than B reads as xs. -/
def AtB (w : World) (B : Nat) (a : Option Addr) (xs : List Int) : Prop := xs = [] ∨ ∃ b off, a = some ⟨b, off, none⟩ ∧ b < B ∧ Cells w b off xs

theorem AtB.kept {w w' : World} {B : Nat} {a : Option Addr} {xs : List Int} {K : Nat → Prop} (h : AtB w B a xs) (hk : Kept K w w') (hB : ∀ k, k < B → K k) : AtB w' B a xs := by
  rcases h with h | ⟨b, off, rfl, hlt, hc⟩
  · exact .inl h
  · exact .inr ⟨b, off, rfl, hlt, fun j hj => by rw [hk.cell (p := ⟨b, off + j, none⟩) (hB b hlt)]; exact hc j hj⟩

/-- What the call knows of a finder: the place where it stands (all ahead of it is below n), and its list. -/
structure FI (w : World) (B pa pl : Nat) (a : Option Addr) (cap : Nat) (xs : List Int) (n : Int) (k : Nat) : Prop where
  le : k ≤ xs.length
  low : ∀ j, j < k → xs[j]?.getD 0 < n
  cur : w.cell? ⟨pa, 0, none⟩ = some (.int .i64 k)
  free : w.frozen? ⟨pa, 0, none⟩ = false
  lst : w.cell? ⟨pl, 0, none⟩ = some (.slice a xs.length cap)
  ne : pa ≠ pl
  ba : B ≤ pa
  bl : B ≤ pl
  row : AtB w B a xs
  small : xs.length ≤ 9223372036854775807

theorem FI.step {w : World} {B pa pl : Nat} {a : Option Addr} {cap : Nat} {xs : List Int} {n : Int} {k : Nat} (h : FI w B pa pl a cap xs n k) (hlt : k < xs.length) (hx : xs[k]?.getD 0 < n) :
    FI (w.setCell ⟨pa, 0, none⟩ (.int .i64 ((k : Int) + 1))) B pa pl a cap xs n (k + 1) where
  le := hlt
  low := fun j hj => by
    by_cases e : j = k
    · subst e; exact hx
    · exact h.low j (by omega)
  cur := by rw [World.cell?_setCell_same _ _ _ h.cur]; simp
  free := (World.frozen?_setCell _ _ _ _).trans h.free
  lst := (World.cell?_setCell_other _ _ _ _ (by simp; intro e; exact (h.ne e).elim)).trans h.lst
  ne := h.ne
  ba := h.ba
  bl := h.bl
  row := h.row.kept (K := fun k => k < B) ((Kept.refl _ _).setCell (by have := h.ba; show ¬ pa < B; omega) _) (fun _ h => h)
  small := h.small

theorem FI.mono {w : World} {B pa pl : Nat} {a : Option Addr} {cap : Nat} {xs : List Int} {n m : Int} {k : Nat} (h : FI w B pa pl a cap xs n k) (hm : n ≤ m) : FI w B pa pl a cap xs m k :=
  ⟨h.le, fun j hj => by have := h.low j hj; omega, h.cur, h.free, h.lst, h.ne, h.ba, h.bl, h.row, h.small⟩

theorem FI.kept {w w' : World} {B pa pl : Nat} {a : Option Addr} {cap : Nat} {xs : List Int} {n : Int} {k : Nat} {K : Nat → Prop} (h : FI w B pa pl a cap xs n k) (hk : Kept K w w') (h1 : K pa) (h2 : K pl) (hB : ∀ k, k < B → K k) : FI w' B pa pl a cap xs n k :=
  ⟨h.le, h.low, (hk.cell (p := ⟨pa, 0, none⟩) h1).trans h.cur, (hk.frozen (p := ⟨pa, 0, none⟩) h1).trans h.free, (hk.cell (p := ⟨pl, 0, none⟩) h2).trans h.lst, h.ne, h.ba, h.bl, h.row.kept hk hB, h.small⟩

/-- Where a finder stands. -/
def atOf (p : Nat) (w : World) : Nat := (intOf ((w.cell? ⟨p, 0, none⟩).getD (.int .i64 0))).toNat

theorem FI.atOf {w : World} {B pa pl : Nat} {a : Option Addr} {cap : Nat} {xs : List Int} {n : Int} {k : Nat} (h : FI w B pa pl a cap xs n k) : atOf pa w = k := by
  unfold Ytppfcbapfbmckaa.atOf; rw [h.cur]; simp [intOf]

theorem find_yes {xs : List Int} {k : Nat} {n x : Int} (h : k < xs.length) (hx : Hid (x = xs[k]?.getD 0)) (e : x = n) : true = hasB xs n := by
  have hx := hx.out
  rw [List.getElem?_eq_getElem h, Option.getD_some] at hx
  simp only [hasB]
  rw [eq_comm, List.contains_iff_mem, ← e, hx]
  exact List.getElem_mem h
theorem find_no {xs : List Int} {k : Nat} {n x : Int} (hi : Inc xs) (h : k < xs.length) (hx : Hid (x = xs[k]?.getD 0)) (e : n < x) (low : ∀ j, j < k → xs[j]?.getD 0 < n) : false = hasB xs n := by
  have hx := hx.out
  rw [List.getElem?_eq_getElem h, Option.getD_some] at hx
  simp only [hasB]
  rw [eq_comm, ← Bool.not_eq_true, List.contains_iff_mem]
  intro m
  obtain ⟨j, hj, hjn⟩ := List.getElem_of_mem m
  by_cases c : j < k
  · have := low j c; rw [List.getElem?_eq_getElem hj, Option.getD_some] at this; omega
  · by_cases c' : j = k
    · subst c'; omega
    · have := (List.pairwise_iff_getElem.1 hi) k j h hj (by omega); omega
theorem find_out {xs : List Int} {k : Nat} {n : Int} (h : ¬ k < xs.length) (low : ∀ j, j < k → xs[j]?.getD 0 < n) : false = hasB xs n := by
  simp only [hasB]
  rw [eq_comm, ← Bool.not_eq_true, List.contains_iff_mem]
  intro m
  obtain ⟨j, hj, hjn⟩ := List.getElem_of_mem m
  have := low j (by omega); rw [List.getElem?_eq_getElem hj, Option.getD_some] at this; omega

set_option maxHeartbeats 1000000 in
theorem rowFind_any (w : World) (B pa pl : Nat) (a : Option Addr) (cap : Nat) (xs : List Int) (n : Int) (k0 : Nat) (hi : Inc xs) (hf : FI w B pa pl a cap xs n k0) :
    Calls Try.prog 25 #[.int .i64 n, .pointer (some ⟨pa, 0, none⟩), .pointer (some ⟨pl, 0, none⟩)] w fun e w' => e = .returned (.bool (hasB xs n)) ∧ (∃ k, FI w' B pa pl a cap xs n k) ∧ Kept (fun k => k ≠ pa) w w' := by
  have HI : Hid (Inc xs) := hi
  have hsm := hf.small
  clear hi
  go_enter Try.func25, Try.ntmps25
  go_wp2
  go_loopw [] (fun wr => ∃ k, FI wr B pa pl a cap xs n k ∧ Kept (fun k => k ≠ pa) w wr) (fun wr => xs.length - atOf pa wr)
  case atStart => exact ⟨k0, hf, Kept.refl _ _⟩
  case round =>
    obtain ⟨k, hk, hkept⟩ := hrel
    have hcur := hk.cur
    have hlst := hk.lst
    have hfree := hk.free
    have hle := hk.le
    by_cases hlt : k < xs.length
    · rcases hk.row with h0 | ⟨b, off, rfl, hb, hc⟩
      · subst h0; simp at hlt
      · obtain ⟨x, HX, hcx⟩ := hc.at hlt
        by_cases c1 : x < n
        · have hst := hk.step hlt (by have := HX.out; omega)
          have hme := hst.atOf
          have hme0 := hk.atOf
          have hkp := hkept.setCell (p := ⟨pa, 0, none⟩) (by simp) (.int .i64 ((k : Int) + 1))
          have H1 : Hid (atOf pa (wr.setCell ⟨pa, 0, none⟩ (.int .i64 ((k : Int) + 1))) = k + 1) := hme
          have H0 : Hid (atOf pa wr = k) := hme0
          clear hme hme0
          go_wp2
          go_roundw
          case rel => exact ⟨k + 1, hst, hkp⟩
          case measure => rw [H1.out, H0.out]; omega
        · by_cases c2 : x = n
          · have HE : Hid (x = n) := c2
            have d : (x == n) = true := by simp [c2]
            clear c2
            go_wp2
            go_ret
            exact ⟨ret_bool (find_yes hlt HX HE.out), ⟨k, hk⟩, hkept⟩
          · have d : (x == n) = false := by simp [c2]
            go_wp2
            go_ret
            exact ⟨ret_bool (find_no HI.out hlt HX (by omega) hk.low), ⟨k, hk⟩, hkept⟩
    · go_wp2
      go_ret
      exact ⟨ret_bool (find_out hlt hk.low), ⟨k, hk⟩, hkept⟩

theorem At.atB {w : World} {a : Option Addr} {xs : List Int} (h : At w a xs) : AtB w w.heap.size a xs := h

theorem kept_alloc (w : World) (o : Obj) {K : Nat → Prop} (hK : ∀ k, K k → k < w.heap.size) : Kept K w (w.alloc o) := ⟨rfl, rfl, rfl, by simp, fun k hk => Below.heap_alloc _ _ _ (hK k hk)⟩

theorem fi_new (w : World) (B : Nat) (a : Option Addr) (cap : Nat) (xs : List Int) (n : Int) (hs : AtB w B a xs) (hB : B ≤ w.heap.size) (hl : xs.length ≤ maxLen) :
    FI ((w.alloc (.cells #[.slice a xs.length cap] 22)).alloc (.cells #[.int .i64 0] 3)) B (w.heap.size + 1) w.heap.size a cap xs n 0 where
  le := Nat.zero_le _
  low := fun j hj => by omega
  cur := by rw [World.cell?_alloc_at _ _ _ _ (by simp)]; rfl
  free := World.frozen?_alloc_at _ _ _ _ (by simp)
  lst := by rw [World.cell?_alloc_past _ _ _ (by simp), World.cell?_alloc_at _ _ _ _ rfl]; rfl
  ne := by omega
  ba := by omega
  bl := hB
  row := (hs.kept (kept_alloc w _ (K := fun k => k < w.heap.size) (fun _ h => h)) (fun k h => by omega)).kept (kept_alloc _ _ (K := fun k => k < w.heap.size + 1) (fun k h => by simpa using h)) (fun k h => by omega)
  small := hl

set_option maxHeartbeats 400000 in
theorem finder_any (a : Option Addr) (cap : Nat) (xs : List Int) (w : World) :
    Calls Try.prog 18 #[.slice a xs.length cap] w fun e w' => e = .returned (.func (.func 25) #[] #[.pointer (some ⟨w.heap.size + 1, 0, none⟩), .pointer (some ⟨w.heap.size, 0, none⟩)]) ∧ (w.alloc (.cells #[.slice a xs.length cap] 22)).alloc (.cells #[.int .i64 0] 3) = w' := by
  have hmf : ∀ (fn : Fn) (first cap : Array Value) (w : World), (Instr.makeFunc fn first cap).run Try.prog w = .ok (.func fn first cap) w := fun _ _ _ _ => rfl
  go_enter Try.func18, Try.ntmps18
  go_wp2
  go_ret
  exact ⟨rfl, rfl⟩

/-- What is known of the two finders that Join, Meet and Less lay: from block B on: the first list, its place; the second list, its place; the two variables that hold them. -/
structure PI (w : World) (B : Nat) (a1 : Option Addr) (c1 : Nat) (xs : List Int) (a2 : Option Addr) (c2 : Nat) (ys : List Int) (n : Int) : Prop where
  f1 : ∃ k, FI w B (B + 1) B a1 c1 xs n k
  f2 : ∃ k, FI w B (B + 3) (B + 2) a2 c2 ys n k
  qa : w.cell? ⟨B + 4, 0, none⟩ = some (.func (.func 25) #[] #[.pointer (some ⟨B + 1, 0, none⟩), .pointer (some ⟨B, 0, none⟩)])
  qb : w.cell? ⟨B + 5, 0, none⟩ = some (.func (.func 25) #[] #[.pointer (some ⟨B + 3, 0, none⟩), .pointer (some ⟨B + 2, 0, none⟩)])

theorem PI.mono {w : World} {B : Nat} {a1 : Option Addr} {c1 : Nat} {xs : List Int} {a2 : Option Addr} {c2 : Nat} {ys : List Int} {n m : Int} (h : PI w B a1 c1 xs a2 c2 ys n) (hm : n ≤ m) : PI w B a1 c1 xs a2 c2 ys m :=
  ⟨h.f1.imp fun _ h => h.mono hm, h.f2.imp fun _ h => h.mono hm, h.qa, h.qb⟩

theorem PI.kept {w w' : World} {B : Nat} {a1 : Option Addr} {c1 : Nat} {xs : List Int} {a2 : Option Addr} {c2 : Nat} {ys : List Int} {n : Int} (h : PI w B a1 c1 xs a2 c2 ys n) (hk : Kept (fun k => k < B + 6) w w') : PI w' B a1 c1 xs a2 c2 ys n := by
  obtain ⟨k1, h1⟩ := h.f1
  obtain ⟨k2, h2⟩ := h.f2
  exact ⟨⟨k1, h1.kept hk (by omega) (by omega) (fun k h => by omega)⟩, ⟨k2, h2.kept hk (by omega) (by omega) (fun k h => by omega)⟩, (hk.cell (p := ⟨B + 4, 0, none⟩) (by show B + 4 < B + 6; omega)).trans h.qa, (hk.cell (p := ⟨B + 5, 0, none⟩) (by show B + 5 < B + 6; omega)).trans h.qb⟩

theorem PI.first {w w' : World} {B : Nat} {a1 : Option Addr} {c1 : Nat} {xs : List Int} {a2 : Option Addr} {c2 : Nat} {ys : List Int} {n : Int} (h : PI w B a1 c1 xs a2 c2 ys n) (h1 : ∃ k, FI w' B (B + 1) B a1 c1 xs n k) (hk : Kept (fun k => k ≠ B + 1) w w') : PI w' B a1 c1 xs a2 c2 ys n := by
  obtain ⟨k2, h2⟩ := h.f2
  exact ⟨h1, ⟨k2, h2.kept hk (by omega) (by omega) (fun k h => by omega)⟩, (hk.cell (p := ⟨B + 4, 0, none⟩) (by show B + 4 ≠ B + 1; omega)).trans h.qa, (hk.cell (p := ⟨B + 5, 0, none⟩) (by show B + 5 ≠ B + 1; omega)).trans h.qb⟩

theorem PI.second {w w' : World} {B : Nat} {a1 : Option Addr} {c1 : Nat} {xs : List Int} {a2 : Option Addr} {c2 : Nat} {ys : List Int} {n : Int} (h : PI w B a1 c1 xs a2 c2 ys n) (h2 : ∃ k, FI w' B (B + 3) (B + 2) a2 c2 ys n k) (hk : Kept (fun k => k ≠ B + 3) w w') : PI w' B a1 c1 xs a2 c2 ys n := by
  obtain ⟨k1, h1⟩ := h.f1
  exact ⟨⟨k1, h1.kept hk (by omega) (by omega) (fun k h => by omega)⟩, h2, (hk.cell (p := ⟨B + 4, 0, none⟩) (by show B + 4 ≠ B + 3; omega)).trans h.qa, (hk.cell (p := ⟨B + 5, 0, none⟩) (by show B + 5 ≠ B + 3; omega)).trans h.qb⟩

end Go.Proofs.Ytppfcbapfbmckaa
namespace Go.Proofs.Ytppfcbapfbmckaa
open Go.RowKit
set_option linter.unusedVariables false

/-- The least number of two rows that are not both empty. -/
def fst : List Int → List Int → Int
  | [], [] => 0
  | [], y :: _ => y
  | x :: _, [] => x
  | x :: _, y :: _ => min x y

/-- What is left of a row when n is taken from its front. -/
def rem : List Int → Int → List Int
  | [], _ => []
  | x :: r, n => if x = n then r else x :: r

theorem rem_hd (x : Int) (r : List Int) : rem (x :: r) x = r := by simp [rem]
theorem rem_ne {x n : Int} (r : List Int) (h : ¬ x = n) : rem (x :: r) n = x :: r := by simp [rem, h]
theorem rem_nil (n : Int) : rem [] n = [] := rfl
theorem fst_l {x y : Int} (a b : List Int) (h : x ≤ y) : fst (x :: a) (y :: b) = x := by simp only [fst]; omega
theorem fst_r {x y : Int} (a b : List Int) (h : y ≤ x) : fst (x :: a) (y :: b) = y := by simp only [fst]; omega

theorem rem_len (xs : List Int) (n : Int) : (rem xs n).length ≤ xs.length := by
  cases xs with
  | nil => exact Nat.le_refl _
  | cons x r =>
    by_cases h : x = n
    · subst h; rw [rem_hd]; simp
    · rw [rem_ne r h]; exact Nat.le_refl _

theorem uni_nil (a : List Int) : uni a [] = a := by cases a <;> rfl

theorem uni_step (xs ys : List Int) (h : ¬ (xs = [] ∧ ys = [])) : uni xs ys = fst xs ys :: uni (rem xs (fst xs ys)) (rem ys (fst xs ys)) := by
  cases xs with
  | nil =>
    cases ys with
    | nil => exact absurd ⟨rfl, rfl⟩ h
    | cons y b => show uni [] (y :: b) = y :: uni (rem [] y) (rem (y :: b) y); rw [rem_hd, rem_nil]; rfl
  | cons x a =>
    cases ys with
    | nil => show uni (x :: a) [] = x :: uni (rem (x :: a) x) (rem [] x); rw [rem_hd, rem_nil, uni_nil, uni_nil]
    | cons y b =>
      by_cases h1 : x < y
      · rw [fst_l a b (by omega), rem_hd, rem_ne b (by omega), uni_cc, if_pos h1]
      · by_cases h2 : y < x
        · rw [fst_r a b (by omega), rem_hd, rem_ne a (by omega), uni_cc, if_neg h1, if_pos h2]
        · have : x = y := by omega
          subst this
          rw [fst_l a b (by omega), rem_hd, rem_hd, uni_cc, if_neg h1, if_neg h1]

theorem rem_lenlt (xs ys : List Int) (h : ¬ (xs = [] ∧ ys = [])) : (rem xs (fst xs ys)).length + (rem ys (fst xs ys)).length < xs.length + ys.length := by
  cases xs with
  | nil =>
    cases ys with
    | nil => exact absurd ⟨rfl, rfl⟩ h
    | cons y b => show (rem [] y).length + (rem (y :: b) y).length < _; rw [rem_hd, rem_nil]; simp
  | cons x a =>
    cases ys with
    | nil => show (rem (x :: a) x).length + (rem [] x).length < _; rw [rem_hd, rem_nil]; simp
    | cons y b =>
      by_cases h1 : x ≤ y
      · have := rem_len (y :: b) x
        rw [fst_l a b h1, rem_hd]; simp only [List.length_cons] at this ⊢; omega
      · have := rem_len (x :: a) y
        rw [fst_r a b (by omega), rem_hd]; simp only [List.length_cons] at this ⊢; omega

theorem inc_rem {xs : List Int} (n : Int) (h : Inc xs) : Inc (rem xs n) := by
  cases xs with
  | nil => exact h
  | cons x r =>
    by_cases c : x = n
    · subst c; rw [rem_hd]; exact (List.pairwise_cons.1 h).2
    · rw [rem_ne r c]; exact h

theorem rem_low {xs ys : List Int} (hx : Inc xs) (hy : Inc ys) : (∀ z ∈ rem xs (fst xs ys), fst xs ys < z) ∧ (∀ z ∈ rem ys (fst xs ys), fst xs ys < z) := by
  cases xs with
  | nil =>
    cases ys with
    | nil => simp [rem]
    | cons y b => refine ⟨by simp [rem], ?_⟩; show ∀ z ∈ rem (y :: b) y, y < z; rw [rem_hd]; exact (List.pairwise_cons.1 hy).1
  | cons x a =>
    have ha := List.pairwise_cons.1 hx
    cases ys with
    | nil => refine ⟨?_, by simp [rem]⟩; show ∀ z ∈ rem (x :: a) x, x < z; rw [rem_hd]; exact ha.1
    | cons y b =>
      have hb := List.pairwise_cons.1 hy
      by_cases h1 : x < y
      · rw [fst_l a b (by omega), rem_hd, rem_ne b (by omega)]
        refine ⟨ha.1, fun z hz => ?_⟩
        rcases List.mem_cons.1 hz with rfl | hz
        · exact h1
        · have := hb.1 z hz; omega
      · by_cases h2 : y < x
        · rw [fst_r a b (by omega), rem_hd, rem_ne a (by omega)]
          refine ⟨fun z hz => ?_, hb.1⟩
          rcases List.mem_cons.1 hz with rfl | hz
          · exact h2
          · have := ha.1 z hz; omega
        · have : x = y := by omega
          subst this
          rw [fst_l a b (by omega), rem_hd, rem_hd]
          exact ⟨ha.1, hb.1⟩

theorem fst_ge {xs ys : List Int} {m : Int} (h : ¬ (xs = [] ∧ ys = [])) (hx : ∀ z ∈ xs, m ≤ z) (hy : ∀ z ∈ ys, m ≤ z) : m ≤ fst xs ys := by
  cases xs with
  | nil =>
    cases ys with
    | nil => exact absurd ⟨rfl, rfl⟩ h
    | cons y b => exact hy y (by simp)
  | cons x a =>
    cases ys with
    | nil => exact hx x (by simp)
    | cons y b => have := hx x (by simp); have := hy y (by simp); simp only [fst]; omega

set_option maxHeartbeats 400000 in
theorem first_nl (a b : Option Addr) (ca cb : Nat) (y : Int) (r : List Int) (w : World) (hl : (y :: r).length ≤ maxLen) (ht : At w b (y :: r)) :
    Calls Try.prog 26 #[.slice a 0 ca, .slice b (y :: r).length cb] w fun e w' => e = .returned (.int .i64 y) ∧ ∃ q, w' = w.drewN q := by
  rcases ht with h | ⟨bb, ob, rfl, -, hc⟩
  · cases h
  · have h0 := hc 0 (by simp)
    simp only [Nat.add_zero, List.getD_cons_zero] at h0
    clear hc
    unfold maxLen at hl
    generalize hn : (y :: r).length = n at *
    have hp : 0 < n := by rw [← hn]; simp
    clear hn
    go_enter Try.func26, Try.ntmps26
    go_wp2
    go_ret
    exact ⟨rfl, 0, rfl⟩

set_option maxHeartbeats 400000 in
theorem first_ln (a b : Option Addr) (ca cb : Nat) (x : Int) (r : List Int) (w : World) (hl : (x :: r).length ≤ maxLen) (ht : At w a (x :: r)) :
    Calls Try.prog 26 #[.slice a (x :: r).length ca, .slice b 0 cb] w fun e w' => e = .returned (.int .i64 x) ∧ ∃ q, w' = w.drewN q := by
  rcases ht with h | ⟨bb, ob, rfl, -, hc⟩
  · cases h
  · have h0 := hc 0 (by simp)
    simp only [Nat.add_zero, List.getD_cons_zero] at h0
    clear hc
    unfold maxLen at hl
    generalize hn : (x :: r).length = n at *
    have hp : 0 < n := by rw [← hn]; simp
    have hp2 : ((n : Int) == 0) = false := by simp; omega
    clear hn
    go_enter Try.func26, Try.ntmps26
    go_wp2
    go_ret
    exact ⟨rfl, 0, rfl⟩

set_option maxHeartbeats 400000 in
theorem first_ll (a b : Option Addr) (ca cb : Nat) (x y : Int) (r s : List Int) (w : World) (hl : (x :: r).length ≤ maxLen) (hm : (y :: s).length ≤ maxLen) (hs : At w a (x :: r)) (ht : At w b (y :: s)) :
    Calls Try.prog 26 #[.slice a (x :: r).length ca, .slice b (y :: s).length cb] w fun e w' => e = .returned (.int .i64 (min x y)) ∧ ∃ q, w' = w.drewN q := by
  rcases hs with h | ⟨ba, oa, rfl, -, hca⟩
  · cases h
  · rcases ht with h | ⟨bb, ob, rfl, -, hcb⟩
    · cases h
    · have h0 := hca 0 (by simp)
      have h1 := hcb 0 (by simp)
      simp only [Nat.add_zero, List.getD_cons_zero] at h0 h1
      clear hca hcb
      unfold maxLen at hl hm
      generalize hn : (x :: r).length = n at *
      have hp : 0 < n := by rw [← hn]; simp
      clear hn
      generalize hn' : (y :: s).length = n' at *
      have hp' : 0 < n' := by rw [← hn']; simp
      clear hn'
      have hq : ((n : Int) == 0) = false := by simp; omega
      have hq' : ((n' : Int) == 0) = false := by simp; omega
      go_enter Try.func26, Try.ntmps26
      go_wp2
      go_region
      all_goals (try go_wp2)
      all_goals go_ret
      all_goals exact ⟨ret_int (by omega), 1, rfl⟩

theorem first_any (a b : Option Addr) (ca cb : Nat) (xs ys : List Int) (w : World) (hne : ¬ (xs = [] ∧ ys = [])) (hs : At w a xs) (ht : At w b ys) (hl : xs.length ≤ maxLen) (hm : ys.length ≤ maxLen) :
    Calls Try.prog 26 #[.slice a xs.length ca, .slice b ys.length cb] w fun e w' => e = .returned (.int .i64 (fst xs ys)) ∧ ∃ q, w' = w.drewN q := by
  cases xs with
  | nil =>
    cases ys with
    | nil => exact absurd ⟨rfl, rfl⟩ hne
    | cons y s => exact first_nl a b ca cb y s w hm ht
  | cons x r =>
    cases ys with
    | nil => exact first_ln a b ca cb x r w hl hs
    | cons y s => exact first_ll a b ca cb x y r s w hl hm hs ht

theorem cells_tail {w : World} {b off : Nat} {x : Int} {r : List Int} (h : Cells w b off (x :: r)) : Cells w b (off + 1) r := fun j hj => by
  have := h (j + 1) (by simp; omega)
  rw [show off + (j + 1) = off + 1 + j by omega] at this
  simpa using this

set_option maxHeartbeats 400000 in
theorem behind_nil (a : Option Addr) (cap : Nat) (n : Int) (w : World) :
    Calls Try.prog 27 #[.slice a 0 cap, .int .i64 n] w fun e w' => e = .returned (.slice a 0 cap) ∧ w' = w := by
  go_enter Try.func27, Try.ntmps27
  go_wp2
  go_ret
  exact ⟨rfl, rfl⟩

set_option maxHeartbeats 400000 in
theorem behind_no (b off cap len : Nat) (x n : Int) (w : World) (hp : 0 < len) (hl : len ≤ 9223372036854775807) (h0 : w.cell? ⟨b, off, none⟩ = some (.int .i64 x)) (hx : (x == n) = false) :
    Calls Try.prog 27 #[.slice (some ⟨b, off, none⟩) len cap, .int .i64 n] w fun e w' => e = .returned (.slice (some ⟨b, off, none⟩) len cap) ∧ w' = w := by
  have d : decide ((0 : Int) < (len : Int)) = true := by simp; omega
  go_enter Try.func27, Try.ntmps27
  go_wp2
  go_ret
  exact ⟨rfl, rfl⟩

set_option maxHeartbeats 400000 in
theorem behind_yes (b off cap len : Nat) (x n : Int) (w : World) (hp : 0 < len) (hcap : len ≤ cap) (hl : cap ≤ 9223372036854775807) (h0 : w.cell? ⟨b, off, none⟩ = some (.int .i64 x)) (hx : (x == n) = true) :
    Calls Try.prog 27 #[.slice (some ⟨b, off, none⟩) len cap, .int .i64 n] w fun e w' => (∃ o, e = .returned (.slice (some ⟨b, o, none⟩) (len - 1) (cap - 1)) ∧ (len = 1 ∨ o = off + 1)) ∧ w' = w := by
  have d : decide ((0 : Int) < (len : Int)) = true := by simp; omega
  go_enter Try.func27, Try.ntmps27
  go_wp2
  · have h : cap = 1 := by assumption
    subst h
    go_ret
    exact ⟨⟨off, rfl, .inl (by omega)⟩, rfl⟩
  · go_ret
    exact ⟨⟨off + 1, rfl, .inr rfl⟩, rfl⟩

theorem behind_any (a : Option Addr) (cap B : Nat) (xs : List Int) (n : Int) (w : World) (hs : AtB w B a xs) (hcap : xs.length ≤ cap) (hm : cap ≤ maxLen) :
    Calls Try.prog 27 #[.slice a xs.length cap, .int .i64 n] w fun e w' => (∃ a' cap', e = .returned (.slice a' (rem xs n).length cap') ∧ AtB w B a' (rem xs n) ∧ (rem xs n).length ≤ cap' ∧ cap' ≤ maxLen) ∧ w' = w := by
  rcases hs with rfl | ⟨b, off, rfl, hb, hc⟩
  · refine (behind_nil a cap n w).mono ?_
    rintro e w' ⟨rfl, rfl⟩
    exact ⟨⟨a, cap, rfl, .inl rfl, hcap, hm⟩, rfl⟩
  · cases xs with
    | nil =>
      refine (behind_nil _ cap n w).mono ?_
      rintro e w' ⟨rfl, rfl⟩
      exact ⟨⟨_, cap, rfl, .inl rfl, hcap, hm⟩, rfl⟩
    | cons x r =>
      have h0 := hc 0 (by simp)
      simp only [Nat.add_zero, List.getD_cons_zero] at h0
      by_cases hx : x = n
      · subst hx
        refine (behind_yes b off cap (x :: r).length x x w (by simp) hcap hm h0 (by simp)).mono ?_
        rintro e w' ⟨⟨o, rfl, ho⟩, rfl⟩
        rw [rem_hd]
        refine ⟨⟨some ⟨b, o, none⟩, cap - 1, rfl, ?_, by simp at hcap; omega, by omega⟩, rfl⟩
        rcases ho with h | h
        · exact .inl (List.eq_nil_of_length_eq_zero (by simpa using h))
        · subst h; exact .inr ⟨b, off + 1, rfl, hb, cells_tail hc⟩
      · refine (behind_no b off cap (x :: r).length x n w (by simp) (Nat.le_trans hcap hm) h0 (by simp [hx])).mono ?_
        rintro e w' ⟨rfl, rfl⟩
        rw [rem_ne r hx]
        exact ⟨⟨_, cap, rfl, .inr ⟨b, off, rfl, hb, hc⟩, hcap, hm⟩, rfl⟩

end Go.Proofs.Ytppfcbapfbmckaa
namespace Go.Proofs.Ytppfcbapfbmckaa
open Go.RowKit
set_option linter.unusedVariables false

/-- Of the first k numbers those that are (b = true) or are not in ys. -/
def onlyTo (xs ys : List Int) (b : Bool) (k : Nat) : List Int := (xs.take k).filter (fun n => hasB ys n == b)

theorem onlyTo_len (xs ys : List Int) (b : Bool) (k : Nat) : (onlyTo xs ys b k).length ≤ k := Nat.le_trans (List.length_filter_le _ _) (List.length_take_le _ _)
theorem onlyTo_all {xs : List Int} (ys : List Int) (b : Bool) {k : Nat} (h : ¬ k < xs.length) : onlyTo xs ys b k = xs.filter (fun n => hasB ys n == b) := by
  rw [onlyTo, List.take_of_length_le (by omega)]
theorem onlyTo_hit {xs ys : List Int} {b : Bool} {k : Nat} {x : Int} (h : k < xs.length) (hx : Hid (x = xs[k]?.getD 0)) (hb : hasB ys x = b) : onlyTo xs ys b (k + 1) = onlyTo xs ys b k ++ [x] := by
  have hx := hx.out
  rw [List.getElem?_eq_getElem h] at hx
  simp only [Option.getD_some] at hx
  rw [onlyTo, onlyTo, List.take_add_one, List.getElem?_eq_getElem h, List.filter_append]
  simp [← hx, hb]
theorem onlyTo_miss {xs ys : List Int} {b : Bool} {k : Nat} {x : Int} (h : k < xs.length) (hx : Hid (x = xs[k]?.getD 0)) (hb : ¬ hasB ys x = b) : onlyTo xs ys b (k + 1) = onlyTo xs ys b k := by
  have hx := hx.out
  rw [List.getElem?_eq_getElem h] at hx
  simp only [Option.getD_some] at hx
  rw [onlyTo, onlyTo, List.take_add_one, List.getElem?_eq_getElem h, List.filter_append]
  simp [← hx, hb]

set_option maxHeartbeats 1600000 in
set_option maxRecDepth 100000 in
theorem only_some (bx ox cx cy : Nat) (ay : Option Addr) (xs ys : List Int) (bb : Bool) (w : World) (hl : xs.length ≤ 17592186044416) (hbx : bx < w.heap.size) (hc : Cells w bx ox xs) (ht : At w ay ys) (hm : ys.length ≤ maxLen) :
    Calls Try.prog 14 #[.slice (some ⟨bx, ox, none⟩) xs.length cx, .slice ay ys.length cy, .bool bb] w fun e w' => ∃ v, e = .returned v ∧ Own w' w.heap.size v (xs.filter (fun n => hasB ys n == bb)) ∧ Below w.heap.size w w' := by
  obtain ⟨i0, hi, hz0, hz1, hz2⟩ := info_parts Try.infoInt
  go_enter Try.func14, Try.ntmps14
  go_wp2
  go_loopw [7, 8] (fun v i wr => ∃ k : Nat, k ≤ xs.length ∧ i = .int .i64 k ∧ Own wr w.heap.size v (onlyTo xs ys bb k) ∧ Below w.heap.size w wr) (fun _ i _ => xs.length - (intOf i).toNat)
  case atStart => exact ⟨0, Nat.zero_le _, rfl, own_nil _ _, Below.refl _ _⟩
  case round =>
    obtain ⟨k, hk, rfl, hown, hbel⟩ := hrel
    by_cases hlt : k < xs.length
    · obtain ⟨x, HX, hcx0⟩ := hc.at hlt
      have hcx : wr.cell? ⟨bx, ox + k, none⟩ = some (.int .i64 x) := (hbel.cell (p := ⟨bx, ox + k, none⟩) hbx).trans hcx0
      clear hcx0
      have htr : At wr ay ys := ht.below hbel (Nat.le_refl _)
      have hsz := hbel.size
      have hll := onlyTo_len xs ys bb k
      go_wp2_with fail
      refine (refHas_any ay cy ys x _ htr hm).mono ?_
      rintro e w' ⟨rfl, rfl⟩
      by_cases hh : hasB ys x = bb
      · have HH : Hid (hasB ys x = bb) := hh
        have d : (hasB ys x == bb) = true := by simp [hh]
        clear hh
        go_wp2_with (at_builtin; refine wpList_append_own _ rfl _ _ 22 rfl w.heap.size 3 i0 (.int .i64 0) 1 8 Try.underlying22 hi hz0 hz1 hz2 rfl (by decide) _ _ _ rfl (World.ownsRow.alloc hown _) ⟨w'.heap.size, 0, none⟩ 1 1 [.int .i64 x] rfl rfl (cell_one_new _ _ _) (by intro u hu; simp at hu; subst hu; rfl) (by unfold maxLen; omega) (by omega) (by simp; omega) ?_)
        intro v' w1 hown' hgrow _
        obtain ⟨r1, r2, -⟩ := own_snoc hown hbel hsz hown' hgrow
        rw [← onlyTo_hit hlt HX HH.out] at r1
        clear hown' hgrow hown hcx htr
        go_wp2
        go_roundw
        case rel => exact ⟨k + 1, by omega, by go_num, r1, r2⟩
        case measure => simp [intOf]; omega
      · have d : (hasB ys x == bb) = false := by simp [hh]
        have r1 := hown
        rw [← onlyTo_miss hlt HX hh] at r1
        go_wp2
        go_roundw
        case rel => exact ⟨k + 1, by omega, by go_num, r1, hbel⟩
        case measure => simp [intOf]; omega
    · rw [onlyTo_all ys bb hlt] at hown
      go_wp2
      go_ret
      exact ⟨_, rfl, hown, hbel⟩

set_option maxHeartbeats 400000 in
theorem only_nil (a ay : Option Addr) (cx cy : Nat) (ys : List Int) (bb : Bool) (w : World) :
    Calls Try.prog 14 #[.slice a 0 cx, .slice ay ys.length cy, .bool bb] w fun e w' => e = .returned (.slice none 0 0) ∧ w' = w := by
  go_enter Try.func14, Try.ntmps14
  go_wp2
  refine wp_loop_rounds 1 ?_
  rw [rounds_succ]
  go_wp2
  go_ret
  exact ⟨rfl, rfl⟩

theorem only_any (a ay : Option Addr) (cx cy : Nat) (xs ys : List Int) (bb : Bool) (w : World) (hs : At w a xs) (hl : xs.length ≤ 17592186044416) (ht : At w ay ys) (hm : ys.length ≤ maxLen) :
    Calls Try.prog 14 #[.slice a xs.length cx, .slice ay ys.length cy, .bool bb] w fun e w' => Gives w (xs.filter (fun n => hasB ys n == bb)) e w' := by
  rcases hs with rfl | ⟨b, off, rfl, hb, hc⟩
  · refine (only_nil a ay cx cy ys bb w).mono ?_
    rintro e w' ⟨rfl, rfl⟩
    exact gives_of_own (B := w'.heap.size) (own_nil _ _) (Below.refl _ _)
  · refine (only_some b off cx cy ay xs ys bb w hl hb hc ht hm).mono ?_
    rintro e w' ⟨v, rfl, h1, h2⟩
    exact gives_of_own h1 h2

end Go.Proofs.Ytppfcbapfbmckaa
namespace Go.Proofs.Ytppfcbapfbmckaa
open Go.RowKit
set_option linter.unusedVariables false

theorem AtB.at {w : World} {B : Nat} {a : Option Addr} {xs : List Int} (h : AtB w B a xs) (hB : B ≤ w.heap.size) : At w a xs := by
  rcases h with h | ⟨b, off, rfl, hlt, hc⟩
  · exact .inl h
  · exact .inr ⟨b, off, rfl, by omega, hc⟩

/-- Not both are empty. -/
def NE (xs ys : List Int) : Prop := ¬ (xs = [] ∧ ys = [])

/-- What a closure that says whether a number stays is good for. -/
def StaysSaid (F B : Nat) (a1 : Option Addr) (c1 : Nat) (xs : List Int) (a2 : Option Addr) (c2 : Nat) (ys : List Int) (st : Int → Bool) : Prop :=
  ∀ (w : World) (n : Int), PI w B a1 c1 xs a2 c2 ys n → Calls Try.prog F #[.int .i64 n, .pointer (some ⟨B + 4, 0, none⟩), .pointer (some ⟨B + 5, 0, none⟩)] w fun e w' => e = .returned (.bool (st n)) ∧ PI w' B a1 c1 xs a2 c2 ys n ∧ Kept (fun k => k ≠ B + 1 ∧ k ≠ B + 3) w w'

/-- What holds at the head of each round of pick. -/
structure PR (w wr : World) (B : Nat) (a1 : Option Addr) (c1 : Nat) (xs : List Int) (a2 : Option Addr) (c2 : Nat) (ys : List Int) (st : Int → Bool) (p1 : Option Addr) (d1 : Nat) (xs' : List Int) (p2 : Option Addr) (d2 : Nat) (ys' : List Int) (v : Value) (L : List Int) (m : Int) : Prop where
  r1 : AtB wr B p1 xs'
  r2 : AtB wr B p2 ys'
  k1 : xs'.length ≤ d1
  k2 : ys'.length ≤ d2
  m1 : d1 ≤ maxLen
  m2 : d2 ≤ maxLen
  i1 : Inc xs'
  i2 : Inc ys'
  g1 : ∀ z ∈ xs', m ≤ z
  g2 : ∀ z ∈ ys', m ≤ z
  pi : PI wr B a1 c1 xs a2 c2 ys m
  own : Own wr (B + 6) v L
  bel : Below B w wr
  hsz : B + 6 ≤ wr.heap.size
  eq : (uni xs ys).filter st = L ++ (uni xs' ys').filter st

/-- The length of a slice value. -/
def lenSl : Value → Nat
  | .slice _ n _ => n
  | _ => 0

theorem pi_drewN {w : World} {B : Nat} {a1 : Option Addr} {c1 : Nat} {xs : List Int} {a2 : Option Addr} {c2 : Nat} {ys : List Int} {n : Int} (h : PI w B a1 c1 xs a2 c2 ys n) (q : Nat) : PI (w.drewN q) B a1 c1 xs a2 c2 ys n := h.kept ⟨rfl, rfl, rfl, Nat.le_refl _, fun _ _ => rfl⟩
theorem atB_drewN {w : World} {B : Nat} {a : Option Addr} {xs : List Int} (h : AtB w B a xs) (q : Nat) : AtB (w.drewN q) B a xs := h

theorem Own.kept {w w' : World} {B : Nat} {v : Value} {xs : List Int} {K : Nat → Prop} (h : Own w B v xs) (hk : Kept K w w') (hK : ∀ k, B ≤ k → K k) : Own w' B v xs := by
  refine ⟨h.1, ?_⟩
  rcases h.2 with hn | ⟨g, cap, cur, rfl, hb, hgg, rest⟩
  · exact .inl hn
  · exact .inr ⟨g, cap, cur, rfl, hb, (hk.block g (hK g hb)).trans hgg, rest⟩

theorem kept_of_drewN {K : Nat → Prop} {a w : World} {q : Nat} (h : Kept K (a.drewN q) w) : Kept K a w := ⟨h.os, h.tape, h.output, h.size, h.block⟩

section
variable {w wr w2 : World} {B : Nat} {a1 : Option Addr} {c1 : Nat} {xs : List Int} {a2 : Option Addr} {c2 : Nat} {ys : List Int} {st : Int → Bool} {p1 : Option Addr} {d1 : Nat} {xs' : List Int} {p2 : Option Addr} {d2 : Nat} {ys' : List Int} {v : Value} {L : List Int} {m : Int} {p1' : Option Addr} {d1' : Nat} {p2' : Option Addr} {d2' : Nat} {q : Nat}

theorem PR.drop (hr : PR w wr B a1 c1 xs a2 c2 ys st p1 d1 xs' p2 d2 ys' v L m) (hne : NE xs' ys')
    (s1 : AtB (wr.drewN q) B p1' (rem xs' (fst xs' ys'))) (s2 : (rem xs' (fst xs' ys')).length ≤ d1') (s3 : d1' ≤ maxLen) (t1 : AtB (wr.drewN q) B p2' (rem ys' (fst xs' ys'))) (t2 : (rem ys' (fst xs' ys')).length ≤ d2') (t3 : d2' ≤ maxLen)
    (hpi : PI w2 B a1 c1 xs a2 c2 ys (fst xs' ys')) (hk : Kept (fun k => k ≠ B + 1 ∧ k ≠ B + 3) (wr.drewN q) w2) (hs : st (fst xs' ys') = false) :
    PR w w2 B a1 c1 xs a2 c2 ys st p1' d1' (rem xs' (fst xs' ys')) p2' d2' (rem ys' (fst xs' ys')) v L (fst xs' ys') where
  r1 := s1.kept hk (fun k h => by omega)
  r2 := t1.kept hk (fun k h => by omega)
  k1 := s2
  k2 := t2
  m1 := s3
  m2 := t3
  i1 := inc_rem _ hr.i1
  i2 := inc_rem _ hr.i2
  g1 := fun z hz => Int.le_of_lt ((rem_low hr.i1 hr.i2).1 z hz)
  g2 := fun z hz => Int.le_of_lt ((rem_low hr.i1 hr.i2).2 z hz)
  pi := hpi
  own := hr.own.kept (kept_of_drewN hk) (fun k h => by omega)
  bel := hr.bel.trans ((kept_of_drewN hk).below (fun k h => by omega))
  hsz := Nat.le_trans hr.hsz hk.size
  eq := by rw [hr.eq, uni_step _ _ hne, List.filter_cons, hs]; rfl

theorem PR.keep {w3 : World} {v' : Value} {o : Obj} (hr : PR w wr B a1 c1 xs a2 c2 ys st p1 d1 xs' p2 d2 ys' v L m) (hne : NE xs' ys')
    (s1 : AtB (wr.drewN q) B p1' (rem xs' (fst xs' ys'))) (s2 : (rem xs' (fst xs' ys')).length ≤ d1') (s3 : d1' ≤ maxLen) (t1 : AtB (wr.drewN q) B p2' (rem ys' (fst xs' ys'))) (t2 : (rem ys' (fst xs' ys')).length ≤ d2') (t3 : d2' ≤ maxLen)
    (hpi : PI w2 B a1 c1 xs a2 c2 ys (fst xs' ys')) (hk : Kept (fun k => k ≠ B + 1 ∧ k ≠ B + 3) (wr.drewN q) w2) (hs : st (fst xs' ys') = true)
    (hown' : w3.ownsRow (B + 6) 3 1 v' (L.length + 1) (L.map (Value.int .i64) ++ [.int .i64 (fst xs' ys')])) (hgrow : (w2.alloc o).grownBy w3 v.ownBlock) :
    PR w w3 B a1 c1 xs a2 c2 ys st p1' d1' (rem xs' (fst xs' ys')) p2' d2' (rem ys' (fst xs' ys')) v' (L ++ [fst xs' ys']) (fst xs' ys') := by
  have hsz2 : B + 6 ≤ w2.heap.size := Nat.le_trans hr.hsz hk.size
  obtain ⟨o1, o2, o3⟩ := own_snoc (w := w2) (hr.own.kept (kept_of_drewN hk) (fun k h => by omega)) (Below.refl _ _) hsz2 hown' hgrow
  have hk3 : Kept (fun k => k < B + 6) w2 w3 := ⟨o2.os, o2.tape, o2.output, o2.size, o2.block⟩
  exact {
    r1 := (s1.kept hk (fun k h => by omega)).kept hk3 (fun k h => by omega)
    r2 := (t1.kept hk (fun k h => by omega)).kept hk3 (fun k h => by omega)
    k1 := s2
    k2 := t2
    m1 := s3
    m2 := t3
    i1 := inc_rem _ hr.i1
    i2 := inc_rem _ hr.i2
    g1 := fun z hz => Int.le_of_lt ((rem_low hr.i1 hr.i2).1 z hz)
    g2 := fun z hz => Int.le_of_lt ((rem_low hr.i1 hr.i2).2 z hz)
    pi := hpi.kept hk3
    own := o1
    bel := (hr.bel.trans ((kept_of_drewN hk).below (fun k h => by omega))).trans (o2.mono (by omega))
    hsz := o3
    eq := by rw [hr.eq, uni_step _ _ hne, List.filter_cons, hs]; simp }

theorem PR.room (hr : PR w wr B a1 c1 xs a2 c2 ys st p1 d1 xs' p2 d2 ys' v L m) : L.length ≤ xs.length + ys.length := by
  have h := congrArg List.length hr.eq
  have h1 := List.length_filter_le st (uni xs ys)
  have h2 := uni_len_le xs ys
  rw [List.length_append] at h
  omega
end

end Go.Proofs.Ytppfcbapfbmckaa
namespace Go.Proofs.Ytppfcbapfbmckaa
open Go.RowKit
set_option linter.unusedVariables false

set_option maxHeartbeats 2000000 in
set_option maxRecDepth 100000 in
theorem join_pick (w : World) (B : Nat) (a1 : Option Addr) (c1 : Nat) (xs : List Int) (a2 : Option Addr) (c2 : Nat) (ys : List Int) (st : Int → Bool) (hst : StaysSaid 20 B a1 c1 xs a2 c2 ys st)
    (hp : PI w B a1 c1 xs a2 c2 ys (-1)) (h1 : AtB w B a1 xs) (h2 : AtB w B a2 ys) (k1 : xs.length ≤ c1) (k2 : ys.length ≤ c2) (m1 : c1 ≤ maxLen) (m2 : c2 ≤ maxLen) (hB : B + 6 ≤ w.heap.size)
    (hx : Hid (rowB 2147483648 xs = true)) (hy : Hid (rowB 2147483648 ys = true)) :
    Calls Try.prog 19 #[.slice a1 xs.length c1, .slice a2 ys.length c2, .func (.func 20) #[] #[.pointer (some ⟨B + 4, 0, none⟩), .pointer (some ⟨B + 5, 0, none⟩)]] w fun e w' => ∃ v, e = .returned (.tuple #[v, .int .i64 0]) ∧ Own w' (B + 6) v ((uni xs ys).filter st) ∧ Below B w w' := by
  obtain ⟨i0, hi, hz0, hz1, hz2⟩ := info_parts Try.infoInt
  have hlx := rowB_len hx.out
  have hly := rowB_len hy.out
  go_enter Try.func19, Try.ntmps19
  go_wp2_with fail
  refine (rowIs_any a1 c1 xs 2147483648 _ (h1.at (by omega)) (by omega)).mono ?_
  rintro e w' ⟨rfl, rfl⟩
  rw [hx.out]
  go_wp2_with fail
  refine (rowIs_any a2 c2 ys 2147483648 _ (h2.at (by omega)) (by omega)).mono ?_
  rintro e w' ⟨rfl, rfl⟩
  rw [hy.out]
  go_wp2_with fail
  go_loopw [0, 1, 8] (fun v0 v1 v wr => ∃ p1 d1 xs' p2 d2 ys' L m, v0 = .slice p1 xs'.length d1 ∧ v1 = .slice p2 ys'.length d2 ∧ PR w' wr B a1 c1 xs a2 c2 ys st p1 d1 xs' p2 d2 ys' v L m) (fun v0 v1 _ _ => lenSl v0 + lenSl v1)
  case atStart => exact ⟨a1, c1, xs, a2, c2, ys, [], -1, rfl, rfl, ⟨h1, h2, k1, k2, m1, m2, rowB_inc hx.out, rowB_inc hy.out, fun z hz => by have := rowB_bd hx.out z hz; omega, fun z hz => by have := rowB_bd hy.out z hz; omega, hp, own_nil _ _, Below.refl _ _, hB, rfl⟩⟩
  case round =>
    obtain ⟨p1, d1, xs', p2, d2, ys', L, m, rfl, rfl, hr⟩ := hrel
    clear hp h1 h2 k1 k2 m1 m2 hB
    have k1 := hr.k1
    have k2 := hr.k2
    have m1 := hr.m1
    have m2 := hr.m2
    have hsz := hr.hsz
    unfold maxLen at m1 m2
    by_cases hne : xs' = [] ∧ ys' = []
    · obtain ⟨rfl, rfl⟩ := hne
      have hown := hr.own
      have heq := hr.eq
      have hbel := hr.bel
      rw [show uni [] [] = [] from rfl, List.filter_nil, List.append_nil] at heq
      rw [← heq] at hown
      clear heq
      go_wp2
      go_ret2
      exact ⟨_, rfl, hown, hbel⟩
    · have HNE : NE xs' ys' := hne
      by_cases e1 : 0 < xs'.length
      · clear hne
        go_wp2_with fail
        refine (first_any p1 p2 d1 d2 xs' ys' _ HNE (hr.r1.at (by omega)) (hr.r2.at (by omega)) (by unfold maxLen; omega) (by unfold maxLen; omega)).mono ?_
        rintro e w1 ⟨rfl, q, rfl⟩
        go_wp2_with fail
        refine (behind_any p1 d1 B xs' _ _ (atB_drewN hr.r1 q) k1 hr.m1).mono ?_
        rintro e w1 ⟨⟨p1', d1', rfl, s1, s2, s3⟩, rfl⟩
        go_wp2_with fail
        refine (behind_any p2 d2 B ys' _ _ (atB_drewN hr.r2 q) k2 hr.m2).mono ?_
        rintro e w1 ⟨⟨p2', d2', rfl, t1, t2, t3⟩, rfl⟩
        go_wp2_with fail
        refine (hst _ _ ((pi_drewN hr.pi q).mono (fst_ge HNE hr.g1 hr.g2))).mono ?_
        rintro e w2 ⟨rfl, hpi, hkept⟩
        have hlt := rem_lenlt xs' ys' HNE
        have hroom := hr.room
        by_cases hs : st (fst xs' ys') = true
        · have HS : Hid (st (fst xs' ys') = true) := hs
          have hown2 : Own w2 (B + 6) _ L := hr.own.kept (kept_of_drewN hkept) (fun k h => by omega)
          have hsz2 : B + 6 ≤ w2.heap.size := Nat.le_trans hr.hsz hkept.size
          go_wp2_with (at_builtin; refine wpList_append_own _ rfl _ _ 22 rfl (B + 6) 3 i0 (.int .i64 0) 1 8 Try.underlying22 hi hz0 hz1 hz2 rfl (by decide) _ _ _ rfl (World.ownsRow.alloc hown2 _) ⟨w2.heap.size, 0, none⟩ 1 1 [.int .i64 (fst xs' ys')] rfl rfl (cell_one_new _ _ _) (by intro u hu; simp at hu; subst hu; rfl) (by unfold maxLen; omega) (by omega) (by simp; omega) ?_)
          intro v' w3 hown' hgrow _
          have R := hr.keep HNE s1 s2 s3 t1 t2 t3 hpi hkept HS.out hown' hgrow
          clear hown' hgrow hown2 hr hpi hkept s1 t1
          go_wp2
          go_roundw
          case rel => exact ⟨p1', d1', _, p2', d2', _, _, _, rfl, rfl, R⟩
          case measure => simp only [lenSl]; exact hlt
        · have hs : st (fst xs' ys') = false := by simpa using hs
          have R := hr.drop HNE s1 s2 s3 t1 t2 t3 hpi hkept hs
          go_wp2
          go_roundw
          case rel => exact ⟨p1', d1', _, p2', d2', _, _, _, rfl, rfl, R⟩
          case measure => simp only [lenSl]; exact hlt
      · have e0 : xs' = [] := List.eq_nil_of_length_eq_zero (by omega)
        subst e0
        have e2 : 0 < ys'.length := List.length_pos_iff.2 (fun h => hne ⟨rfl, h⟩)
        clear hne e1
        go_wp2_with fail
        refine (first_any p1 p2 d1 d2 [] ys' _ HNE (hr.r1.at (by omega)) (hr.r2.at (by omega)) (by unfold maxLen; omega) (by unfold maxLen; omega)).mono ?_
        rintro e w1 ⟨rfl, q, rfl⟩
        go_wp2_with fail
        refine (behind_any p1 d1 B [] _ _ (atB_drewN hr.r1 q) k1 hr.m1).mono ?_
        rintro e w1 ⟨⟨p1', d1', rfl, s1, s2, s3⟩, rfl⟩
        go_wp2_with fail
        refine (behind_any p2 d2 B ys' _ _ (atB_drewN hr.r2 q) k2 hr.m2).mono ?_
        rintro e w1 ⟨⟨p2', d2', rfl, t1, t2, t3⟩, rfl⟩
        go_wp2_with fail
        refine (hst _ _ ((pi_drewN hr.pi q).mono (fst_ge HNE hr.g1 hr.g2))).mono ?_
        rintro e w2 ⟨rfl, hpi, hkept⟩
        have hlt := rem_lenlt [] ys' HNE
        have hroom := hr.room
        by_cases hs : st (fst [] ys') = true
        · have HS : Hid (st (fst [] ys') = true) := hs
          have hown2 : Own w2 (B + 6) _ L := hr.own.kept (kept_of_drewN hkept) (fun k h => by omega)
          have hsz2 : B + 6 ≤ w2.heap.size := Nat.le_trans hr.hsz hkept.size
          go_wp2_with (at_builtin; refine wpList_append_own _ rfl _ _ 22 rfl (B + 6) 3 i0 (.int .i64 0) 1 8 Try.underlying22 hi hz0 hz1 hz2 rfl (by decide) _ _ _ rfl (World.ownsRow.alloc hown2 _) ⟨w2.heap.size, 0, none⟩ 1 1 [.int .i64 (fst [] ys')] rfl rfl (cell_one_new _ _ _) (by intro u hu; simp at hu; subst hu; rfl) (by unfold maxLen; omega) (by omega) (by simp; omega) ?_)
          intro v' w3 hown' hgrow _
          have R := hr.keep HNE s1 s2 s3 t1 t2 t3 hpi hkept HS.out hown' hgrow
          clear hown' hgrow hown2 hr hpi hkept s1 t1
          go_wp2
          go_roundw
          case rel => exact ⟨p1', d1', _, p2', d2', _, _, _, rfl, rfl, R⟩
          case measure => simp only [lenSl]; exact hlt
        · have hs : st (fst [] ys') = false := by simpa using hs
          have R := hr.drop HNE s1 s2 s3 t1 t2 t3 hpi hkept hs
          go_wp2
          go_roundw
          case rel => exact ⟨p1', d1', _, p2', d2', _, _, _, rfl, rfl, R⟩
          case measure => simp only [lenSl]; exact hlt

end Go.Proofs.Ytppfcbapfbmckaa
