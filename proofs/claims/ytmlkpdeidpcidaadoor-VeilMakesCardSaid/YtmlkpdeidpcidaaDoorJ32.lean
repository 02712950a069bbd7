/-
  Veils in memory: rows of rows, and rows of moves.
  Plain: rows of small numbers as numbers, by their bits. No program, no model.
  What the walk of jalousieref15.Good knows of the memory, and plain: what its table of booleans tells.
  The walks of jalousieref15.number, rowOf and part.
-/
import Derived.Test.YtmlkpdeidpcidaaDoorJ31
import Derived.Test.YtmlkpdeidpcidaaDoorJ30
import Derived.Test.YtmlkpdeidpcidaaDoorJ06
import Derived.Test.YtmlkpdeidpcidaaDoorJ08
import Derived.Test.YtmlkpdeidpcidaaDoorJ05
import Derived.Test.YtmlkpdeidpcidaaDoorJ03
import Derived.Test.YtmlkpdeidpcidaaDoorJ04
import Derived.Test.YtmlkpdeidpcidaaDoorJ14
namespace Go.Proofs.YtmlkpdeidpcidaaDoor
open Go.RowKit
set_option linter.unusedVariables false

theorem Tryd.infoMove : (Tryd.prog.info? 79).map (fun i => (i.zero, i.size, i.bytes)) = some (some (.agg #[.int .i64 0, .int .i64 0, .slice none 0 0, .int .i64 0]), 4, 48) := by kernel_rfl
/-- A list of moves in memory. -/
def AtMv (W : World) (a : Option Addr) (L : List Mv) : Prop := L = [] ∨ ∃ g o, a = some ⟨g, o, none⟩ ∧ g < W.heap.size ∧ ∀ (k : Nat) (m : Mv), L[k]? = some m → ∃ sa sc, W.cell? ⟨g, o + k * 4, none⟩ = some (.int .i64 (m.nd : Int)) ∧ W.cell? ⟨g, o + k * 4 + 1, none⟩ = some (.int .i64 m.ev) ∧ W.cell? ⟨g, o + k * 4 + 2, none⟩ = some (.slice sa m.st.length sc) ∧ W.cell? ⟨g, o + k * 4 + 3, none⟩ = some (.int .i64 (m.to : Int)) ∧ At W sa m.st ∧ m.st.length ≤ maxLen
theorem AtMv.below {W W' : World} {a : Option Addr} {L : List Mv} (h : AtMv W a L) (hb : Below W.heap.size W W') : AtMv W' a L := by
  rcases h with h | ⟨g, o, e, hg, hc⟩
  · exact .inl h
  · refine .inr ⟨g, o, e, Nat.lt_of_lt_of_le hg hb.size, fun k m hm => ?_⟩
    obtain ⟨sa, sc, c0, c1, c2, c3, h1, h2⟩ := hc k m hm
    exact ⟨sa, sc, (hb.cell (p := ⟨g, o + k * 4, none⟩) hg).trans c0, (hb.cell (p := ⟨g, o + k * 4 + 1, none⟩) hg).trans c1, (hb.cell (p := ⟨g, o + k * 4 + 2, none⟩) hg).trans c2, (hb.cell (p := ⟨g, o + k * 4 + 3, none⟩) hg).trans c3, h1.below hb (Nat.le_refl _), h2⟩
/-- Where a veil's slices lie. -/
structure VL where
  na : Option Addr
  nc : Nat
  ma : Option Addr
  mc : Nat
abbrev vcells (v : VS) (L : VL) : Array Value := #[.slice L.na v.1.length L.nc, .slice L.ma v.2.length L.mc]
abbrev vval (v : VS) (L : VL) : Value := .agg (vcells v L)
structure VAt (W : World) (v : VS) (L : VL) : Prop where
  n : At2 W L.na v.1
  m : AtMv W L.ma v.2
  nl : v.1.length ≤ 64
  ml : v.2.length ≤ 4096
theorem VAt.below {W W' : World} {v : VS} {L : VL} (h : VAt W v L) (hb : Below W.heap.size W W') : VAt W' v L := ⟨h.n.below hb (Nat.le_refl _), h.m.below hb, h.nl, h.ml⟩
end Go.Proofs.YtmlkpdeidpcidaaDoor
namespace Go.Proofs.YtmlkpdeidpcidaaDoor
open Go.RowKit
set_option linter.unusedVariables false

/-- A row's number. -/
def numN (l : List Int) : Nat := l.foldl (fun n x => n + 2 ^ x.toNat) 0
theorem numN_snoc (l : List Int) (x : Int) : numN (l ++ [x]) = numN l + 2 ^ x.toNat := by simp [numN, List.foldl_append]
/-- The row of a number. -/
def rowN (n : Nat) : List Int := ((List.range 64).filter fun i => n.testBit i).map fun i : Nat => (i : Int)
def rowNs (n s : Nat) : List Int := ((List.range s).filter fun i => n.testBit i).map fun i : Nat => (i : Int)
theorem rowNs_succ (n s : Nat) : rowNs n (s + 1) = if n.testBit s = true then rowNs n s ++ [(s : Int)] else rowNs n s := by
  unfold rowNs
  rw [List.range_succ, List.filter_append, List.map_append]
  cases h : n.testBit s <;> simp [h]
theorem mem_rowNs (n s : Nat) (x : Int) : x ∈ rowNs n s ↔ 0 ≤ x ∧ x < (s : Int) ∧ n.testBit x.toNat = true := by
  unfold rowNs
  rw [List.mem_map]
  constructor
  · rintro ⟨i, hi, rfl⟩
    obtain ⟨h1, h2⟩ := List.mem_filter.1 hi
    have := List.mem_range.1 h1
    exact ⟨by omega, by omega, by simpa using h2⟩
  · rintro ⟨h0, h1, h2⟩
    exact ⟨x.toNat, List.mem_filter.2 ⟨List.mem_range.2 (by omega), h2⟩, by omega⟩
theorem inc_rowNs (n s : Nat) : Inc (rowNs n s) := by
  unfold rowNs Inc
  rw [List.pairwise_map]
  exact List.Pairwise.imp (fun h => by omega) (List.Pairwise.filter _ List.pairwise_lt_range)
theorem rowNs_len (n s : Nat) : (rowNs n s).length ≤ s := by
  unfold rowNs
  rw [List.length_map]
  exact Nat.le_trans (List.length_filter_le _ _) (by simp)
theorem rowN_eq (n : Nat) : rowN n = rowNs n 64 := rfl
/-- All bits have been gone through. -/
theorem rowNs_all {n s : Nat} (hs : s ≤ 64) (h : n / 2 ^ s = 0) : rowNs n s = rowN n := by
  have hlt : n < 2 ^ s := by
    have h2 : 0 < 2 ^ s := Nat.two_pow_pos s
    exact (Nat.div_eq_zero_iff_lt h2).1 h
  refine inc_ext (inc_rowNs _ _) (inc_rowNs _ _) fun x => ?_
  rw [rowN_eq, mem_rowNs, mem_rowNs]
  constructor
  · rintro ⟨h0, h1, h2⟩; exact ⟨h0, by omega, h2⟩
  · rintro ⟨h0, h1, h2⟩
    refine ⟨h0, ?_, h2⟩
    rcases Nat.lt_or_ge x.toNat s with h3 | h3
    · omega
    · have : n.testBit x.toNat = false := Nat.testBit_lt_two_pow (Nat.lt_of_lt_of_le hlt (Nat.pow_le_pow_right (by omega) h3))
      rw [this] at h2; cases h2
theorem num_take {l : List Int} (hi : Inc l) (h0 : ∀ x ∈ l, 0 ≤ x) : ∀ k, k ≤ l.length → ∀ i : Nat, (numN (l.take k)).testBit i = hasB (l.take k) (i : Int)
  | 0, _ => fun i => by simp [numN, hasB]
  | k + 1, hk => fun i => by
    have ih := num_take hi h0 k (by omega)
    have hkl : k < l.length := by omega
    have e : l.take (k + 1) = l.take k ++ [l[k]] := by rw [List.take_add_one, List.getElem?_eq_getElem hkl]; rfl
    have hx0 := h0 l[k] (List.getElem_mem hkl)
    have hlow : ∀ y ∈ l.take k, y < l[k] := fun y hy => by
      obtain ⟨j, hj⟩ := List.mem_iff_getElem?.1 hy
      have hjk : j < k := by
        have := (List.getElem?_eq_some_iff.1 hj).1
        rw [List.length_take] at this; omega
      rw [List.getElem?_take_of_lt hjk] at hj
      obtain ⟨h1, h2⟩ := List.getElem?_eq_some_iff.1 hj
      have := List.pairwise_iff_getElem.1 hi j k h1 hkl hjk
      rw [h2] at this; exact this
    have hlt : numN (l.take k) < 2 ^ l[k].toNat := by
      refine Nat.lt_pow_two_of_testBit _ fun j hj => ?_
      rw [ih j]
      unfold hasB
      simp only [List.contains_eq_mem, decide_eq_false_iff_not]
      intro hm
      have := hlow _ hm
      omega
    rw [e, numN_snoc]
    have hh : ∀ (q : List Int) (y : Int), hasB (q ++ [y]) (i : Int) = (hasB q (i : Int) || decide ((i : Int) = y)) := fun q y => by
      unfold hasB; simp
    rw [hh, ← ih i, Nat.add_comm]
    rcases Nat.lt_trichotomy i l[k].toNat with h1 | h1 | h1
    · rw [Nat.testBit_two_pow_add_gt h1, decide_eq_false (by omega), Bool.or_false]
    · subst h1
      rw [Nat.testBit_two_pow_add_eq, decide_eq_true (by omega), Bool.or_true, Nat.testBit_lt_two_pow hlt]; rfl
    · have h2 : 2 ^ l[k].toNat + numN (l.take k) < 2 ^ i := by
        have h3 : 2 ^ (l[k].toNat + 1) ≤ 2 ^ i := Nat.pow_le_pow_right (by omega) h1
        rw [Nat.pow_succ] at h3
        omega
      rw [Nat.testBit_lt_two_pow h2, Nat.testBit_lt_two_pow (Nat.lt_of_lt_of_le hlt (Nat.pow_le_pow_right (by omega) (by omega))), decide_eq_false (by omega)]; rfl
theorem num_bit {l : List Int} (hi : Inc l) (h0 : ∀ x ∈ l, 0 ≤ x) (i : Nat) : (numN l).testBit i = hasB l (i : Int) := by
  have := num_take hi h0 l.length (Nat.le_refl _) i
  rwa [List.take_of_length_le (Nat.le_refl _)] at this
theorem num_lt {l : List Int} (hi : Inc l) {n : Nat} (hb : ∀ x ∈ l, 0 ≤ x ∧ x < (n : Int)) : numN l < 2 ^ n := by
  refine Nat.lt_pow_two_of_testBit _ fun j hj => ?_
  rw [num_bit hi (fun x hx => (hb x hx).1)]
  unfold hasB
  simp only [List.contains_eq_mem, decide_eq_false_iff_not]
  intro hm
  have := hb _ hm
  omega
theorem row_num {l : List Int} (hi : Inc l) (hb : ∀ x ∈ l, 0 ≤ x ∧ x < 64) : rowN (numN l) = l := by
  refine inc_ext (inc_rowNs _ _) hi fun x => ?_
  rw [rowN_eq, mem_rowNs]
  constructor
  · rintro ⟨h0, h1, h2⟩
    rw [num_bit hi (fun x hx => (hb x hx).1)] at h2
    have := (hasB_iff _ _).1 h2
    rwa [Int.toNat_of_nonneg h0] at this
  · intro hx
    have := hb x hx
    refine ⟨this.1, by omega, ?_⟩
    rw [num_bit hi (fun x hx => (hb x hx).1), Int.toNat_of_nonneg this.1]
    exact (hasB_iff _ _).2 hx
theorem row_bd {n k : Nat} (h : n < 2 ^ k) : ∀ x ∈ rowN n, 0 ≤ x ∧ x < (k : Int) := fun x hx => by
  obtain ⟨h0, h1, h2⟩ := (mem_rowNs _ _ _).1 hx
  refine ⟨h0, ?_⟩
  rcases Nat.lt_or_ge x.toNat k with h3 | h3
  · omega
  · rw [Nat.testBit_lt_two_pow (Nat.lt_of_lt_of_le h (Nat.pow_le_pow_right (by omega) h3))] at h2; cases h2

/-! Is a number's row part of another one's? -/
def partN (a b : Nat) : Bool := decide (∀ i : Nat, i < 64 → a.testBit i = true → b.testBit i = true)
theorem partN_iff {a b : Nat} (h : a < 2 ^ 64) : partN a b = true ↔ ∀ x ∈ rowN a, x ∈ rowN b := by
  unfold partN
  rw [decide_eq_true_eq]
  constructor
  · intro hp x hx
    obtain ⟨h0, h1, h2⟩ := (mem_rowNs _ _ _).1 hx
    exact (mem_rowNs _ _ _).2 ⟨h0, h1, hp x.toNat (by omega) h2⟩
  · intro hp i hi hb
    have := hp (i : Int) ((mem_rowNs _ _ _).2 ⟨by omega, by omega, by rw [Int.toNat_natCast]; exact hb⟩)
    have := ((mem_rowNs _ _ _).1 this).2.2
    rwa [Int.toNat_natCast] at this
theorem sub_of_inc : ∀ {l to : List Int}, Inc l → Inc to → (∀ x ∈ l, x ∈ to) → l.Sublist to := fun {l to} hl ht h => by
  have : l = to.filter fun y => hasB l y := by
    refine inc_ext hl (List.Pairwise.filter _ ht) fun x => ?_
    rw [List.mem_filter, hasB_iff]
    exact ⟨fun hx => ⟨h x hx, hx⟩, fun hx => hx.2⟩
  rw [this]; exact List.filter_sublist
/-- The greatest part that can be kept, as the reference finds it: number by number. -/
def mostNs (p : Plant) (g : List Int → Bool) (all : Nat) : Nat → List Int → Prop
  | n, out => Inc out ∧ ∀ x : Int, x ∈ out ↔ ∃ k, 1 ≤ k ∧ k < n ∧ partN k all = true ∧ x ∈ rowN k ∧ g (wideL p.m.arrows p.seen (rowN k)) = true
theorem mostNs_end {p : Plant} {g : List Int → Bool} {to out : List Int} (hi : Inc to) (hb : ∀ x ∈ to, 0 ≤ x ∧ x < 64) (h : mostNs p g (numN to) (numN to + 1) out) : out = mostL p g to := by
  have h64 : numN to < 2 ^ 64 := num_lt hi (n := 64) (fun x hx => by have := hb x hx; omega)
  refine inc_ext h.1 (inc_most p g hi) fun x => ?_
  rw [h.2, mem_most]
  constructor
  · rintro ⟨k, h1, h2, h3, h4, h5⟩
    have hk : k < 2 ^ 64 := by omega
    have hs := (partN_iff hk).1 h3
    rw [row_num hi hb] at hs
    exact ⟨rowN k, sub_of_inc (inc_rowNs _ _) hi hs, h4, h5⟩
  · rintro ⟨l, h1, h2, h3⟩
    have hli : Inc l := List.Pairwise.sublist h1 hi
    have hlb : ∀ x ∈ l, 0 ≤ x ∧ x < 64 := fun x hx => hb x (h1.subset hx)
    have hr : rowN (numN l) = l := row_num hli hlb
    have hl64 : numN l < 2 ^ 64 := num_lt hli (n := 64) (fun x hx => by have := hlb x hx; omega)
    refine ⟨numN l, ?_, ?_, (partN_iff hl64).2 (by rw [hr, row_num hi hb]; exact fun x hx => h1.subset hx), by rw [hr]; exact h2, by rw [hr]; exact h3⟩
    · rcases Nat.eq_zero_or_pos (numN l) with h0 | h0
      · rw [h0] at hr
        have : rowN 0 = [] := by
          rw [List.eq_nil_iff_forall_not_mem]
          intro y hy
          have := ((mem_rowNs _ _ _).1 hy).2.2
          rw [Nat.zero_testBit] at this; cases this
        rw [this] at hr
        rw [← hr] at h2; cases h2
      · exact h0
    · have : numN l ≤ numN to := by
        refine Nat.le_of_testBit fun i hi' => ?_
        rw [num_bit hli (fun x hx => (hlb x hx).1)] at hi'
        rw [num_bit hi (fun x hx => (hb x hx).1)]
        exact (hasB_iff _ _).2 (h1.subset ((hasB_iff _ _).1 hi'))
      omega

end Go.Proofs.YtmlkpdeidpcidaaDoor
namespace Go.Proofs.YtmlkpdeidpcidaaDoor
open Go.RowKit
set_option linter.unusedVariables false

structure GD (w W : World) (p : Plant) (P : PTL) (n : Nat) (g : Nat → Bool) (v : Nat → Value) (Ld : Nat → List Int) : Prop where
  bel : Below w.heap.size w W
  kp : Blk W w.heap.size 44 (ptcells p P)
  kg : RowC W (w.heap.size + 1) 4 n (fun j => .bool (g j))
  pl : RowC W (w.heap.size + 2) 22 n v
  le : ∀ s, s < n → Own W (w.heap.size + 3) (v s) (Ld s)
  ap : ∀ s s' b, s < n → s' < n → s ≠ s' → (v s).ownBlock = some b → (v s').ownBlock ≠ some b
section
variable {w W : World} {p : Plant} {P : PTL} {n : Nat} {g : Nat → Bool} {v : Nat → Value} {Ld : Nat → List Int}
theorem GD.below {W' : World} (h : GD w W p P n g v Ld) (hb : Below W.heap.size W W') : GD w W' p P n g v Ld :=
  ⟨h.bel.trans (hb.mono h.bel.size), h.kp.below hb h.kp.lt, h.kg.below hb h.kg.lt, h.pl.below hb h.pl.lt, fun s hs => own_same (h.le s hs) (fun k hk => hb.block k (World.ownsRow.lt (h.le s hs) k hk).2), h.ap⟩
theorem GD.drewG (h : GD w W p P n g v Ld) : GD w W.drew p P n g v Ld :=
  ⟨h.bel.drew, Blk.drew h.kp, h.kg, h.pl, fun s hs => own_same (h.le s hs) (fun _ _ => rfl), h.ap⟩
/-- One boolean is set. -/
theorem GD.set (h : GD w W p P n g v Ld) {t : Nat} (ht : t < n) (b : Bool) : GD w (W.setCell ⟨w.heap.size + 1, t, none⟩ (.bool b)) p P n (fun y => if y = t then b else g y) v Ld := by
  refine ⟨h.bel.setCell (p := ⟨w.heap.size + 1, t, none⟩) (show w.heap.size ≤ w.heap.size + 1 by omega) _, h.kp.other (by omega) _, (h.kg.set ht (.bool b)).congr (fun j hj => ?_), h.pl.other (by omega) _, fun x hx => own_same (h.le x hx) (fun k hk => Below.heap_setCell W ⟨w.heap.size + 1, t, none⟩ _ k (fun e => ?_)), h.ap⟩
  · by_cases e : j = t
    · rw [if_pos e, if_pos e]
    · rw [if_neg e, if_neg e]
  · have h1 := (World.ownsRow.lt (h.le x hx) k hk).1
    have e : k = w.heap.size + 1 := e
    omega
/-- One number more in a row. -/
theorem GD.lead {W2 W3 : World} {v' : Value} {t : Int} (h : GD w W p P n g v Ld) (hW3 : Below W.heap.size W W3) {s : Nat} (hs : s < n) (o1 : Own W2 (w.heap.size + 3) v' (Ld s ++ [t])) (gr : W3.grownBy W2 (v s).ownBlock) (fr : v'.ownBlock = (v s).ownBlock ∨ v'.ownBlock = some W3.heap.size) :
    RowC W2 (w.heap.size + 2) 22 n v ∧ GD w (W2.setCell ⟨w.heap.size + 2, s, none⟩ v') p P n g (fun x => if x = s then v' else v x) (fun x => if x = s then Ld s ++ [t] else Ld x) := by
  have h3 := h.below hW3
  have lp := h3.pl.lt
  have low : ∀ j, j < w.heap.size + 3 → W2.heap[j]? = W3.heap[j]? := fun j hj => gr.block j (by omega) (fun e => by have := (World.ownsRow.lt (h3.le s hs) j e.symm).1; omega)
  have pl2 : RowC W2 (w.heap.size + 2) 22 n v := h3.pl.same (low _ (by omega))
  have bl2 : Below w.heap.size w W2 := h3.bel.grown gr h3.bel.size (fun j hj => Nat.le_trans (by omega) (World.ownsRow.lt (h3.le s hs) j hj).1)
  refine ⟨pl2, ⟨bl2.setCell (p := ⟨w.heap.size + 2, s, none⟩) (show w.heap.size ≤ w.heap.size + 2 by omega) _, Blk.other ((low _ (by omega)).trans h3.kp) (by omega) _, (h3.kg.same (low _ (by omega))).other (by omega) _, (pl2.set hs v').congr (fun j hj => rfl), fun x hx => ?_, fun x y b hx hy hne e1 e2 => ?_⟩⟩
  · have keep : ∀ {u : Value} {L : List Int}, Own W2 (w.heap.size + 3) u L → Own (W2.setCell ⟨w.heap.size + 2, s, none⟩ v') (w.heap.size + 3) u L := fun ho => own_same ho (fun k hk => Below.heap_setCell _ ⟨w.heap.size + 2, s, none⟩ _ k (fun e => by have h1 := (World.ownsRow.lt ho k hk).1; have e : k = w.heap.size + 2 := e; omega))
    by_cases e : x = s
    · rw [if_pos e, if_pos e]; exact keep o1
    · rw [if_neg e, if_neg e]
      refine keep (own_same (h3.le x hx) (fun k hk => gr.block k (World.ownsRow.lt (h3.le x hx) k hk).2 (fun e2 => h.ap x s k hx hs e hk e2.symm)))
  · by_cases ex : x = s
    · by_cases ey : y = s
      · omega
      · rw [if_pos ex] at e1
        rw [if_neg ey] at e2
        rcases fr with f | f
        · rw [f] at e1; exact h.ap s y b hs hy (by omega) e1 e2
        · rw [f] at e1
          have := (World.ownsRow.lt (h3.le y hy) b e2).2
          have := Option.some.inj e1
          omega
    · by_cases ey : y = s
      · rw [if_neg ex] at e1
        rw [if_pos ey] at e2
        rcases fr with f | f
        · rw [f] at e2; exact h.ap x s b hx hs (by omega) e1 e2
        · rw [f] at e2
          have := (World.ownsRow.lt (h3.le x hx) b e1).2
          have := Option.some.inj e2
          omega
      · rw [if_neg ex] at e1
        rw [if_neg ey] at e2
        exact h.ap x y b hx hy hne e1 e2
theorem GD.keepL {W2 W3 : World} {v' lv : Value} {L : List Int} (h : GD w W p P n g v Ld) (hW3 : Below W.heap.size W W3) {s : Nat} (hs : s < n) (gr : W3.grownBy W2 (v s).ownBlock) (ol : Own W (w.heap.size + 3) lv L) (ne : ∀ j, j < n → ∀ b, lv.ownBlock = some b → (v j).ownBlock ≠ some b) : Own (W2.setCell ⟨w.heap.size + 2, s, none⟩ v') (w.heap.size + 3) lv L :=
  own_same ol (fun k hk => by
    have h1 := World.ownsRow.lt ol k hk
    have h2 : W2.heap[k]? = W3.heap[k]? := gr.block k (Nat.lt_of_lt_of_le h1.2 hW3.size) (fun e => ne s hs k hk e.symm)
    exact (Below.heap_setCell W2 ⟨w.heap.size + 2, s, none⟩ _ k (fun e => by have e : k = w.heap.size + 2 := e; omega)).trans (h2.trans (hW3.block k h1.2)))
theorem GD.congr {g' : Nat → Bool} {v' : Nat → Value} {L' : Nat → List Int} (h : GD w W p P n g v Ld) (hg : ∀ j, j < n → g j = g' j) (hv : ∀ j, j < n → v j = v' j) (hL : ∀ j, j < n → Ld j = L' j) : GD w W p P n g' v' L' :=
  ⟨h.bel, h.kp, h.kg.congr (fun j hj => by rw [hg j hj]), h.pl.congr hv, fun s hs => by rw [← hv s hs, ← hL s hs]; exact h.le s hs, fun s s' b hs hs' hne e => by rw [← hv s hs] at e; rw [← hv s' hs']; exact h.ap s s' b hs hs' hne e⟩
end

theorem inc_short {l : List Int} (hi : Inc l) (hb : ∀ x ∈ l, 0 ≤ x ∧ x < 6) : l.length ≤ 6 :=
  nodup_len 6 l (List.Pairwise.imp (fun h e => by omega) hi) (fun x hx => by have := hb x hx; omega)

/-! Plain: what Good reckons. -/
/-- Where what can't be forbidden leads to from a row, by numbers. -/
def toNs (p : Plant) (free : List Int) (n k : Nat) : List Int := ((p.seen.take k).filter fun e => !hasB free e).map fun e => ((numN (seeL p (rowN n) e) : Nat) : Int)
theorem toNs_succ {p : Plant} {free : List Int} {n k : Nat} {e : Int} (h : k < p.seen.length) (he : Hid (e = p.seen[k]?.getD 0)) : toNs p free n (k + 1) = if hasB free e = true then toNs p free n k else toNs p free n k ++ [((numN (seeL p (rowN n) e) : Nat) : Int)] := by
  have he := he.out
  rw [List.getElem?_eq_getElem h, Option.getD_some] at he
  unfold toNs
  rw [List.take_add_one, List.getElem?_eq_getElem h, Option.toList_some, List.filter_append, List.map_append, ← he]
  cases hf : hasB free e <;> simp [hf]
theorem toNs_len (p : Plant) (free : List Int) (n k : Nat) : (toNs p free n k).length ≤ k := by
  unfold toNs
  rw [List.length_map]
  exact Nat.le_trans (List.length_filter_le _ _) (by rw [List.length_take]; omega)
def toNa (p : Plant) (free : List Int) (n : Nat) : List Int := toNs p free n p.seen.length
theorem mem_toNa {p : Plant} {free : List Int} {n : Nat} {t : Int} : t ∈ toNa p free n ↔ ∃ e ∈ p.seen, e ∉ free ∧ t = ((numN (seeL p (rowN n) e) : Nat) : Int) := by
  unfold toNa toNs
  rw [List.take_of_length_le (Nat.le_refl _), List.mem_map]
  constructor
  · rintro ⟨e, he, rfl⟩
    obtain ⟨h1, h2⟩ := List.mem_filter.1 he
    exact ⟨e, h1, by unfold hasB at h2; simpa using h2, rfl⟩
  · rintro ⟨e, h1, h2, rfl⟩
    exact ⟨e, List.mem_filter.2 ⟨h1, by unfold hasB; simpa using h2⟩, rfl⟩
/-- What holds from round to round: nothing that can be kept is struck, and nothing is left that tells. -/
structure GP (p : Plant) (free : List Int) (N : Nat) (g : Nat → Bool) : Prop where
  yes : ∀ n, n < N → GoodP p free (rowN n) → g n = true
  no : ∀ n, n < N → g n = true → leakB p.secret (rowN n) = false
theorem gp_start {p : Plant} {free : List Int} {N : Nat} {g : Nat → Bool} (h : ∀ n, n < N → g n = !leakB p.secret (rowN n)) : GP p free N g :=
  ⟨fun n hn hg => by rw [h n hn, good_now hg]; rfl, fun n hn hg => by rw [h n hn] at hg; simpa using hg⟩
theorem see_num {p : Plant} (hm : mayB p.m = true) (z : p.m.st ≤ 6) (r : List Int) (e : Int) : rowN (numN (seeL p r e)) = seeL p r e ∧ numN (seeL p r e) < 2 ^ p.m.st.toNat := by
  have hz := mayB_size hm
  unfold sizeOk at hz
  have hi := see_in hm r e
  exact ⟨row_num hi.1 (fun x hx => by have := hi.2 x hx; omega), num_lt hi.1 (fun x hx => by have := hi.2 x hx; omega)⟩
/-- One is struck that leads to one that is struck. -/
theorem gp_strike {p : Plant} (hm : mayB p.m = true) (z : p.m.st ≤ 6) {free : List Int} {g : Nat → Bool} (h : GP p free (2 ^ p.m.st.toNat) g) {n k : Nat} (hn : n < 2 ^ p.m.st.toNat) (ht : ((k : Nat) : Int) ∈ toNa p free n) (hk : g k = false) : GP p free (2 ^ p.m.st.toNat) (fun y => if y = n then false else g y) := by
  refine ⟨fun y hy hg => ?_, fun y hy hg => ?_⟩
  · by_cases e : y = n
    · subst e
      exfalso
      obtain ⟨c, h1, h2, h3⟩ := mem_toNa.1 ht
      have hs := see_num hm z (rowN y) c
      have h4 := good_see hg h1 h2
      rw [← hs.1] at h4
      have h5 := h.yes _ hs.2 h4
      have : k = numN (seeL p (rowN y) c) := by omega
      rw [this, h5] at hk; cases hk
    · rw [if_neg e]; exact h.yes y hy hg
  · by_cases e : y = n
    · rw [if_pos e] at hg; cases hg
    · rw [if_neg e] at hg; exact h.no y hy hg
/-- Where nothing more is struck, what is left can be kept. -/
theorem gp_end {p : Plant} (hm : mayB p.m = true) (z : p.m.st ≤ 6) {free : List Int} {g : Nat → Bool} (h : GP p free (2 ^ p.m.st.toNat) g) (hc : ∀ n, n < 2 ^ p.m.st.toNat → g n = true → ∀ k : Nat, ((k : Nat) : Int) ∈ toNa p free n → g k = true) : TellsG p free (fun r => g (numN r)) := by
  have hz := mayB_size hm
  unfold sizeOk at hz
  intro r hi hb
  have hr : rowN (numN r) = r := row_num hi (fun x hx => by have := hb x hx; omega)
  have hlt : numN r < 2 ^ p.m.st.toNat := num_lt hi (fun x hx => by have := hb x hx; omega)
  constructor
  · intro hg
    refine good_of (fun r => Inc r ∧ (∀ x ∈ r, 0 ≤ x ∧ x < p.m.st) ∧ g (numN r) = true) ?_ ?_ ⟨hi, hb, hg⟩
    · rintro r ⟨hi, hb, hg⟩
      have hr : rowN (numN r) = r := row_num hi (fun x hx => by have := hb x hx; omega)
      have hlt : numN r < 2 ^ p.m.st.toNat := num_lt hi (fun x hx => by have := hb x hx; omega)
      have := h.no _ hlt hg
      rwa [hr] at this
    · rintro r e ⟨hi, hb, hg⟩ he hf
      have hr : rowN (numN r) = r := row_num hi (fun x hx => by have := hb x hx; omega)
      have hlt : numN r < 2 ^ p.m.st.toNat := num_lt hi (fun x hx => by have := hb x hx; omega)
      have hs := see_in hm r e
      exact ⟨hs.1, hs.2, hc _ hlt hg _ (mem_toNa.2 ⟨e, he, hf, by rw [hr]⟩)⟩
  · intro hg
    rw [← hr] at hg
    exact h.yes _ hlt hg
/-- How many are not struck. -/
def cntG (N : Nat) (g : Nat → Bool) : Nat := ((List.range N).filter g).length
theorem filter_strike {g : Nat → Bool} {n : Nat} (hg : g n = true) : ∀ l : List Nat, l.Nodup → n ∈ l → (l.filter fun y => if y = n then false else g y).length + 1 = (l.filter g).length
  | [], _, h => by cases h
  | x :: r, hd, h => by
    rw [List.nodup_cons] at hd
    by_cases e : x = n
    · subst e
      have h1 : ∀ y ∈ r, (if y = x then false else g y) = g y := fun y hy => if_neg (fun e => hd.1 (by rw [← e]; exact hy))
      rw [List.filter_cons_of_pos hg, List.filter_cons_of_neg (by simp), List.length_cons, List.filter_congr h1]
    · have ih := filter_strike hg r hd.2 (by
        rcases List.mem_cons.1 h with h | h
        · exact absurd h.symm e
        · exact h)
      rw [List.filter_cons, List.filter_cons, if_neg e]
      cases hx : g x with
      | true => rw [if_pos rfl, if_pos rfl, List.length_cons, List.length_cons, ih]
      | false => rw [if_neg (by simp), if_neg (by simp), ih]
theorem cnt_strike {N : Nat} {g : Nat → Bool} {n : Nat} (hn : n < N) (hg : g n = true) : cntG N (fun y => if y = n then false else g y) + 1 = cntG N g := filter_strike hg _ List.nodup_range (List.mem_range.2 hn)

/-- A boolean as it lies in a block: for a measure. -/
def gAt (W : World) (b j : Nat) : Bool := match W.cell? ⟨b, j, none⟩ with
  | some (.bool x) => x
  | _ => false
def boolN : Value → Nat
  | .bool true => 1
  | _ => 0
theorem cnt_at {W : World} {b N : Nat} {t : TypeId} {g : Nat → Bool} (h : RowC W b t N (fun j => .bool (g j))) : cntG N (gAt W b) = cntG N g := by
  unfold cntG
  rw [List.filter_congr (q := g)]
  intro j hj
  unfold gAt
  rw [h.cell (List.mem_range.1 hj)]
/-- What is left goes on to what is left. -/
def ClG (p : Plant) (free : List Int) (n : Nat) (g : Nat → Bool) : Prop := ∀ j, j < n → g j = true → ∀ k : Nat, ((k : Nat) : Int) ∈ toNa p free j → g k = true
theorem toNa_at {p : Plant} (hm : mayB p.m = true) (z : p.m.st ≤ 6) {free : List Int} {n i : Nat} (hi : i < (toNa p free n).length) : ∃ k : Nat, (toNa p free n)[i]?.getD 0 = (k : Int) ∧ k < 2 ^ p.m.st.toNat ∧ (k : Int) ∈ toNa p free n := by
  rw [List.getElem?_eq_getElem hi, Option.getD_some]
  have hmem := List.getElem_mem hi
  obtain ⟨e, -, -, h3⟩ := mem_toNa.1 hmem
  refine ⟨numN (seeL p (rowN n) e), h3, (see_num hm z (rowN n) e).2, ?_⟩
  rw [← h3]; exact hmem
/-- What a round of Good knows: as long as nothing was struck, all stands as at its beginning. -/
def RdG (p : Plant) (free : List Int) (N n i : Nat) (g0 g : Nat → Bool) (a : Bool) : Prop :=
  (a = false → (∀ j, j < N → g j = g0 j) ∧ ClG p free n g ∧ (g n = true → ∀ j, j < i → ∀ k : Nat, (toNa p free n)[j]? = some ((k : Nat) : Int) → g k = true)) ∧ (a = true → cntG N g < cntG N g0)
theorem cnt_congr {N : Nat} {g g' : Nat → Bool} (h : ∀ j, j < N → g j = g' j) : cntG N g = cntG N g' := by
  unfold cntG
  rw [List.filter_congr (q := g')]
  exact fun j hj => h j (List.mem_range.1 hj)
theorem rdg_le {p : Plant} {free : List Int} {N n i : Nat} {g0 g : Nat → Bool} {a : Bool} (h : RdG p free N n i g0 g a) : cntG N g ≤ cntG N g0 := by
  cases a with
  | false => rw [cnt_congr (h.1 rfl).1]; exact Nat.le_refl _
  | true => exact Nat.le_of_lt (h.2 rfl)
theorem rdg_start (p : Plant) (free : List Int) (N : Nat) (g : Nat → Bool) : RdG p free N 0 0 g g false :=
  ⟨fun _ => ⟨fun _ _ => rfl, fun j hj => absurd hj (Nat.not_lt_zero _), fun _ j hj => absurd hj (Nat.not_lt_zero _)⟩, fun e => absurd e (by simp)⟩
theorem rdg_strike {p : Plant} {free : List Int} {N n i i' : Nat} {g0 g : Nat → Bool} {a : Bool} (h : RdG p free N n i g0 g a) (hn : n < N) (hg : g n = true) : RdG p free N n i' g0 (fun y => if y = n then false else g y) true :=
  ⟨fun e => absurd e (by simp), fun _ => by have h1 := cnt_strike hn hg; have h2 := rdg_le h; omega⟩
theorem rdg_on {p : Plant} {free : List Int} {N n i : Nat} {g0 g : Nat → Bool} {a : Bool} (h : RdG p free N n i g0 g a) {k : Nat} (hi : i < (toNa p free n).length) (hk : (toNa p free n)[i]?.getD 0 = (k : Int)) (hg : g k = true) : RdG p free N n (i + 1) g0 g a := by
  refine ⟨fun ha => ⟨(h.1 ha).1, (h.1 ha).2.1, fun hn j hj q hq => ?_⟩, h.2⟩
  by_cases e : j = i
  · subst e
    rw [hq, Option.getD_some] at hk
    have : q = k := by omega
    rw [this]; exact hg
  · exact (h.1 ha).2.2 hn j (by omega) q hq
theorem rdg_next {p : Plant} {free : List Int} {N n i : Nat} {g0 g : Nat → Bool} {a : Bool} (h : RdG p free N n i g0 g a) (hi : (toNa p free n).length ≤ i ∨ g n = false) : RdG p free N (n + 1) 0 g0 g a := by
  refine ⟨fun ha => ⟨(h.1 ha).1, fun j hj hg k hk => ?_, fun _ j hj => absurd hj (Nat.not_lt_zero _)⟩, h.2⟩
  by_cases e : j = n
  · subst e
    rcases hi with hi | hi
    · obtain ⟨q, hq⟩ := List.mem_iff_getElem?.1 hk
      exact (h.1 ha).2.2 hg q (by have := (List.getElem?_eq_some_iff.1 hq).1; omega) k hq
    · rw [hi] at hg; cases hg
  · exact (h.1 ha).2.1 j (by omega) hg k hk

end Go.Proofs.YtmlkpdeidpcidaaDoor
namespace Go.Proofs.YtmlkpdeidpcidaaDoor
open Go.RowKit
set_option linter.unusedVariables false

theorem inc_take {l : List Int} (h : Inc l) (k : Nat) : Inc (l.take k) := List.Pairwise.sublist (List.take_sublist k l) h
theorem numN_take {l : List Int} {k : Nat} {x : Int} (h : k < l.length) (hx : Hid (x = l[k]?.getD 0)) : numN (l.take (k + 1)) = numN (l.take k) + 2 ^ x.toNat := by
  have hx := hx.out
  rw [List.getElem?_eq_getElem h, Option.getD_some] at hx
  rw [List.take_add_one, List.getElem?_eq_getElem h, Option.toList_some, numN_snoc, ← hx]

set_option maxRecDepth 100000 in
set_option maxHeartbeats 2000000 in
theorem rnum_any (a : Option Addr) (c : Nat) (l : List Int) (w : World) (hA : Hid (At w a l)) (hi : Hid (Inc l)) (hb : Hid (∀ x ∈ l, 0 ≤ x ∧ x < 6)) (hl : l.length ≤ 64) :
    Calls Tryd.prog 111 #[.slice a l.length c] w fun e w' => e = .returned (.int .i64 (numN l : Int)) ∧ w' = w := by
  go_enter Tryd.func111, Tryd.ntmps111
  go_wp2_with fail
  go_loopw [3, 4] (fun v i wr => ∃ (k n : Nat), i = .int .i64 k ∧ v = .int .i64 n ∧ k ≤ l.length ∧ n < 64 ∧ Hid (n = numN (l.take k)) ∧ w = wr) (fun _ i _ => l.length - (intOf i).toNat)
  case atStart => exact ⟨0, 0, rfl, rfl, Nat.zero_le _, by omega, rfl, rfl⟩
  case round =>
    obtain ⟨k, n, rfl, rfl, hk, hn, HN, rfl⟩ := hrel
    by_cases hlt : k < l.length
    · obtain ⟨b, off, rfl, hbb, hc⟩ : ∃ b off, a = some ⟨b, off, none⟩ ∧ b < w.heap.size ∧ Cells w b off l := by
        rcases hA.out with h0 | h0
        · rw [h0] at hlt; simp at hlt
        · exact h0
      obtain ⟨x0, HX, c1⟩ := hc.at hlt
      have hxb := hb.out x0 (by
        have := HX.out
        rw [List.getElem?_eq_getElem hlt, Option.getD_some] at this
        rw [this]; exact List.getElem_mem _)
      obtain ⟨x, hx⟩ : ∃ x : Nat, x0 = (x : Int) := ⟨x0.toNat, by omega⟩
      subst hx
      have hx6 : x < 6 := by omega
      have HS := Hid.of (numN_take hlt HX)
      rw [← HN.out, Int.toNat_natCast] at HS
      have hlt2 : Hid (n + 2 ^ x < 64) := by
        show _ < _
        rw [← HS.out]
        exact num_lt (n := 6) (inc_take hi.out _) (fun y hy => by have := hb.out y (List.mem_of_mem_take hy); omega)
      clear hxb HX hc
      go_wp2_with fail
      go_loopw [5, 6] (fun v i wr => ∃ (j q : Nat), i = .int .i64 j ∧ v = .int .i64 q ∧ j ≤ x ∧ q ≤ 32 ∧ Hid (q = 2 ^ j) ∧ w = wr) (fun _ i _ => x - (intOf i).toNat)
      case atStart => exact ⟨0, 1, rfl, rfl, Nat.zero_le _, by omega, rfl, rfl⟩
      case round =>
        obtain ⟨j, q, rfl, rfl, hj, hq, HQ, rfl⟩ := hrel
        by_cases hjx : j < x
        · have hq2 : Hid (2 * q = 2 ^ (j + 1)) := by show _ = _; rw [HQ.out, Nat.pow_succ]; omega
          have hq16 : q ≤ 16 := by
            rw [HQ.out]
            exact Nat.le_trans (Nat.pow_le_pow_right (by omega) (show j ≤ 4 by omega)) (by decide)
          go_wp2_with fail
          go_roundw
          case rel => exact ⟨j + 1, 2 * q, by go_num, by go_num, by omega, by omega, hq2, by first | rfl | trivial⟩
          case measure => simp [intOf]; omega
        · have hjx2 : j = x := by omega
          subst hjx2
          have hnq : n + q < 64 := by rw [HQ.out]; exact hlt2.out
          have HS2 : Hid (n + q = numN (l.take (k + 1))) := by show _ = _; rw [HS.out, HQ.out]
          clear hjx
          go_wp2_with fail
          exact ⟨⟨k + 1, n + q, by go_num, by go_num, by omega, hnq, HS2, by first | rfl | trivial⟩, by simp [intOf]; omega⟩
    · have hk2 : k = l.length := by omega
      subst hk2
      have HN2 : Hid (n = numN l) := by have := HN.out; rw [List.take_of_length_le (Nat.le_refl _)] at this; exact this
      clear hlt
      go_wp2_with fail
      go_ret
      exact ⟨by rw [HN2.out]; rfl, rfl⟩

set_option maxRecDepth 100000 in
set_option maxHeartbeats 2000000 in
theorem rrow_any (n : Nat) (w : World) (hn : n < 64) :
    Calls Tryd.prog 156 #[.int .i64 n] w fun e w' => GivesO w (rowN n) e w' := by
  obtain ⟨i0, hi, hz0, hz1, hz2⟩ := info_parts Tryd.infoInt
  go_enter Tryd.func156, Tryd.ntmps156
  go_wp2_with fail
  go_loopw [0, 3, 4] (fun v0 v i wr => ∃ (s q : Nat), i = .int .i64 s ∧ v0 = .int .i64 q ∧ q < 64 ∧ s ≤ 6 ∧ Hid (q = n / 2 ^ s) ∧ Hid (Own wr w.heap.size v (rowNs n s)) ∧ Hid (Below w.heap.size w wr)) (fun v0 _ _ _ => (intOf v0).toNat)
  case atStart => exact ⟨0, n, rfl, rfl, hn, by omega, by show _ = _; simp, own_nil _ _, Below.refl _ _⟩
  case round =>
    obtain ⟨s, q, rfl, rfl, hq, hs, HQ, HO, HB⟩ := hrel
    obtain ⟨fa, fc, hfa, -, -, -⟩ := own_form2 HO.out
    subst hfa
    have hwz := HB.out.size
    by_cases hq0 : 0 < q
    · have hs5 : s < 6 := by
        rcases Nat.lt_or_ge s 6 with h1 | h1
        · exact h1
        · have h2 : s = 6 := by omega
          have h3 := HQ.out
          rw [h2] at h3
          have : n / 2 ^ 6 = 0 := by omega
          omega
      have HQ2 : Hid (q / 2 = n / 2 ^ (s + 1)) := by show _ = _; rw [HQ.out, Nat.div_div_eq_div_mul, Nat.pow_succ]
      have HSS := Hid.of (rowNs_succ n s)
      have HBT : Hid (n.testBit s = decide (q % 2 = 1)) := by show _ = _; rw [HQ.out, Nat.testBit_eq_decide_div_mod_eq]
      have hrl := rowNs_len n s
      have ht1 : (q : Int).tmod 2 = ((q % 2 : Nat) : Int) := by rw [Int.tmod_eq_emod_of_nonneg (by omega)]; omega
      have ht2 : (q : Int).tdiv 2 = ((q / 2 : Nat) : Int) := by rw [Int.tdiv_eq_ediv_of_nonneg (by omega)]; omega
      by_cases hb : q % 2 = 1
      · have HR : Hid (rowNs n (s + 1) = rowNs n s ++ [(s : Int)]) := by show _ = _; rw [HSS.out, HBT.out, if_pos (decide_eq_true hb)]
        have hbI : (((q % 2 : Nat) : Int) == 1) = true := beq_iff_eq.2 (by omega)
        clear HSS HBT
        go_wp2_with (at_builtin; refine wpList_append_own _ rfl _ _ 22 rfl w.heap.size 3 i0 (.int .i64 0) 1 8 Tryd.underlying22 hi hz0 hz1 hz2 rfl (by decide) _ _ _ rfl (World.ownsRow.alloc HO.out _) ⟨wr.heap.size, 0, none⟩ 1 1 [.int .i64 (s : Int)] rfl rfl (cell_one_new _ _ _) (by intro u hu; simp at hu; subst hu; rfl) (by unfold maxLen; omega) (by omega) (by simp; omega) ?_)
        intro v' w3 hown' hgrow _
        obtain ⟨r1, r2, -⟩ := own_snoc HO.out HB.out hwz hown' hgrow
        have R1 := Hid.of r1
        have R2 := Hid.of r2
        clear hown' hgrow r1 r2
        go_wp2_with fail
        go_roundw
        case rel => exact ⟨s + 1, q / 2, by go_num, rfl, by omega, by omega, HQ2, by rw [HR.out]; exact R1, R2⟩
        case measure => simp [intOf]; omega
      · have HR : Hid (rowNs n (s + 1) = rowNs n s) := by show _ = _; rw [HSS.out, HBT.out, decide_eq_false hb]; rfl
        have hbI : (((q % 2 : Nat) : Int) == 1) = false := beq_eq_false_iff_ne.2 (by omega)
        clear HSS HBT
        go_wp2_with fail
        go_roundw
        case rel => exact ⟨s + 1, q / 2, by go_num, rfl, by omega, by omega, HQ2, by rw [HR.out]; exact HO, HB⟩
        case measure => simp [intOf]; omega
    · have hq1 : q = 0 := by omega
      subst hq1
      have HR : Hid (rowNs n s = rowN n) := rowNs_all (by omega) HQ.out.symm
      rw [HR.out] at HO
      rw [HR.out]
      clear hq0
      go_wp2_with fail
      go_ret
      exact ⟨_, rfl, HO.out, HB.out⟩

theorem part_no {a b s q r : Nat} (hs : s < 64) (hq : Hid (q = a / 2 ^ s)) (hr : Hid (r = b / 2 ^ s)) (h1 : q % 2 = 1) (h2 : r % 2 = 0) : false = partN a b := by
  cases hp : partN a b with
  | false => rfl
  | true =>
    unfold partN at hp
    rw [decide_eq_true_eq] at hp
    have ha : a.testBit s = true := by rw [Nat.testBit_eq_decide_div_mod_eq, ← hq.out, decide_eq_true h1]
    have := hp s hs ha
    rw [Nat.testBit_eq_decide_div_mod_eq, ← hr.out, decide_eq_false (by omega)] at this; cases this
theorem part_go {a b s q r : Nat} (hq : Hid (q = a / 2 ^ s)) (hr : Hid (r = b / 2 ^ s)) (h : ¬ (q % 2 = 1 ∧ r % 2 = 0)) (hp : Hid (∀ i : Nat, i < s → a.testBit i = true → b.testBit i = true)) : Hid (∀ i : Nat, i < s + 1 → a.testBit i = true → b.testBit i = true) := fun i hi ha => by
  by_cases e : i = s
  · subst e
    rw [Nat.testBit_eq_decide_div_mod_eq, ← hq.out, decide_eq_true_eq] at ha
    rw [Nat.testBit_eq_decide_div_mod_eq, ← hr.out, decide_eq_true_eq]
    omega
  · exact hp.out i (by omega) ha
theorem part_yes {a b s : Nat} (hs : a / 2 ^ s = 0) (hp : Hid (∀ i : Nat, i < s → a.testBit i = true → b.testBit i = true)) : true = partN a b := by
  symm
  unfold partN
  rw [decide_eq_true_eq]
  intro i _ ha
  rcases Nat.lt_or_ge i s with h1 | h1
  · exact hp.out i h1 ha
  · have hlt : a < 2 ^ s := (Nat.div_eq_zero_iff_lt (Nat.two_pow_pos s)).1 hs
    rw [Nat.testBit_lt_two_pow (Nat.lt_of_lt_of_le hlt (Nat.pow_le_pow_right (by omega) h1))] at ha; cases ha

set_option maxRecDepth 100000 in
set_option maxHeartbeats 2000000 in
theorem rpart_any (a b : Nat) (w : World) (ha : a < 64) (hb : b < 64) :
    Calls Tryd.prog 188 #[.int .i64 a, .int .i64 b] w fun e w' => e = .returned (.bool (partN a b)) ∧ w' = w := by
  go_enter Tryd.func188, Tryd.ntmps188
  go_wp2_with fail
  go_loopw [0, 1] (fun v0 v1 wr => ∃ (s q r : Nat), v0 = .int .i64 q ∧ v1 = .int .i64 r ∧ q < 64 ∧ r < 64 ∧ s ≤ 6 ∧ Hid (q = a / 2 ^ s) ∧ Hid (r = b / 2 ^ s) ∧ Hid (∀ i : Nat, i < s → a.testBit i = true → b.testBit i = true) ∧ w = wr) (fun v0 _ _ => (intOf v0).toNat)
  case atStart => exact ⟨0, a, b, rfl, rfl, ha, hb, by omega, by show _ = _; simp, by show _ = _; simp, fun i hi => absurd hi (Nat.not_lt_zero _), rfl⟩
  case round =>
    obtain ⟨s, q, r, rfl, rfl, hq, hr, hs, HQ, HR, HP, rfl⟩ := hrel
    by_cases hq0 : 0 < q
    · have hs5 : s < 6 := by
        rcases Nat.lt_or_ge s 6 with h1 | h1
        · exact h1
        · have h2 : s = 6 := by omega
          have h3 := HQ.out
          rw [h2] at h3
          have : a / 2 ^ 6 = 0 := by omega
          omega
      have HQ2 : Hid (q / 2 = a / 2 ^ (s + 1)) := by show _ = _; rw [HQ.out, Nat.div_div_eq_div_mul, Nat.pow_succ]
      have HR2 : Hid (r / 2 = b / 2 ^ (s + 1)) := by show _ = _; rw [HR.out, Nat.div_div_eq_div_mul, Nat.pow_succ]
      have ht1 : (q : Int).tmod 2 = ((q % 2 : Nat) : Int) := by rw [Int.tmod_eq_emod_of_nonneg (by omega)]; omega
      have ht2 : (q : Int).tdiv 2 = ((q / 2 : Nat) : Int) := by rw [Int.tdiv_eq_ediv_of_nonneg (by omega)]; omega
      have ht3 : (r : Int).tmod 2 = ((r % 2 : Nat) : Int) := by rw [Int.tmod_eq_emod_of_nonneg (by omega)]; omega
      have ht4 : (r : Int).tdiv 2 = ((r / 2 : Nat) : Int) := by rw [Int.tdiv_eq_ediv_of_nonneg (by omega)]; omega
      by_cases h1 : q % 2 = 1
      · have b1 : (((q % 2 : Nat) : Int) == 1) = true := beq_iff_eq.2 (by omega)
        by_cases h2 : r % 2 = 0
        · have b2 : (((r % 2 : Nat) : Int) == 0) = true := beq_iff_eq.2 (by omega)
          have HO : Hid (false = partN a b) := part_no (by omega) HQ HR h1 h2
          go_wp2_with fail
          go_ret
          exact ⟨ret_bool HO.out, rfl⟩
        · have b2 : (((r % 2 : Nat) : Int) == 0) = false := beq_eq_false_iff_ne.2 (by omega)
          have HP2 := part_go HQ HR (fun h => h2 h.2) HP
          have h3 : r % 2 = 1 := by omega
          go_wp2_with fail
          go_roundw
          case rel => exact ⟨s + 1, q / 2, r / 2, rfl, rfl, by omega, by omega, by omega, HQ2, HR2, HP2, by first | rfl | trivial⟩
          case measure => simp [intOf]; omega
      · have b1 : (((q % 2 : Nat) : Int) == 1) = false := beq_eq_false_iff_ne.2 (by omega)
        have HP2 := part_go HQ HR (fun h => h1 h.1) HP
        go_wp2_with fail
        go_roundw
        case rel => exact ⟨s + 1, q / 2, r / 2, rfl, rfl, by omega, by omega, by omega, HQ2, HR2, HP2, by first | rfl | trivial⟩
        case measure => simp [intOf]; omega
    · have hq1 : q = 0 := by omega
      subst hq1
      have HO : Hid (true = partN a b) := part_yes HQ.out.symm HP
      clear hq0
      go_wp2_with fail
      go_ret
      exact ⟨ret_bool HO.out, rfl⟩

end Go.Proofs.YtmlkpdeidpcidaaDoor
