/-
  What is said of a slice of slices of integers: that it reads as a list of lists ('At2'), that it is in the call's own memory ('Own2'); one row more.
  The walk of jalousieref1.Sorted: insertion, one number after the other: it answers 'srt xs'.
  jalousieref1.Sorted hands back a slice of its own.
  append(v, y...) of integers: v a row of the call's own, y any slice; and the empty literal slice.
  The walk of jalousieref1.Has: whether a list has a number.
-/
import Derived.Test.YtialjbdfkhfcoabDoorG06
import Derived.Deep.QuietTactic
import Derived.BigQuiet
import Derived.Test.YtialjbdfkhfcoabDoorG03
namespace Go.Proofs.YtialjbdfkhfcoabDoor
open Go.RowKit
set_option linter.unusedVariables false

theorem Tryd.infoInts : (Tryd.prog.info? 22).map (fun i => (i.zero, i.size, i.bytes)) = some (some (.slice none 0 0), 1, 24) := by kernel_rfl

/-- A slice of slices reads as a list of lists. -/
def At2 (w : World) (a : Option Addr) (LL : List (List Int)) : Prop :=
  LL = [] ∨ ∃ b off, a = some ⟨b, off, none⟩ ∧ b < w.heap.size ∧ ∀ (k : Nat) (xs : List Int), LL[k]? = some xs → ∃ a' c', w.cell? ⟨b, off + k, none⟩ = some (.slice a' xs.length c') ∧ At w a' xs ∧ xs.length ≤ maxLen
theorem At2.below {w w' : World} {a : Option Addr} {LL : List (List Int)} {B : Nat} (h : At2 w a LL) (hb : Below B w w') (hB : w.heap.size ≤ B) : At2 w' a LL := by
  rcases h with h | ⟨b, off, rfl, hlt, hc⟩
  · exact .inl h
  · refine .inr ⟨b, off, rfl, Nat.lt_of_lt_of_le hlt hb.size, fun k xs hk => ?_⟩
    obtain ⟨a', c', h1, h2, h3⟩ := hc k xs hk
    exact ⟨a', c', (hb.cell (p := ⟨b, off + k, none⟩) (Nat.lt_of_lt_of_le hlt hB)).trans h1, h2.below hb hB, h3⟩
theorem At2.drewN {w : World} {a : Option Addr} {LL : List (List Int)} (h : At2 w a LL) (m : Nat) : At2 (w.drewN m) a LL := h

/-- An inner slice: it lies in a block of integers. -/
def InnB (w : World) (v : Value) (xs : List Int) : Prop := ∃ a c, v = .slice a xs.length c ∧ xs.length ≤ c ∧ c ≤ maxLen ∧ (xs = [] ∨ ∃ (g o : Nat) (cs : Array Value), a = some ⟨g, o, none⟩ ∧ w.heap[g]? = some (Obj.cells cs 3 (0, 0)) ∧ ∀ j, j < xs.length → cs[o + j]? = some (.int .i64 (xs.getD j 0)))
theorem InnB.one {w : World} {v : Value} {xs : List Int} (h : InnB w v xs) : v.oneCell' = true := by
  obtain ⟨a, c, rfl, -⟩ := h; rfl
theorem InnB.kept {w w' : World} {v : Value} {xs : List Int} (h : InnB w v xs) (hk : ∀ (g : Nat) (cs : Array Value), w.heap[g]? = some (Obj.cells cs 3 (0, 0)) → w'.heap[g]? = w.heap[g]?) : InnB w' v xs := by
  obtain ⟨a, c, h1, h2, h3, h4⟩ := h
  refine ⟨a, c, h1, h2, h3, ?_⟩
  rcases h4 with h4 | ⟨k, o, cs, e, hh, hc⟩
  · exact .inl h4
  · exact .inr ⟨k, o, cs, e, (hk k cs hh).trans hh, hc⟩
theorem InnB.below {w w' : World} {v : Value} {xs : List Int} (h : InnB w v xs) (hb : Below w.heap.size w w') : InnB w' v xs :=
  h.kept fun g cs hg => hb.block g (Array.getElem?_eq_some_iff.1 hg).1
theorem InnB.at {w : World} {v : Value} {xs : List Int} (h : InnB w v xs) : ∃ a c, v = .slice a xs.length c ∧ At w a xs ∧ xs.length ≤ maxLen := by
  obtain ⟨a, c, h1, h2, h3, h4⟩ := h
  refine ⟨a, c, h1, ?_, Nat.le_trans h2 h3⟩
  rcases h4 with h4 | ⟨k, o, cs, e, hh, hc⟩
  · exact .inl h4
  · refine .inr ⟨k, o, e, (Array.getElem?_eq_some_iff.1 hh).1, fun j hj => ?_⟩
    simp [World.cell?, hh, hc j hj]

/-- The slice of slices v is in memory made from block B on, and holds LL. -/
def Own2 (w : World) (B : Nat) (v : Value) (LL : List (List Int)) : Prop := ∃ vs : List Value, w.ownsRow B 22 1 v LL.length vs ∧ ∀ (j : Nat) (x : Value) (xs : List Int), vs[j]? = some x → LL[j]? = some xs → InnB w x xs
theorem own2_nil (w : World) (B : Nat) : Own2 w B (.slice none 0 0) [] := ⟨[], World.ownsRow_nil _ _ _ _, fun j x xs h => by simp at h⟩
theorem Own2.at {w : World} {B : Nat} {v : Value} {LL : List (List Int)} (h : Own2 w B v LL) : ∃ a cap, v = .slice a LL.length cap ∧ At2 w a LL ∧ LL.length ≤ cap ∧ cap ≤ maxLen ∧ (a = none → cap = 0) := by
  obtain ⟨vs, ho, hi⟩ := h
  rcases ho.2 with ⟨rfl, hn⟩ | ⟨g, cap, cur, rfl, hg, hh, hnc, hcm, hcs, ht⟩
  · have : LL = [] := List.eq_nil_of_length_eq_zero hn
    subst this
    exact ⟨none, 0, rfl, .inl rfl, Nat.le_refl _, Nat.zero_le _, fun _ => rfl⟩
  · refine ⟨some ⟨g, 0, none⟩, cap, rfl, .inr ⟨g, 0, rfl, (Array.getElem?_eq_some_iff.1 hh).1, fun k xs hk => ?_⟩, hnc, hcm, fun h => by cases h⟩
    have hlt : k < vs.length := by rw [ho.1, Nat.mul_one]; exact (List.getElem?_eq_some_iff.1 hk).1
    have hx := List.getElem?_eq_getElem hlt
    obtain ⟨a, c, e, h1, h2⟩ := (hi k _ xs hx hk).at
    have hc := ho.cells (g := g) rfl k _ hx
    rw [show (⟨g, 0, none⟩ : Addr).add k = ⟨g, 0 + k, none⟩ from by unfold Addr.add; split <;> simp_all, e] at hc
    exact ⟨a, c, hc, h1, h2⟩
theorem Own2.below {w w' : World} {B : Nat} {v : Value} {LL : List (List Int)} (h : Own2 w B v LL) (hb : Below w.heap.size w w') : Own2 w' B v LL := by
  obtain ⟨vs, ho, hi⟩ := h
  refine ⟨vs, ⟨ho.1, ?_⟩, fun j x xs h1 h2 => (hi j x xs h1 h2).below hb⟩
  rcases ho.2 with hn | ⟨g, cap, cur, rfl, hg, hgg, rest⟩
  · exact .inl hn
  · exact .inr ⟨g, cap, cur, rfl, hg, (hb.block g (Array.getElem?_eq_some_iff.1 hgg).1).trans hgg, rest⟩
theorem Own2.alloc {w : World} {B : Nat} {v : Value} {LL : List (List Int)} (h : Own2 w B v LL) (o : Obj) : Own2 (w.alloc o) B v LL := h.below ((Below.refl _ _).alloc (Nat.le_refl _) o)
theorem Own2.drewN {w : World} {B : Nat} {v : Value} {LL : List (List Int)} (h : Own2 w B v LL) (m : Nat) : Own2 (w.drewN m) B v LL := h
theorem Own2.lt {w : World} {B : Nat} {v : Value} {LL : List (List Int)} (h : Own2 w B v LL) : ∀ k, v.ownBlock = some k → B ≤ k := fun k hk => by
  obtain ⟨vs, ho, -⟩ := h
  exact (ho.lt k hk).1
/-- A block that is not of slices is none of its own. -/
theorem Own2.apart {w : World} {B : Nat} {v : Value} {LL : List (List Int)} (h : Own2 w B v LL) {g : Nat} {t : TypeId} {cs : Array Value} (hg : w.heap[g]? = some (.cells cs t (0, 0))) (ht : t ≠ 22) : some g ≠ v.ownBlock := by
  intro e
  obtain ⟨vs, ho, -⟩ := h
  rcases ho.2 with ⟨rfl, hn⟩ | ⟨g', cap, cur, rfl, hg', hh, rest⟩
  · cases e
  · have : g = g' := Option.some.inj e
    subst this
    rw [hg] at hh
    cases hh
    exact ht rfl

/-- One row more: behind an append onto the call's own row. -/
theorem Own2.snoc {w w' : World} {B : Nat} {v v' x : Value} {LL : List (List Int)} {xs : List Int} {vs : List Value} (hown : w.ownsRow B 22 1 v LL.length vs) (hi : ∀ (j : Nat) (x : Value) (xs : List Int), vs[j]? = some x → LL[j]? = some xs → InnB w x xs) (hx : InnB w x xs)
    (hown' : w'.ownsRow B 22 1 v' (LL.length + 1) (vs ++ [x])) (hg : w.grownBy w' v.ownBlock) : Own2 w' B v' (LL ++ [xs]) := by
  have hl : vs.length = LL.length := by have := hown.1; omega
  have h2 : Own2 w B v LL := ⟨vs, hown, hi⟩
  have hk : ∀ (g : Nat) (cs : Array Value), w.heap[g]? = some (Obj.cells cs 3 (0, 0)) → w'.heap[g]? = w.heap[g]? := fun g cs hh => hg.block g (Array.getElem?_eq_some_iff.1 hh).1 (h2.apart hh (by decide))
  refine ⟨vs ++ [x], by rw [List.length_append]; exact hown', fun j y ys h1 h2 => ?_⟩
  by_cases hj : j < LL.length
  · rw [List.getElem?_append_left (by omega)] at h1
    rw [List.getElem?_append_left hj] at h2
    exact (hi j y ys h1 h2).kept hk
  · have hj2 : j < (LL ++ [xs]).length := (List.getElem?_eq_some_iff.1 h2).1
    have : j = LL.length := by simp at hj2; omega
    subst this
    rw [List.getElem?_append_right (by omega)] at h1 h2
    rw [hl] at h1
    simp at h1 h2
    subst h1; subst h2
    exact hx.kept hk
theorem innB_new (W : World) (x y : Int) : InnB (W.alloc (.cells #[.int .i64 x, .int .i64 y] 3)) (.slice (some ⟨W.heap.size, 0, none⟩) 2 2) [x, y] := by
  refine ⟨_, 2, rfl, Nat.le_refl _, by decide, .inr ⟨W.heap.size, 0, _, rfl, World.alloc_heap_new W _, fun j hj => ?_⟩⟩
  have : j = 0 ∨ j = 1 := by simp at hj; omega
  rcases this with rfl | rfl <;> rfl

/-- Pairs, as rows of two. -/
def prs (L : List (Int × Int)) : List (List Int) := L.map fun p => [p.1, p.2]
theorem prs_len (L : List (Int × Int)) : (prs L).length = L.length := by simp [prs]
theorem prs_snoc (L : List (Int × Int)) (p : Int × Int) : prs (L ++ [p]) = prs L ++ [[p.1, p.2]] := by simp [prs]
theorem At2.pair {w : World} {a : Option Addr} {L : List (Int × Int)} (h : At2 w a (prs L)) {k : Nat} (hk : k < L.length) :
    ∃ b off, a = some ⟨b, off, none⟩ ∧ b < w.heap.size ∧ ∀ k, k < L.length → ∃ p g o c, Hid (L[k]? = some p) ∧ g < w.heap.size ∧ w.cell? ⟨b, off + k, none⟩ = some (.slice (some ⟨g, o, none⟩) 2 c) ∧ w.cell? ⟨g, o, none⟩ = some (.int .i64 p.1) ∧ w.cell? ⟨g, o + 1, none⟩ = some (.int .i64 p.2) := by
  rcases h with h | ⟨b, off, rfl, hlt, hc⟩
  · have := prs_len L; rw [h] at this; simp at this; omega
  · refine ⟨b, off, rfl, hlt, fun k hk => ?_⟩
    obtain ⟨p, hp⟩ : ∃ p, L[k]? = some p := ⟨_, List.getElem?_eq_getElem hk⟩
    obtain ⟨a', c', h1, h2, h3⟩ := hc k [p.1, p.2] (by simp [prs, hp])
    rcases h2 with h2 | ⟨g, o, rfl, hg, hcc⟩
    · cases h2
    · exact ⟨p, g, o, c', hp, hg, h1, hcc 0 (by simp), hcc 1 (by simp)⟩

end Go.Proofs.YtialjbdfkhfcoabDoor
namespace Go.Proofs.YtialjbdfkhfcoabDoor
open Go.RowKit
set_option linter.unusedVariables false

theorem getD_cons_succ' (y : Int) (r : List Int) (j : Nat) : (y :: r)[j + 1]?.getD 0 = r[j]?.getD 0 := by simp

theorem ins_put {x : Int} : ∀ {L : List Int} {p : Nat}, p ≤ L.length → (∀ j, j < p → L[j]?.getD 0 < x) → (p = L.length ∨ x < L[p]?.getD 0) → ins x L = L.take p ++ x :: L.drop p
  | [], p, hp, _, _ => by have : p = 0 := by simpa using hp
                          subst this; simp [ins]
  | y :: r, 0, _, _, h => by
    rcases h with h | h
    · simp at h
    · have h : x < y := by simpa using h
      simp only [ins, List.take_zero, List.drop_zero, List.nil_append]
      rw [if_neg (by omega), if_neg (by omega)]
  | y :: r, p + 1, hp, hl, h => by
    have h0 : y < x := by simpa using hl 0 (by omega)
    have := ins_put (x := x) (L := r) (p := p) (by simpa using hp) (fun j hj => by have := hl (j + 1) (by omega); rwa [getD_cons_succ'] at this) (by rcases h with h | h; left; simpa using h; right; rwa [getD_cons_succ'] at h)
    simp only [ins]
    rw [if_pos h0, this]
    simp
theorem ins_same {x : Int} : ∀ {L : List Int} {p : Nat}, p < L.length → (∀ j, j < p → L[j]?.getD 0 < x) → L[p]?.getD 0 = x → ins x L = L
  | [], p, hp, _, _ => by simp at hp
  | y :: r, 0, _, _, h => by
    have h : y = x := by simpa using h
    simp only [ins]
    rw [if_neg (by omega), if_pos h]
  | y :: r, p + 1, hp, hl, h => by
    have h0 : y < x := by simpa using hl 0 (by omega)
    have := ins_same (x := x) (L := r) (p := p) (by simpa using hp) (fun j hj => by have := hl (j + 1) (by omega); rwa [getD_cons_succ'] at this) (by rwa [getD_cons_succ'] at h)
    simp only [ins]
    rw [if_pos h0, this]

/-- The list with one place more, at c. -/
def gap (L : List Int) (c : Nat) (y : Int) : List Int := L.take c ++ y :: L.drop c

theorem gap_len {L : List Int} {c : Nat} {y : Int} (h : c ≤ L.length) : (gap L c y).length = L.length + 1 := by simp [gap]; omega
theorem gap_end (L : List Int) : L ++ [0] = gap L L.length 0 := by simp [gap]
theorem gap_at {L : List Int} {c : Nat} {y : Int} (h : c < L.length) : (gap L (c + 1) y)[c]?.getD 0 = L[c]?.getD 0 := by
  rw [gap, List.getElem?_append_left (by simp; omega), List.getElem?_take_of_lt (by omega)]
theorem gap_set {L : List Int} {c : Nat} {y x : Int} (h : c ≤ L.length) : (gap L c y).set c x = gap L c x := by
  rw [gap, gap, List.set_append_right _ _ (by simp; omega)]
  simp only [List.length_take]
  rw [show c - min c L.length = 0 by omega]; rfl
theorem gap_move {L : List Int} {c : Nat} {y : Int} (h : c < L.length) : (gap L (c + 1) y).set (c + 1) (L[c]?.getD 0) = gap L c (L[c]?.getD 0) := by
  rw [gap_set (by omega), gap, gap, List.take_add_one, List.getElem?_eq_getElem h]
  conv => rhs; rw [List.drop_eq_getElem_cons h]
  simp only [Option.toList_some, Option.getD_some, List.append_assoc, List.singleton_append]

theorem Own.cellAt {w : World} {B g n cap : Nat} {M : List Int} (h : Own w B (.slice (some ⟨g, 0, none⟩) n cap) M) {j : Nat} (hj : j < M.length) : w.cell? ⟨g, j, none⟩ = some (.int .i64 (M[j]?.getD 0)) ∧ w.frozen? ⟨g, j, none⟩ = false ∧ B ≤ g := by
  rcases h.cells_of with ⟨h0, _⟩ | ⟨g', cap', h0, hb, hg, hc, hf⟩
  · simp at h0
  · simp only [Value.slice.injEq, Option.some.injEq, Addr.mk.injEq, and_true] at h0
    obtain ⟨rfl, rfl, rfl⟩ := h0
    have := hc j hj
    rw [Nat.zero_add, List.getD_eq_getElem?_getD] at this
    exact ⟨this, hf j, hb⟩
theorem Own.stored {w : World} {B g n cap : Nat} {M : List Int} (h : Own w B (.slice (some ⟨g, 0, none⟩) n cap) M) (j : Nat) (x : Int) : Own (w.setCell ⟨g, j, none⟩ (.int .i64 x)) B (.slice (some ⟨g, 0, none⟩) n cap) (M.set j x) := by
  have hn : n = M.length := by
    rcases h.2 with ⟨h0, _⟩ | ⟨g', cap', cur, h0, _⟩
    · simp at h0
    · simp only [Value.slice.injEq] at h0; exact h0.2.1
  subst hn
  have := (World.ownsRow.stored h j (.int .i64 x)).1
  unfold Own
  rw [List.length_set, List.map_set]
  exact this
theorem Own.shape {w : World} {B : Nat} {v : Value} {M : List Int} (h : Own w B v M) (hp : 0 < M.length) : ∃ g cap, v = .slice (some ⟨g, 0, none⟩) M.length cap := by
  rcases h.cells_of with ⟨_, h0⟩ | ⟨g', cap', h0, _⟩
  · subst h0; simp at hp
  · exact ⟨g', cap', h0⟩

theorem srt_take {xs : List Int} {k : Nat} {x : Int} (h : k < xs.length) (hx : Hid (x = xs[k]?.getD 0)) : srt (xs.take (k + 1)) = ins x (srt (xs.take k)) := by
  have hx := hx.out
  rw [List.getElem?_eq_getElem h, Option.getD_some] at hx
  rw [List.take_add_one, List.getElem?_eq_getElem h, Option.toList_some, srt_snoc, hx]

set_option maxHeartbeats 2000000 in
set_option maxRecDepth 100000 in
theorem sorted_some (bx ox cx : Nat) (xs : List Int) (w : World) (hl : xs.length ≤ 17592186044416) (hbx : bx < w.heap.size) (hc : Cells w bx ox xs) :
    Calls Tryd.prog 72 #[.slice (some ⟨bx, ox, none⟩) xs.length cx] w fun e w' => ∃ v, e = .returned v ∧ Own w' w.heap.size v (srt xs) ∧ Below w.heap.size w w' := by
  obtain ⟨i0, hi, hz0, hz1, hz2⟩ := info_parts Tryd.infoInt
  go_enter Tryd.func72, Tryd.ntmps72
  go_wp2
  go_loopw [3, 4] (fun v i wr => ∃ k : Nat, k ≤ xs.length ∧ i = .int .i64 k ∧ Own wr w.heap.size v (srt (xs.take k)) ∧ Below w.heap.size w wr) (fun _ i _ => xs.length - (intOf i).toNat)
  case atStart => exact ⟨0, Nat.zero_le _, rfl, own_nil _ _, Below.refl _ _⟩
  case round =>
    obtain ⟨k, hk, rfl, hown, hbel⟩ := hrel
    by_cases hlt : k < xs.length
    · obtain ⟨x, HX, hcx0⟩ := hc.at hlt
      obtain ⟨wo, hwo⟩ : ∃ wo : World, wo = wr := ⟨_, rfl⟩
      subst hwo
      have hcx : wo.cell? ⟨bx, ox + k, none⟩ = some (.int .i64 x) := (hbel.cell (p := ⟨bx, ox + k, none⟩) hbx).trans hcx0
      have hcx00 := hcx0
      clear hcx0
      have hnext : Hid (srt (xs.take (k + 1)) = ins x (srt (xs.take k))) := srt_take hlt HX
      have hll : (srt (xs.take k)).length ≤ k := Nat.le_trans (srt_len _) (List.length_take_le _ _)
      generalize srt (xs.take k) = L at *
      obtain ⟨a, cap, rfl, hat, hlm⟩ := hown.at
      unfold maxLen at hlm
      go_wp2
      go_loopw [5] (fun i wr' => ∃ p q : Nat, p ≤ L.length ∧ i = .int .i64 p ∧ wr' = wo.drewN q ∧ Hid (∀ j, j < p → L[j]?.getD 0 < x)) (fun i _ => L.length - (intOf i).toNat)
      case atStart => exact ⟨0, 0, Nat.zero_le _, rfl, rfl, fun j hj => by omega⟩
      case round =>
        obtain ⟨p, q, hp, rfl, rfl, hlow⟩ := hrel
        by_cases hpl : p < L.length
        · rcases hat with h0 | ⟨b, off, rfl, hb, hca⟩
          · subst h0; simp at hpl
          · obtain ⟨y, HY, hcy⟩ := hca.at hpl
            by_cases c1 : y < x
            · have d : decide (y < x) = true := by simpa using c1
              go_wp2
              go_quiet (fail)
              go_wp2
              go_roundw
              case rel => exact ⟨p + 1, _, by omega, by go_num, rfl, fun j hj => by
                by_cases e : j = p
                · subst e; have := HY.out; omega
                · exact hlow.out j (by omega)⟩
              case measure => simp [intOf]; omega
            · have d : decide (y < x) = false := by simpa using c1
              go_wp2
              go_quiet (fail)
              go_wp2
              obtain ⟨Q, hQ⟩ : ∃ Q, (wo.drewN q).drewN nq = wo.drewN Q := ⟨_, World.drewN_drewN _ _ _⟩
              rw [hQ]
              clear hQ
              by_cases c2 : y = x
              · have HC : Hid (y = x) := c2
                have d2 : (y == x) = true := by simp [c2]
                clear c2
                have E2 : Hid (srt (xs.take (k + 1)) = L) := by show _ = _; rw [hnext.out]; exact ins_same hpl hlow.out (by rw [← HY.out]; exact HC.out)
                go_quiet (fail)
                go_wp2
                go_roundw
                case rel => exact ⟨k + 1, by omega, by go_num, by rw [E2.out]; exact hown.drewN _, below_drewN hbel _⟩
                case measure => simp [intOf]; omega
              · have d2 : (y == x) = false := by simp [c2]
                go_quiet (fail)
                obtain ⟨Q', hQ'⟩ : ∃ Q', (wo.drewN Q).drewN nq = wo.drewN Q' := ⟨_, World.drewN_drewN _ _ _⟩
                rw [hQ']
                clear hQ'
                have HE : Hid (p = L.length ∨ x < L[p]?.getD 0) := .inr (by have := HY.out; omega)
                obtain ⟨wq, hwq⟩ : ∃ wq : World, wq = wo.drewN Q' := ⟨_, rfl⟩
                have hown0 : Own wq w.heap.size (.slice (some ⟨b, off, none⟩) L.length cap) L := by rw [hwq]; exact hown.drewN Q'
                have hbelo : Below w.heap.size w wq := by rw [hwq]; exact below_drewN hbel _
                have hcxq : wq.cell? ⟨bx, ox + k, none⟩ = some (.int .i64 x) := by rw [hwq]; exact hcx
                rw [← hwq]
                clear hwq hown hbel hcx
                have hszo : w.heap.size ≤ wq.heap.size := hbelo.size
                have hbxq : bx < wq.heap.size := by omega
                go_wp2_with (at_builtin; refine wpList_append_own _ rfl _ _ 22 rfl w.heap.size 3 i0 (.int .i64 0) 1 8 Tryd.underlying22 hi hz0 hz1 hz2 rfl (by decide) _ _ _ rfl (World.ownsRow.alloc hown0 _) ⟨wq.heap.size, 0, none⟩ 1 1 [.int .i64 0] rfl rfl (cell_one_new _ _ _) (by intro u hu; simp at hu; subst hu; rfl) (by unfold maxLen; omega) (by omega) (by simp; omega) ?_)
                intro v' w1 hown' hgrow _
                obtain ⟨o1, o2, -⟩ := own_snoc hown0 hbelo hszo hown' hgrow
                clear hown' hgrow hown0 hcxq
                obtain ⟨g, cap', rfl⟩ := o1.shape (by simp)
                rw [List.length_append, List.length_singleton] at o1 ⊢
                rw [gap_end] at o1
                go_wp2
                go_loopw [6] (fun i wr' => ∃ (c : Nat) (z : Int), p ≤ c ∧ c ≤ L.length ∧ i = .int .i64 c ∧ Own wr' w.heap.size (.slice (some ⟨g, 0, none⟩) (L.length + 1) cap') (gap L c z) ∧ Below w.heap.size w wr') (fun i _ => (intOf i).toNat)
                case atStart => exact ⟨L.length, 0, hp, Nat.le_refl _, by go_num, o1, o2⟩
                case round =>
                  obtain ⟨c, z, hc1, hc2, rfl, ow, bw⟩ := hrel
                  clear o1 o2
                  by_cases hcp : p < c
                  · obtain ⟨e, rfl⟩ : ∃ e, c = e + 1 := ⟨c - 1, by omega⟩
                    have hgl := gap_len (y := z) hc2
                    obtain ⟨f1, f2, f3⟩ := ow.cellAt (j := e) (by omega)
                    obtain ⟨f4, f5, -⟩ := ow.cellAt (j := e + 1) (by omega)
                    rw [gap_at (by omega)] at f1
                    have ow' := ow.stored (e + 1) (L[e]?.getD 0)
                    rw [gap_move (by omega)] at ow'
                    have bw' := bw.setCell (p := ⟨g, e + 1, none⟩) f3 (.int .i64 (L[e]?.getD 0))
                    generalize L[e]?.getD 0 = u at *
                    generalize (gap L (e + 1) z)[e + 1]?.getD 0 = u' at *
                    clear ow
                    go_wp2
                    go_roundw
                    case rel => exact ⟨e, u, by omega, by omega, by go_num, ow', bw'⟩
                    case measure => simp [intOf]
                  · have hcp' : c = p := by omega
                    subst hcp'
                    have hgl := gap_len (y := z) hc2
                    obtain ⟨f1, f2, f3⟩ := ow.cellAt (j := c) (by omega)
                    have hcx2 : wr.cell? ⟨bx, ox + k, none⟩ = some (.int .i64 x) := (bw.cell (p := ⟨bx, ox + k, none⟩) hbx).trans hcx00
                    have ow' := ow.stored c x
                    rw [gap_set hc2, gap, ← ins_put hc2 hlow.out HE.out, ← hnext.out] at ow'
                    have bw' := bw.setCell (p := ⟨g, c, none⟩) f3 (.int .i64 x)
                    generalize (gap L c z)[c]?.getD 0 = u' at *
                    clear ow
                    go_wp2
                    go_roundw
                    case rel => exact ⟨k + 1, by omega, by go_num, ow', bw'⟩
                    case measure => simp [intOf]; omega
        · go_wp2
          go_quiet (fail)
          go_wp2
          obtain ⟨Q, hQ⟩ : ∃ Q, (wo.drewN q).drewN nq = wo.drewN Q := ⟨_, World.drewN_drewN _ _ _⟩
          rw [hQ]
          clear hQ
          go_quiet (fail)
          obtain ⟨Q', hQ'⟩ : ∃ Q', (wo.drewN Q).drewN nq = wo.drewN Q' := ⟨_, World.drewN_drewN _ _ _⟩
          rw [hQ']
          clear hQ'
          have HE : Hid (p = L.length ∨ x < L[p]?.getD 0) := .inl (by omega)
          obtain ⟨wq, hwq⟩ : ∃ wq : World, wq = wo.drewN Q' := ⟨_, rfl⟩
          have hown0 : Own wq w.heap.size (.slice a L.length cap) L := by rw [hwq]; exact hown.drewN Q'
          have hbelo : Below w.heap.size w wq := by rw [hwq]; exact below_drewN hbel _
          have hcxq : wq.cell? ⟨bx, ox + k, none⟩ = some (.int .i64 x) := by rw [hwq]; exact hcx
          rw [← hwq]
          clear hwq hown hbel hcx hat
          have hszo : w.heap.size ≤ wq.heap.size := hbelo.size
          have hbxq : bx < wq.heap.size := by omega
          go_wp2_with (at_builtin; refine wpList_append_own _ rfl _ _ 22 rfl w.heap.size 3 i0 (.int .i64 0) 1 8 Tryd.underlying22 hi hz0 hz1 hz2 rfl (by decide) _ _ _ rfl (World.ownsRow.alloc hown0 _) ⟨wq.heap.size, 0, none⟩ 1 1 [.int .i64 0] rfl rfl (cell_one_new _ _ _) (by intro u hu; simp at hu; subst hu; rfl) (by unfold maxLen; omega) (by omega) (by simp; omega) ?_)
          intro v' w1 hown' hgrow _
          obtain ⟨o1, o2, -⟩ := own_snoc hown0 hbelo hszo hown' hgrow
          clear hown' hgrow hown0 hcxq
          obtain ⟨g, cap', rfl⟩ := o1.shape (by simp)
          rw [List.length_append, List.length_singleton] at o1 ⊢
          rw [gap_end] at o1
          go_wp2
          go_loopw [6] (fun i wr' => ∃ (c : Nat) (z : Int), p ≤ c ∧ c ≤ L.length ∧ i = .int .i64 c ∧ Own wr' w.heap.size (.slice (some ⟨g, 0, none⟩) (L.length + 1) cap') (gap L c z) ∧ Below w.heap.size w wr') (fun i _ => (intOf i).toNat)
          case atStart => exact ⟨L.length, 0, hp, Nat.le_refl _, by go_num, o1, o2⟩
          case round =>
            obtain ⟨c, z, hc1, hc2, rfl, ow, bw⟩ := hrel
            clear o1 o2
            by_cases hcp : p < c
            · omega
            · have hcp' : c = p := by omega
              subst hcp'
              have hgl := gap_len (y := z) hc2
              obtain ⟨f1, f2, f3⟩ := ow.cellAt (j := c) (by omega)
              have hcx2 : wr.cell? ⟨bx, ox + k, none⟩ = some (.int .i64 x) := (bw.cell (p := ⟨bx, ox + k, none⟩) hbx).trans hcx00
              have ow' := ow.stored c x
              rw [gap_set hc2, gap, ← ins_put hc2 hlow.out HE.out, ← hnext.out] at ow'
              have bw' := bw.setCell (p := ⟨g, c, none⟩) f3 (.int .i64 x)
              generalize (gap L c z)[c]?.getD 0 = u' at *
              clear ow
              go_wp2
              go_roundw
              case rel => exact ⟨k + 1, by omega, by go_num, ow', bw'⟩
              case measure => simp [intOf]; omega
    · rw [List.take_of_length_le (by omega)] at hown
      go_wp2
      go_ret
      exact ⟨_, rfl, hown, hbel⟩

set_option maxHeartbeats 400000 in
theorem sorted_nil (a : Option Addr) (cx : Nat) (w : World) :
    Calls Tryd.prog 72 #[.slice a 0 cx] w fun e w' => e = .returned (.slice none 0 0) ∧ w' = w := by
  go_enter Tryd.func72, Tryd.ntmps72
  go_wp2
  refine wp_loop_rounds 1 ?_
  rw [rounds_succ]
  go_wp2
  go_ret
  exact ⟨rfl, rfl⟩

theorem sorted_any (a : Option Addr) (cx : Nat) (xs : List Int) (w : World) (hs : At w a xs) (hl : xs.length ≤ 17592186044416) :
    Calls Tryd.prog 72 #[.slice a xs.length cx] w fun e w' => Gives w (srt xs) e w' := by
  rcases hs with rfl | ⟨b, off, rfl, hb, hc⟩
  · refine (sorted_nil a cx w).mono ?_
    rintro e w' ⟨rfl, rfl⟩
    exact gives_of_own (B := w'.heap.size) (own_nil _ _) (Below.refl _ _)
  · refine (sorted_some b off cx xs w hl hb hc).mono ?_
    rintro e w' ⟨v, rfl, h1, h2⟩
    exact gives_of_own h1 h2

end Go.Proofs.YtialjbdfkhfcoabDoor
namespace Go.Proofs.YtialjbdfkhfcoabDoor
open Go.RowKit

theorem Own.low {w : World} {B B' : Nat} {v : Value} {xs : List Int} (h : Own w B v xs) (hB : B' ≤ B) : Own w B' v xs := by
  refine ⟨h.1, ?_⟩
  rcases h.2 with hn | ⟨g, cap, cur, e, hg, rest⟩
  · exact .inl hn
  · exact .inr ⟨g, cap, cur, e, Nat.le_trans hB hg, rest⟩
theorem GivesO.gives {w : World} {xs : List Int} {e : Ending} {w' : World} (h : GivesO w xs e w') : Gives w xs e w' := by
  obtain ⟨v, rfl, h1, h2⟩ := h
  exact gives_of_own h1 h2
theorem sorted_own (a : Option Addr) (cx : Nat) (xs : List Int) (w : World) (hs : At w a xs) (hl : xs.length ≤ 17592186044416) :
    Calls Tryd.prog 72 #[.slice a xs.length cx] w fun e w' => GivesO w (srt xs) e w' := by
  rcases hs with rfl | ⟨b, off, rfl, hb, hc⟩
  · refine (sorted_nil a cx w).mono ?_
    rintro e w' ⟨rfl, rfl⟩
    exact ⟨_, rfl, own_nil _ _, Below.refl _ _⟩
  · refine (sorted_some b off cx xs w hl hb hc).mono ?_
    rintro e w' ⟨v, rfl, h1, h2⟩
    exact ⟨v, rfl, h1, h2⟩

end Go.Proofs.YtialjbdfkhfcoabDoor
namespace Go.Proofs.YtialjbdfkhfcoabDoor
open Go.RowKit
set_option linter.unusedVariables false

section
variable {P : Program} (w : World)
theorem wp_append_nil {o : Oper} {a : Act} {K : Act → World → Prop} {Q : Exit → Act → World → Prop} (s x : Operand) (t : TypeId)
    (ho : o.op = .call { callee := .builtin .append, args := #[s, x], argTypes := #[t, t] })
    (base : Nat) (e : TypeId) (i : TypeInfo) (size : Nat) (ht : P.underlying t = some (.slice e)) (hi : P.info? e = some i)
    (v : Value) (n : Nat) (xs : List Value) (hs : a.eval s = v) (hown : w.ownsRow base e size v n xs) (hx : a.eval x = .slice none 0 0)
    (h : K (a.put o.dst v) w) : o.wp P a w K Q := by
  have hr := run_append_owned_none (P := P) w base t o.type e i size ht hi v n xs hown
  unfold Oper.wp execOp
  simp only [ho, resolve, invoke, builtin, Sem.run_bind, Sem.run_pure, Result.andThen_ok, List.map_toArray, List.map_cons, List.map_nil, hs, hx, hr]
  exact h

/-- append(v, y...): v is a row of integers of the call's own, y any slice of integers (nil among them). -/
theorem wpList_append_ints {ops : Array Oper} {rest : List Oper} {o : Oper} {a : Act} {Q : Exit → Act → World → Prop} (hgd : o.guard = none) (s x : Operand) (t : TypeId)
    (ho : o.op = .call { callee := .builtin .append, args := #[s, x], argTypes := #[t, t] })
    (B : Nat) (i : TypeInfo) (ht : P.underlying t = some (.slice 3)) (hi : P.info? 3 = some i) (hz : i.zero = some (.int .i64 0)) (hsize : i.size = 1) (hby : i.bytes = 8)
    (v : Value) (L : List Int) (hs : a.eval s = v) (hown : Own w B v L)
    (ad : Option Addr) (c : Nat) (ys : List Int) (hx : a.eval x = .slice ad ys.length c) (hat : At w ad ys) (hnil : ad = none → c = 0)
    (hroom : (L.length + ys.length) * 8 ≤ 140737488355328) (hbase : B ≤ w.heap.size)
    (h : ∀ v' w', Own w' B v' (L ++ ys) → Below B w w' → B ≤ w'.heap.size → wpList P ops Q rest (a.put o.dst v') w') : wpList P ops Q (o :: rest) a w := by
  cases ad with
  | none =>
    have hy : ys = [] := by
      rcases hat with h | ⟨b, off, h, _⟩
      · exact h
      · cases h
    subst hy
    rw [hnil rfl] at hx
    refine wpList_plain hgd fun _ hK => wp_append_nil w s x t ho B 3 i 1 ht hi v _ _ hs hown hx (hK _ _ (h v w ?_ (Below.refl _ _) hbase))
    rw [List.append_nil]; exact hown
  | some ad =>
    refine wpList_append_own w hgd s x t ho B 3 i (.int .i64 0) 1 8 ht hi hz hsize hby rfl (by decide) v _ _ hs hown ad ys.length c (ys.map (Value.int .i64)) hx (by simp) ?_ ?_ (by unfold maxLen; omega) hroom hbase ?_
    · intro j u hu
      rw [List.getElem?_map] at hu
      rcases hat with h0 | ⟨b, off, h0, _, hc⟩
      · subst h0; simp at hu
      · cases h0
        cases hj : ys[j]? with
        | none => rw [hj] at hu; simp at hu
        | some y =>
          rw [hj] at hu
          simp only [Option.map_some, Option.some.injEq] at hu
          subst hu
          have := hc j (List.getElem?_eq_some_iff.1 hj).1
          rw [List.getD_eq_getElem?_getD, hj, Option.getD_some] at this
          rw [show (⟨b, off, none⟩ : Addr).add j = ⟨b, off + j, none⟩ from by simp [Addr.add]]
          exact this
    · intro u hu
      obtain ⟨y, _, rfl⟩ := List.mem_map.1 hu
      rfl
    · intro v' w' ho' hg _
      refine h v' w' ?_ ((Below.refl _ _).grown hg hbase (fun j hj => (hown.lt j hj).1)) (Nat.le_trans hbase hg.size)
      unfold Own
      rw [List.length_append, List.map_append]
      exact ho'
end

theorem own_empty (w : World) : Own (w.alloc (.cells #[] 3)) w.heap.size (.slice (some ⟨w.heap.size, 0, none⟩) 0 0) [] :=
  World.ownsRow_lit w #[] 0 (Nat.le_refl _) (Nat.zero_le _) rfl

end Go.Proofs.YtialjbdfkhfcoabDoor
namespace Go.Proofs.YtialjbdfkhfcoabDoor
open Go.RowKit

set_option maxHeartbeats 400000 in
theorem refHas_some (b off cap : Nat) (xs : List Int) (n : Int) (w : World) (hl : xs.length ≤ 9223372036854775807) (hc : Cells w b off xs) :
    Calls Tryd.prog 69 #[.slice (some ⟨b, off, none⟩) xs.length cap, .int .i64 n] w fun e w' => e = .returned (.bool (hasB xs n)) ∧ w' = w := by
  go_enter Tryd.func69, Tryd.ntmps69
  go_wp2
  go_loop [5] (fun i => ∃ k : Nat, k ≤ xs.length ∧ i = .int .i64 k ∧ Hid (hasB xs n = hasB (xs.drop k) n)) (fun i => xs.length - (intOf i).toNat)
  case atStart => exact ⟨0, Nat.zero_le _, rfl, rfl⟩
  case round =>
    obtain ⟨k, hk, rfl, he⟩ := hrel
    by_cases hlt : k < xs.length
    · obtain ⟨x, HX, hcell⟩ := hc.at hlt
      go_wp2
      · go_ret
        exact ⟨ret_bool (has_hit hlt he HX (by assumption)), rfl⟩
      · go_round
        case rel => exact ⟨k + 1, by omega, by go_num, has_miss hlt he HX (by assumption)⟩
        case measure => simp [intOf]; omega
    · go_wp2
      go_ret
      exact ⟨ret_bool (has_end hlt he), rfl⟩

set_option maxHeartbeats 400000 in
theorem refHas_nil (a : Option Addr) (cap : Nat) (n : Int) (w : World) :
    Calls Tryd.prog 69 #[.slice a 0 cap, .int .i64 n] w fun e w' => e = .returned (.bool false) ∧ w' = w := by
  go_enter Tryd.func69, Tryd.ntmps69
  go_wp2
  refine wp_loop_rounds 1 ?_
  rw [rounds_succ]
  go_wp2
  go_ret
  exact ⟨rfl, rfl⟩

theorem refHas_any (a : Option Addr) (cap : Nat) (xs : List Int) (n : Int) (w : World) (hs : At w a xs) (hl : xs.length ≤ maxLen) :
    Calls Tryd.prog 69 #[.slice a xs.length cap, .int .i64 n] w fun e w' => e = .returned (.bool (hasB xs n)) ∧ w' = w := by
  rcases hs with rfl | ⟨b, off, rfl, -, hc⟩
  · exact refHas_nil a cap n w
  · exact refHas_some b off cap xs n w hl hc

end Go.Proofs.YtialjbdfkhfcoabDoor
