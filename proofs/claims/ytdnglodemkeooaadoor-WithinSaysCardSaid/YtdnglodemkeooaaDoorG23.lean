/-
  What is said of a slice of slices of integers: that it reads as a list of lists ('At2'), that it is in the call's own memory ('Own2'); one row more.
  append onto a row of the call's own: the row stays in its block, or it is in a new one.
  The walk of machine.Accepts.
  A row of integers as the kit's words for sorting and reversing put it.
  jalousieref1.Sorted hands back a slice of its own.
-/
import Derived.Test.YtdnglodemkeooaaDoorG04
import Derived.Test.YtdnglodemkeooaaDoorG03
import Derived.Deep.RegionLaw
import Derived.Test.YtdnglodemkeooaaDoorCAfterOk
import Derived.Test.YtdnglodemkeooaaDoorG11
import Derived.Shelf.Slices.Reverse
import Derived.Test.YtdnglodemkeooaaDoorCSorted
namespace Go.Proofs.YtdnglodemkeooaaDoor
open Go.RowKit
set_option linter.unusedVariables false

theorem Tryd.infoInts : (Tryd.prog.info? 22).map (fun i => (i.zero, i.size, i.bytes)) = some (some (.slice none 0 0), 1, 24) := by kernel_rfl

/-- A slice of slices reads as a list of lists. -/
def At2 (w : World) (a : Option Addr) (LL : List (List Int)) : Prop :=
  LL = [] ∨ ∃ b off, a = some ⟨b, off, none⟩ ∧ b < w.heap.size ∧ ∀ (k : Nat) (xs : List Int), LL[k]? = some xs → ∃ a' c', w.cell? ⟨b, off + k, none⟩ = some (.slice a' xs.length c') ∧ At w a' xs ∧ xs.length ≤ maxLen
/-- An inner slice: it lies in a block of integers. -/
def InnB (w : World) (v : Value) (xs : List Int) : Prop := ∃ a c, v = .slice a xs.length c ∧ xs.length ≤ c ∧ c ≤ maxLen ∧ (xs = [] ∨ ∃ (g o : Nat) (cs : Array Value), a = some ⟨g, o, none⟩ ∧ w.heap[g]? = some (Obj.cells cs 3 (0, 0)) ∧ ∀ j, j < xs.length → cs[o + j]? = some (.int .i64 (xs.getD j 0)))
theorem InnB.kept {w w' : World} {v : Value} {xs : List Int} (h : InnB w v xs) (hk : ∀ (g : Nat) (cs : Array Value), w.heap[g]? = some (Obj.cells cs 3 (0, 0)) → w'.heap[g]? = w.heap[g]?) : InnB w' v xs := by
  obtain ⟨a, c, h1, h2, h3, h4⟩ := h
  refine ⟨a, c, h1, h2, h3, ?_⟩
  rcases h4 with h4 | ⟨k, o, cs, e, hh, hc⟩
  · exact .inl h4
  · exact .inr ⟨k, o, cs, e, (hk k cs hh).trans hh, hc⟩
theorem InnB.below {w w' : World} {v : Value} {xs : List Int} (h : InnB w v xs) (hb : Below w.heap.size w w') : InnB w' v xs :=
  h.kept fun g cs hg => hb.block g (Array.getElem?_eq_some_iff.1 hg).1
theorem InnB.at {w : World} {v : Value} {xs : List Int} (h : InnB w v xs) : ∃ a c, v = .slice a xs.length c ∧ At w a xs ∧ xs.length ≤ maxLen := by
  obtain ⟨a, c, h1, h2, h3, h4⟩ := h
  refine ⟨a, c, h1, ?_, Nat.le_trans h2 h3⟩
  rcases h4 with h4 | ⟨k, o, cs, e, hh, hc⟩
  · exact .inl h4
  · refine .inr ⟨k, o, e, (Array.getElem?_eq_some_iff.1 hh).1, fun j hj => ?_⟩
    simp [World.cell?, hh, hc j hj]

/-- The slice of slices v is in memory made from block B on, and holds LL. -/
def Own2 (w : World) (B : Nat) (v : Value) (LL : List (List Int)) : Prop := ∃ vs : List Value, w.ownsRow B 22 1 v LL.length vs ∧ ∀ (j : Nat) (x : Value) (xs : List Int), vs[j]? = some x → LL[j]? = some xs → InnB w x xs
theorem own2_nil (w : World) (B : Nat) : Own2 w B (.slice none 0 0) [] := ⟨[], World.ownsRow_nil _ _ _ _, fun j x xs h => by simp at h⟩
theorem Own2.at {w : World} {B : Nat} {v : Value} {LL : List (List Int)} (h : Own2 w B v LL) : ∃ a cap, v = .slice a LL.length cap ∧ At2 w a LL ∧ LL.length ≤ cap ∧ cap ≤ maxLen ∧ (a = none → cap = 0) := by
  obtain ⟨vs, ho, hi⟩ := h
  rcases ho.2 with ⟨rfl, hn⟩ | ⟨g, cap, cur, rfl, hg, hh, hnc, hcm, hcs, ht⟩
  · have : LL = [] := List.eq_nil_of_length_eq_zero hn
    subst this
    exact ⟨none, 0, rfl, .inl rfl, Nat.le_refl _, Nat.zero_le _, fun _ => rfl⟩
  · refine ⟨some ⟨g, 0, none⟩, cap, rfl, .inr ⟨g, 0, rfl, (Array.getElem?_eq_some_iff.1 hh).1, fun k xs hk => ?_⟩, hnc, hcm, fun h => by cases h⟩
    have hlt : k < vs.length := by rw [ho.1, Nat.mul_one]; exact (List.getElem?_eq_some_iff.1 hk).1
    have hx := List.getElem?_eq_getElem hlt
    obtain ⟨a, c, e, h1, h2⟩ := (hi k _ xs hx hk).at
    have hc := ho.cells (g := g) rfl k _ hx
    rw [show (⟨g, 0, none⟩ : Addr).add k = ⟨g, 0 + k, none⟩ from by unfold Addr.add; split <;> simp_all, e] at hc
    exact ⟨a, c, hc, h1, h2⟩
/-- A block that is not of slices is none of its own. -/
theorem Own2.apart {w : World} {B : Nat} {v : Value} {LL : List (List Int)} (h : Own2 w B v LL) {g : Nat} {t : TypeId} {cs : Array Value} (hg : w.heap[g]? = some (.cells cs t (0, 0))) (ht : t ≠ 22) : some g ≠ v.ownBlock := by
  intro e
  obtain ⟨vs, ho, -⟩ := h
  rcases ho.2 with ⟨rfl, hn⟩ | ⟨g', cap, cur, rfl, hg', hh, rest⟩
  · cases e
  · have : g = g' := Option.some.inj e
    subst this
    rw [hg] at hh
    cases hh
    exact ht rfl

/-- One row more: behind an append onto the call's own row. -/
theorem Own2.snoc {w w' : World} {B : Nat} {v v' x : Value} {LL : List (List Int)} {xs : List Int} {vs : List Value} (hown : w.ownsRow B 22 1 v LL.length vs) (hi : ∀ (j : Nat) (x : Value) (xs : List Int), vs[j]? = some x → LL[j]? = some xs → InnB w x xs) (hx : InnB w x xs)
    (hown' : w'.ownsRow B 22 1 v' (LL.length + 1) (vs ++ [x])) (hg : w.grownBy w' v.ownBlock) : Own2 w' B v' (LL ++ [xs]) := by
  have hl : vs.length = LL.length := by have := hown.1; omega
  have h2 : Own2 w B v LL := ⟨vs, hown, hi⟩
  have hk : ∀ (g : Nat) (cs : Array Value), w.heap[g]? = some (Obj.cells cs 3 (0, 0)) → w'.heap[g]? = w.heap[g]? := fun g cs hh => hg.block g (Array.getElem?_eq_some_iff.1 hh).1 (h2.apart hh (by decide))
  refine ⟨vs ++ [x], by rw [List.length_append]; exact hown', fun j y ys h1 h2 => ?_⟩
  by_cases hj : j < LL.length
  · rw [List.getElem?_append_left (by omega)] at h1
    rw [List.getElem?_append_left hj] at h2
    exact (hi j y ys h1 h2).kept hk
  · have hj2 : j < (LL ++ [xs]).length := (List.getElem?_eq_some_iff.1 h2).1
    have : j = LL.length := by simp at hj2; omega
    subst this
    rw [List.getElem?_append_right (by omega)] at h1 h2
    rw [hl] at h1
    simp at h1 h2
    subst h1; subst h2
    exact hx.kept hk
theorem innB_new (W : World) (x y : Int) : InnB (W.alloc (.cells #[.int .i64 x, .int .i64 y] 3)) (.slice (some ⟨W.heap.size, 0, none⟩) 2 2) [x, y] := by
  refine ⟨_, 2, rfl, Nat.le_refl _, by decide, .inr ⟨W.heap.size, 0, _, rfl, World.alloc_heap_new W _, fun j hj => ?_⟩⟩
  have : j = 0 ∨ j = 1 := by simp at hj; omega
  rcases this with rfl | rfl <;> rfl

/-- Pairs, as rows of two. -/
def prs (L : List (Int × Int)) : List (List Int) := L.map fun p => [p.1, p.2]
theorem prs_len (L : List (Int × Int)) : (prs L).length = L.length := by simp [prs]
theorem prs_snoc (L : List (Int × Int)) (p : Int × Int) : prs (L ++ [p]) = prs L ++ [[p.1, p.2]] := by simp [prs]
end Go.Proofs.YtdnglodemkeooaaDoor
namespace Go.Proofs.YtdnglodemkeooaaDoor
open Go.RowKit
set_option linter.unusedVariables false

section
variable {P : Program} (w : World)
theorem run_append_block (base : Nat) (t ty e : TypeId) (i : TypeInfo) (z : Value) (size bytes : Nat) (ht : P.underlying t = some (.slice e)) (hi : P.info? e = some i) (hz : i.zero = some z)
    (hsize : i.size = size) (hby : i.bytes = bytes) (hzs : z.cells.size = size) (hsz : 0 < size)
    (v : Value) (n : Nat) (xs : List Value) (hown : w.ownsRow base e size v n xs)
    (a : Addr) (m c : Nat) (news : List Value) (hl : news.length = m * size) (hnews : ∀ j u, news[j]? = some u → w.cell? (a.add j) = some u) (h1 : ∀ u ∈ news, u.oneCell' = true)
    (hm : 0 < m) (h63 : n + m ≤ maxLen) (hbytes : (n + m) * bytes ≤ 140737488355328) (hbase : base ≤ w.heap.size) :
    ∃ v' w', (Builtin.append_ #[t, t] ty #[v, .slice (some a) m c]).run P w = .ok v' w' ∧ w'.ownsRow base e size v' (n + m) (xs ++ news) ∧ w.grownBy w' v.ownBlock ∧ (v'.ownBlock = v.ownBlock ∨ v'.ownBlock = some w.heap.size) := by
  obtain ⟨v', w', hrun, h2, h3, -⟩ := run_append_own (P := P) w base t ty e i z size bytes ht hi hz hsize hby hzs hsz v n xs hown a m c news hl hnews h1 h63 hbytes hbase
  refine ⟨v', w', hrun, h2, h3, ?_⟩
  have h9 : n + m ≤ 9223372036854775807 := by simp only [maxLen] at h63; omega
  subst hsize
  subst hby
  rcases hown.2 with ⟨rfl, rfl⟩ | ⟨g, cap, cur, rfl, hbg, hg, hnc, hcm, hcs, htake⟩
  · have hr := run_append_nil (P := P) w t ty e i z ht hi hz a m c news hl hnews hm (by omega) (by have hb := hbytes; simp only [Nat.zero_add] at hb; omega)
    rw [hrun] at hr
    injection hr with e1 e2
    right; rw [e1]; rfl
  · by_cases hroom : n + m ≤ cap
    · have hr := run_append_room (P := P) w t ty e i ht hi g n cap cur hg a m c news hl hnews h1 hroom (by rw [hl, hcs, ← Nat.add_mul]; exact Nat.mul_le_mul_right _ hroom)
      rw [hrun] at hr
      injection hr with e1 e2
      left; rw [e1]; rfl
    · have hr := run_append_grow (P := P) w t ty e i z ht hi hz ⟨g, 0, none⟩ n cap xs hown.1 (hown.cells (g := g) rfl) a m c news hl hnews (by omega) (by omega) (growslice_fits (by omega) hbytes)
      rw [hrun] at hr
      injection hr with e1 e2
      right; rw [e1]; rfl

theorem wpList_append_block {ops : Array Oper} {rest : List Oper} {o : Oper} {a : Act} {Q : Exit → Act → World → Prop} (hgd : o.guard = none) (s x : Operand) (t : TypeId)
    (ho : o.op = .call { callee := .builtin .append, args := #[s, x], argTypes := #[t, t] })
    (base : Nat) (e : TypeId) (i : TypeInfo) (z : Value) (size bytes : Nat) (ht : P.underlying t = some (.slice e)) (hi : P.info? e = some i) (hz : i.zero = some z)
    (hsize : i.size = size) (hby : i.bytes = bytes) (hzs : z.cells.size = size) (hsz : 0 < size)
    (v : Value) (n : Nat) (xs : List Value) (hs : a.eval s = v) (hown : w.ownsRow base e size v n xs)
    (ad : Addr) (m c : Nat) (news : List Value) (hx : a.eval x = .slice (some ad) m c) (hl : news.length = m * size) (hnews : ∀ j u, news[j]? = some u → w.cell? (ad.add j) = some u) (h1 : ∀ u ∈ news, u.oneCell' = true)
    (hm : 0 < m) (h63 : n + m ≤ maxLen) (hbytes : (n + m) * bytes ≤ 140737488355328) (hbase : base ≤ w.heap.size)
    (h : ∀ v' w', w'.ownsRow base e size v' (n + m) (xs ++ news) → w.grownBy w' v.ownBlock → (v'.ownBlock = v.ownBlock ∨ v'.ownBlock = some w.heap.size) → wpList P ops Q rest (a.put o.dst v') w') : wpList P ops Q (o :: rest) a w := by
  obtain ⟨v', w', hr, h2, h3, h4⟩ := run_append_block (P := P) w base t o.type e i z size bytes ht hi hz hsize hby hzs hsz v n xs hown ad m c news hl hnews h1 hm h63 hbytes hbase
  refine wpList_plain hgd fun _ hK => ?_
  unfold Oper.wp execOp
  simp only [ho, resolve, invoke, builtin, Sem.run_bind, Sem.run_pure, Result.andThen_ok, List.map_toArray, List.map_cons, List.map_nil, hs, hx, hr]
  exact hK _ _ (h v' w' h2 h3 h4)
end

section
variable {P : Program} {ops : Array Oper} {o : Oper} {a : Act} {w : World} {K : Act → World → Prop} {Q : Exit → Act → World → Prop} {E : Prop}
/-- The same, as one step of a region that draws. -/
theorem step_append_block (hg : o.guard = none) (s x : Operand) (t : TypeId) (hop : o.op = Op.call { callee := Callee.builtin Builtin.append, args := #[s, x], argTypes := #[t, t] })
    (base : Nat) (e : TypeId) (i : TypeInfo) (z : Value) (size bytes : Nat) (h1 : P.underlying t = some (.slice e)) (h2 : P.info? e = some i) (h3 : i.zero = some z) (h4 : i.size = size) (h5 : i.bytes = bytes) (h6 : z.cells.size = size) (h7 : 0 < size)
    (v : Value) (n : Nat) (xs : List Value) (hs : a.eval s = v) (hown : w.ownsRow base e size v n xs)
    (ad : Addr) (m c : Nat) (news : List Value) (hx : a.eval x = .slice (some ad) m c) (hn : news.length = m * size) (hc : ∀ j u, news[j]? = some u → w.cell? (ad.add j) = some u) (h1c : ∀ u ∈ news, u.oneCell' = true)
    (hm : 0 < m) (b1 : n + m ≤ maxLen) (b2 : (n + m) * bytes ≤ 140737488355328) (hbase : base ≤ w.heap.size)
    (hK : ∀ v' w', w'.ownsRow base e size v' (n + m) (xs ++ news) → w.grownBy w' v.ownBlock → (v'.ownBlock = v.ownBlock ∨ v'.ownBlock = some w.heap.size) → K (a.put o.dst v') w') :
    if Region.wanted o (yielded ops a.tmps) = true then Oper.wp P o a w K Q else E := by
  have hw : Region.wanted o (yielded ops a.tmps) = true := by simp [Region.wanted, hg]
  rw [if_pos hw]
  obtain ⟨v', w', hrun, r1, r2, r3⟩ := run_append_block (P := P) w base t o.type e i z size bytes h1 h2 h3 h4 h5 h6 h7 v n xs hown ad m c news hn hc h1c hm b1 b2 hbase
  unfold Oper.wp
  simp [execOp, hop, resolve, invoke, builtin, hs, hx, hrun, Result.andThen]
  exact hK v' w' r1 r2 r3
end

end Go.Proofs.YtdnglodemkeooaaDoor
namespace Go.Proofs.YtdnglodemkeooaaDoor
open Go.RowKit
set_option linter.unusedVariables false

set_option maxRecDepth 100000 in
set_option maxHeartbeats 4000000 in
theorem pAccepts_err (m : Mach) (l : ML) (wa : Option Addr) (wc : Nat) (word : List Int) (c : Int) (w : World) (hc : (c == 0) = false)
    (H : Hid (∀ W, Below w.heap.size w W → Calls Tryd.prog 49 #[mval m l, .slice l.a1 m.starts.length l.c1, .slice wa word.length wc] W fun e w' => e = .returned (.tuple #[sval zeroS, .int .i64 c]) ∧ Below W.heap.size W w')) :
    Calls Tryd.prog 17 #[mval m l, .slice wa word.length wc] w fun e w' => e = .returned (.tuple #[.bool false, .int .i64 c]) ∧ Below w.heap.size w w' := by
  have B0 : Hid (Below w.heap.size w (w.alloc (.cells (mcells m l) 25))) := (Below.refl _ _).alloc (Nat.le_refl _) _
  have hc' : (c != 0) = true := by simp only [bne, hc]; rfl
  have hc2 : ¬ c = 0 := by simpa using hc
  go_enter Tryd.func17, Tryd.ntmps17
  go_wp2_with fail
  refine (H.out _ B0.out).mono ?_
  rintro e w1 ⟨rfl, hb1⟩
  have HB := Hid.of (B0.out.trans (hb1.mono B0.out.size))
  clear hb1
  go_wp2
  refine bodyPost_ret (results_tmp2 rfl _ _ _) rfl ?_
  exact ⟨rfl, HB.out.alloc HB.out.size _⟩

set_option maxRecDepth 100000 in
set_option maxHeartbeats 4000000 in
theorem pAccepts_ok (m : Mach) (l : ML) (wa : Option Addr) (wc : Nat) (word : List Int) (w : World) (h : MAt w m l) (hT : Hid (Tab w)) (hm : Hid (mayB m = true)) (hv : Hid (At w wa word)) (hwl : Hid (word.length ≤ maxLen)) (hwd : Hid (wordB m.ev word = true)) :
    Calls Tryd.prog 17 #[mval m l, .slice wa word.length wc] w fun e w' => e = .returned (.tuple #[.bool (acceptsB m word), .int .i64 0]) ∧ Below w.heap.size w w' := by
  have b0 : Below w.heap.size w (w.alloc (.cells (mcells m l) 25)) := (Below.refl _ _).alloc (Nat.le_refl _) _
  have h' := h.below b0 (Nat.le_refl _)
  have l1 : m.starts.length ≤ maxLen := Nat.le_trans h.s1 h.s2
  have l3 : Hid (m.ends.length ≤ maxLen) := Nat.le_trans h.e1 h.e2
  have hcall := Hid.of (after_ok m l l.a1 wa l.c1 wc m.starts word _ h' (Hid.of (hT.out.below b0 hT.out.lt)) hm (Hid.of h'.s) (Hid.of l1) (Hid.of (mayB_starts hm.out)) (Hid.of (hv.out.below b0 (Nat.le_refl _))) hwl hwd)
  have B0 := Hid.of b0
  have HM := Hid.of h
  have K1 := Hid.of (Blk.new w 25 (mcells m l))
  clear b0 h h' l1
  go_enter Tryd.func17, Tryd.ntmps17
  go_wp2_with fail
  refine hcall.out.mono ?_
  rintro e w1 ⟨S, hS, rfl, hb1⟩
  have HB := Hid.of (B0.out.trans (hb1.mono B0.out.size))
  have HS := Hid.of hS
  have k2 := (K1.out.below hb1 K1.out.lt).alloc (.cells (scells S) 62)
  have k3 := Blk.new w1 62 (scells S)
  have KM := Hid.of k2
  have KS := Hid.of k3
  have HB2 : Hid (Below w.heap.size w (w1.alloc (.cells (scells S) 62))) := HB.out.alloc HB.out.size _
  clear hb1 hS hcall k2 k3
  go_wp2_with fail
  revert KM KS HB2
  generalize w1.alloc (.cells (scells S) 62) = V
  intro KM KS HB2
  obtain ⟨c0, c1, c2, c3⟩ := SB.cells KS.out
  have e4 : V.cell? ⟨w.heap.size, 4, none⟩ = some (.slice l.a3 m.ends.length l.c3) := KM.out.cell 4 rfl
  have hle := Hid.of (HM.out.below HB2.out.drew (Nat.le_refl _)).e
  have hbd : Hid (∀ x ∈ m.ends, 0 ≤ x ∧ x < 256) := fun x hx => by
    have h1 := ((goIs_iff _ _ _).1 (mayB_ends hm.out)).2 x hx
    have h2 := mayB_size hm.out
    unfold sizeOk at h2
    omega
  have hE : Hid (Rep (ofS m.ends) m.ends) := by
    have := rep_of hbd.out m.ends.length
    rwa [List.take_of_length_le (Nat.le_refl _)] at this
  go_region_held3 (fun w' => w'.cell? ⟨w1.heap.size, 0, none⟩ = some (.int .u64 (S 0)) ∧ w'.cell? ⟨w1.heap.size, 1, none⟩ = some (.int .u64 (S 1)) ∧ w'.cell? ⟨w1.heap.size, 2, none⟩ = some (.int .u64 (S 2)) ∧ w'.cell? ⟨w1.heap.size, 3, none⟩ = some (.int .u64 (S 3)) ∧ w'.cell? ⟨w.heap.size, 4, none⟩ = some (.slice l.a3 m.ends.length l.c3)) (go_keep) (first | (go_at_call 52; refine (of_any l.a3 l.c3 m.ends _ hle.out l3.out hbd.out).mono ?_; rintro e wO ⟨rfl, hbO⟩; have HBO := Hid.of (HB2.out.drew.trans (hbO.mono HB2.out.size)); have KSO := Hid.of (Blk.below (Blk.drew KS.out) hbO KS.out.lt); have KMO := Hid.of (Blk.below (Blk.drew KM.out) hbO KM.out.lt); obtain ⟨d0, d1, d2, d3⟩ := SB.cells KSO.out; have d4 : wO.cell? ⟨w.heap.size, 4, none⟩ = some (.slice l.a3 m.ends.length l.c3) := KMO.out.cell 4 rfl; clear hbO) | (go_at_call 51; refine (meets_any S (ofS m.ends) _ HS.out.ok hE.out.ok).mono ?_; rintro e wM ⟨rfl, hbM⟩; have HBM := Hid.of (HBO.out.trans (hbM.mono HBO.out.size)); obtain ⟨g0, g1, g2, g3⟩ := SB.cells (Blk.below KSO.out hbM KSO.out.lt); have g4 : wM.cell? ⟨w.heap.size, 4, none⟩ = some (.slice l.a3 m.ends.length l.c3) := (Blk.below KMO.out hbM KMO.out.lt).cell 4 rfl; clear hbM))
  have HF : Hid (meetB S (ofS m.ends) = acceptsB m word) := meet_iff HS.out hE.out
  go_wp2
  refine bodyPost_ret (results_tmp2 rfl _ _ _) rfl ?_
  exact ⟨by rw [← HF.out]; rfl, HBM.out⟩

end Go.Proofs.YtdnglodemkeooaaDoor
namespace Go.Proofs.YtdnglodemkeooaaDoor
open Go.RowKit Go.Shelf Go.Lib Go.Sort
set_option linter.unusedVariables false

theorem putRowI_heap (w : World) (blk off : Nat) (F : Array Int) (j : Nat) : (putRow (Value.int .i64) w blk off F).heap[j]? = if blk = j then (w.heap[j]?).map (fun o => match o with | .cells c e fr => .cells (putCells (Value.int .i64) off F c) e fr | o => o) else w.heap[j]? := by
  unfold putRow mapBlock
  simp only [Array.getElem?_modify]
  by_cases h : blk = j
  · simp only [h, if_true]
    cases w.heap[j]? with
    | none => rfl
    | some o => cases o <;> rfl
  · simp [h]
theorem putI_take (cur : Array Value) (S : List Int) (hl : S.length ≤ cur.size) : (putCells (Value.int .i64) 0 S.toArray cur).toList.take S.length = S.map (Value.int .i64) := by
  apply List.ext_getElem?
  intro t
  by_cases ht : t < S.length
  · rw [List.getElem?_take_of_lt ht, Array.getElem?_toList]
    simp only [putCells, Array.getElem?_mapIdx]
    have hlt : t < cur.size := by omega
    rw [Array.getElem?_eq_getElem hlt, Option.map_some, if_pos ⟨Nat.zero_le _, by simpa using ht⟩]
    simp [ht]
  · rw [List.getElem?_eq_none (by simp; omega), List.getElem?_eq_none (by simp; omega)]

end Go.Proofs.YtdnglodemkeooaaDoor
namespace Go.Proofs.YtdnglodemkeooaaDoor
open Go.RowKit

theorem Own.low {w : World} {B B' : Nat} {v : Value} {xs : List Int} (h : Own w B v xs) (hB : B' ≤ B) : Own w B' v xs := by
  refine ⟨h.1, ?_⟩
  rcases h.2 with hn | ⟨g, cap, cur, e, hg, rest⟩
  · exact .inl hn
  · exact .inr ⟨g, cap, cur, e, Nat.le_trans hB hg, rest⟩
end Go.Proofs.YtdnglodemkeooaaDoor
