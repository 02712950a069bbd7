/-
  What is said of slices of integers that lie below some block, or in a block of integers; rows of them.
  The walk of jalousieref1.Only: the numbers of a list that are (or are not) in another one.
  The walks of jalousieref6.Find and jalousieref6.Is.
  What the walk of jalousieref6.Make knows of the memory.
  The walk of jalousieref2.Step.
-/
import Derived.Test.YtbdkaobbfmgnhaaDoorH05
import Derived.Test.YtbdkaobbfmgnhaaDoorH04
import Derived.Test.YtbdkaobbfmgnhaaDoorH09
import Derived.Test.YtbdkaobbfmgnhaaDoorH14
import Derived.Test.YtbdkaobbfmgnhaaDoorDRefMay
import Derived.Test.YtbdkaobbfmgnhaaDoorH18
import Derived.Test.YtbdkaobbfmgnhaaDoorH16
import Derived.Test.YtbdkaobbfmgnhaaDoorH03
import Derived.Test.YtbdkaobbfmgnhaaDoorH13
import Derived.Deep.RegionWith
import Derived.BigQuiet
namespace Go.Proofs.YtbdkaobbfmgnhaaDoor
open Go.RowKit
set_option linter.unusedVariables false

/-- An inner slice: it lies below block n, or in a block of integers. -/
def InnN (n : Nat) (W : World) (x : Value) (xs : List Int) : Prop := ∃ a c, x = .slice a xs.length c ∧ xs.length ≤ maxLen ∧ (xs = [] ∨ ∃ g o, a = some ⟨g, o, none⟩ ∧ g < W.heap.size ∧ Cells W g o xs ∧ (g < n ∨ ∃ cs, W.heap[g]? = some (.cells cs 3 (0, 0))))
theorem cells_block {W W' : World} {g o : Nat} {xs : List Int} (h : Cells W g o xs) (hb : W'.heap[g]? = W.heap[g]?) : Cells W' g o xs := fun j hj => by
  rw [World.cell?_of_block (w := W) hb]; exact h j hj
theorem InnN.kept {n : Nat} {W W' : World} {x : Value} {xs : List Int} (h : InnN n W x xs) (hz : W.heap.size ≤ W'.heap.size) (h1 : ∀ j, j < n → W'.heap[j]? = W.heap[j]?) (h2 : ∀ (g : Nat) (cs : Array Value), W.heap[g]? = some (.cells cs 3 (0, 0)) → W'.heap[g]? = W.heap[g]?) : InnN n W' x xs := by
  obtain ⟨a, c, e, l, h⟩ := h
  refine ⟨a, c, e, l, ?_⟩
  rcases h with h | ⟨g, o, e', hlt, hc, h⟩
  · exact .inl h
  · have hb : W'.heap[g]? = W.heap[g]? := by
      rcases h with h | ⟨cs, h⟩
      · exact h1 g h
      · exact h2 g cs h
    refine .inr ⟨g, o, e', Nat.lt_of_lt_of_le hlt hz, cells_block hc hb, ?_⟩
    rcases h with h | ⟨cs, h⟩
    · exact .inl h
    · exact .inr ⟨cs, hb.trans h⟩
theorem InnN.of_own {n : Nat} {W : World} {B : Nat} {v : Value} {xs : List Int} (h : Own W B v xs) : InnN n W v xs := by
  rcases h.2 with ⟨rfl, hn⟩ | ⟨g, cap, cur, rfl, hg, hh, hnc, hcm, hcs, ht⟩
  · have : xs = [] := List.eq_nil_of_length_eq_zero hn
    subst this
    exact ⟨none, 0, rfl, Nat.zero_le _, .inl rfl⟩
  · refine ⟨_, cap, rfl, Nat.le_trans hnc hcm, .inr ⟨g, 0, rfl, (Array.getElem?_eq_some_iff.1 hh).1, fun j hj => ?_, .inr ⟨cur, hh⟩⟩⟩
    have := h.cells (g := g) rfl j (.int .i64 (xs.getD j 0)) (by rw [List.getElem?_map, List.getElem?_eq_getElem hj]; simp [List.getElem?_eq_getElem hj])
    rwa [addr0_add] at this
theorem InnN.of_at {w W : World} {a : Option Addr} {c : Nat} {xs : List Int} (h : At w a xs) (hl : xs.length ≤ maxLen) (hb : Below w.heap.size w W) : InnN w.heap.size W (.slice a xs.length c) xs := by
  refine ⟨a, c, rfl, hl, ?_⟩
  rcases h with h | ⟨b, off, e, hlt, hc⟩
  · exact .inl h
  · exact .inr ⟨b, off, e, Nat.lt_of_lt_of_le hlt hb.size, cells_block hc (hb.block b hlt), .inl hlt⟩
theorem InnN.at {n : Nat} {W : World} {x : Value} {xs : List Int} (h : InnN n W x xs) : ∃ a c, x = .slice a xs.length c ∧ At W a xs ∧ xs.length ≤ maxLen := by
  obtain ⟨a, c, e, l, h⟩ := h
  refine ⟨a, c, e, ?_, l⟩
  rcases h with h | ⟨g, o, e', hlt, hc, h⟩
  · exact .inl h
  · exact .inr ⟨g, o, e', hlt, hc⟩
/-- A row of such slices. -/
def OwnN (n : Nat) (W : World) (B : Nat) (v : Value) (LL : List (List Int)) : Prop := ∃ vs : List Value, W.ownsRow B 22 1 v LL.length vs ∧ ∀ (j : Nat) (x : Value) (xs : List Int), vs[j]? = some x → LL[j]? = some xs → InnN n W x xs
theorem OwnN.get {n : Nat} {W : World} {B : Nat} {v : Value} {LL : List (List Int)} (h : OwnN n W B v LL) {k : Nat} {xs : List Int} (hk : LL[k]? = some xs) : ∃ g cap x, v = .slice (some ⟨g, 0, none⟩) LL.length cap ∧ B ≤ g ∧ g < W.heap.size ∧ W.cell? ⟨g, k, none⟩ = some x ∧ InnN n W x xs := by
  obtain ⟨vs, ho, hi⟩ := h
  rcases ho.2 with ⟨rfl, hn⟩ | ⟨g, cap, cur, rfl, hg, hh, hnc, hcm, hcs, ht⟩
  · have := (List.getElem?_eq_some_iff.1 hk).1; omega
  · have hlt : k < vs.length := by rw [ho.1, Nat.mul_one]; exact (List.getElem?_eq_some_iff.1 hk).1
    have hx := List.getElem?_eq_getElem hlt
    have hc := ho.cells (g := g) rfl k _ hx
    rw [addr0_add, Nat.zero_add] at hc
    exact ⟨g, cap, _, rfl, hg, (Array.getElem?_eq_some_iff.1 hh).1, hc, hi k _ xs hx hk⟩
theorem OwnN.at2 {n : Nat} {W : World} {B : Nat} {v : Value} {LL : List (List Int)} (h : OwnN n W B v LL) : ∃ a cap, v = .slice a LL.length cap ∧ At2 W a LL := by
  obtain ⟨vs, ho, hi⟩ := h
  rcases ho.2 with ⟨rfl, hn⟩ | ⟨g, cap, cur, rfl, hg, hh, hnc, hcm, hcs, ht⟩
  · have : LL = [] := List.eq_nil_of_length_eq_zero hn
    subst this
    exact ⟨none, 0, rfl, .inl rfl⟩
  · refine ⟨some ⟨g, 0, none⟩, cap, rfl, .inr ⟨g, 0, rfl, (Array.getElem?_eq_some_iff.1 hh).1, fun k xs hk => ?_⟩⟩
    have hlt : k < vs.length := by rw [ho.1, Nat.mul_one]; exact (List.getElem?_eq_some_iff.1 hk).1
    have hx := List.getElem?_eq_getElem hlt
    obtain ⟨a, c, e, h1, h2⟩ := (hi k _ xs hx hk).at
    have hc := ho.cells (g := g) rfl k _ hx
    rw [addr0_add, e] at hc
    exact ⟨a, c, hc, h1, h2⟩
theorem OwnN.kept {n : Nat} {W W' : World} {B : Nat} {v : Value} {LL : List (List Int)} (h : OwnN n W B v LL) (hz : W.heap.size ≤ W'.heap.size) (h0 : ∀ k, v.ownBlock = some k → W'.heap[k]? = W.heap[k]?) (h1 : ∀ j, j < n → W'.heap[j]? = W.heap[j]?) (h2 : ∀ (g : Nat) (cs : Array Value), W.heap[g]? = some (.cells cs 3 (0, 0)) → W'.heap[g]? = W.heap[g]?) : OwnN n W' B v LL := by
  obtain ⟨vs, ho, hi⟩ := h
  exact ⟨vs, own_same ho h0, fun j x xs a b => (hi j x xs a b).kept hz h1 h2⟩
theorem OwnN.below {n : Nat} {W W' : World} {B : Nat} {v : Value} {LL : List (List Int)} (h : OwnN n W B v LL) (hb : Below W.heap.size W W') (hn : n ≤ W.heap.size) : OwnN n W' B v LL :=
  h.kept hb.size (fun k hk => by obtain ⟨vs, ho, -⟩ := h; exact hb.block k (World.ownsRow.lt ho k hk).2) (fun j hj => hb.block j (by omega)) (fun g cs hg => hb.block g (Array.getElem?_eq_some_iff.1 hg).1)

end Go.Proofs.YtbdkaobbfmgnhaaDoor
namespace Go.Proofs.YtbdkaobbfmgnhaaDoor
open Go.RowKit
set_option linter.unusedVariables false

/-- Of the first k numbers those that are (b = true) or are not in ys. -/
def onlyTo (xs ys : List Int) (b : Bool) (k : Nat) : List Int := (xs.take k).filter (fun n => hasB ys n == b)

theorem onlyTo_len (xs ys : List Int) (b : Bool) (k : Nat) : (onlyTo xs ys b k).length ≤ k := Nat.le_trans (List.length_filter_le _ _) (List.length_take_le _ _)
theorem onlyTo_all {xs : List Int} (ys : List Int) (b : Bool) {k : Nat} (h : ¬ k < xs.length) : onlyTo xs ys b k = xs.filter (fun n => hasB ys n == b) := by
  rw [onlyTo, List.take_of_length_le (by omega)]
theorem onlyTo_hit {xs ys : List Int} {b : Bool} {k : Nat} {x : Int} (h : k < xs.length) (hx : Hid (x = xs[k]?.getD 0)) (hb : hasB ys x = b) : onlyTo xs ys b (k + 1) = onlyTo xs ys b k ++ [x] := by
  have hx := hx.out
  rw [List.getElem?_eq_getElem h] at hx
  simp only [Option.getD_some] at hx
  rw [onlyTo, onlyTo, List.take_add_one, List.getElem?_eq_getElem h, List.filter_append]
  simp [← hx, hb]
theorem onlyTo_miss {xs ys : List Int} {b : Bool} {k : Nat} {x : Int} (h : k < xs.length) (hx : Hid (x = xs[k]?.getD 0)) (hb : ¬ hasB ys x = b) : onlyTo xs ys b (k + 1) = onlyTo xs ys b k := by
  have hx := hx.out
  rw [List.getElem?_eq_getElem h] at hx
  simp only [Option.getD_some] at hx
  rw [onlyTo, onlyTo, List.take_add_one, List.getElem?_eq_getElem h, List.filter_append]
  simp [← hx, hb]

set_option maxHeartbeats 1600000 in
set_option maxRecDepth 100000 in
theorem only_some (bx ox cx cy : Nat) (ay : Option Addr) (xs ys : List Int) (bb : Bool) (w : World) (hl : xs.length ≤ 17592186044416) (hbx : bx < w.heap.size) (hc : Cells w bx ox xs) (ht : At w ay ys) (hm : ys.length ≤ maxLen) :
    Calls Tryd.prog 54 #[.slice (some ⟨bx, ox, none⟩) xs.length cx, .slice ay ys.length cy, .bool bb] w fun e w' => ∃ v, e = .returned v ∧ Own w' w.heap.size v (xs.filter (fun n => hasB ys n == bb)) ∧ Below w.heap.size w w' := by
  obtain ⟨i0, hi, hz0, hz1, hz2⟩ := info_parts Tryd.infoInt
  go_enter Tryd.func54, Tryd.ntmps54
  go_wp2
  go_loopw [7, 8] (fun v i wr => ∃ k : Nat, k ≤ xs.length ∧ i = .int .i64 k ∧ Own wr w.heap.size v (onlyTo xs ys bb k) ∧ Below w.heap.size w wr) (fun _ i _ => xs.length - (intOf i).toNat)
  case atStart => exact ⟨0, Nat.zero_le _, rfl, own_nil _ _, Below.refl _ _⟩
  case round =>
    obtain ⟨k, hk, rfl, hown, hbel⟩ := hrel
    by_cases hlt : k < xs.length
    · obtain ⟨x, HX, hcx0⟩ := hc.at hlt
      have hcx : wr.cell? ⟨bx, ox + k, none⟩ = some (.int .i64 x) := (hbel.cell (p := ⟨bx, ox + k, none⟩) hbx).trans hcx0
      clear hcx0
      have htr : At wr ay ys := ht.below hbel (Nat.le_refl _)
      have hsz := hbel.size
      have hll := onlyTo_len xs ys bb k
      go_wp2_with fail
      refine (refHas_any ay cy ys x _ htr hm).mono ?_
      rintro e w' ⟨rfl, rfl⟩
      by_cases hh : hasB ys x = bb
      · have HH : Hid (hasB ys x = bb) := hh
        have d : (hasB ys x == bb) = true := by simp [hh]
        clear hh
        go_wp2_with (at_builtin; refine wpList_append_own _ rfl _ _ 22 rfl w.heap.size 3 i0 (.int .i64 0) 1 8 Tryd.underlying22 hi hz0 hz1 hz2 rfl (by decide) _ _ _ rfl (World.ownsRow.alloc hown _) ⟨w'.heap.size, 0, none⟩ 1 1 [.int .i64 x] rfl rfl (cell_one_new _ _ _) (by intro u hu; simp at hu; subst hu; rfl) (by unfold maxLen; omega) (by omega) (by simp; omega) ?_)
        intro v' w1 hown' hgrow _
        obtain ⟨r1, r2, -⟩ := own_snoc hown hbel hsz hown' hgrow
        rw [← onlyTo_hit hlt HX HH.out] at r1
        clear hown' hgrow hown hcx htr
        go_wp2
        go_roundw
        case rel => exact ⟨k + 1, by omega, by go_num, r1, r2⟩
        case measure => simp [intOf]; omega
      · have d : (hasB ys x == bb) = false := by simp [hh]
        have r1 := hown
        rw [← onlyTo_miss hlt HX hh] at r1
        go_wp2
        go_roundw
        case rel => exact ⟨k + 1, by omega, by go_num, r1, hbel⟩
        case measure => simp [intOf]; omega
    · rw [onlyTo_all ys bb hlt] at hown
      go_wp2
      go_ret
      exact ⟨_, rfl, hown, hbel⟩

set_option maxHeartbeats 400000 in
theorem only_nil (a ay : Option Addr) (cx cy : Nat) (ys : List Int) (bb : Bool) (w : World) :
    Calls Tryd.prog 54 #[.slice a 0 cx, .slice ay ys.length cy, .bool bb] w fun e w' => e = .returned (.slice none 0 0) ∧ w' = w := by
  go_enter Tryd.func54, Tryd.ntmps54
  go_wp2
  refine wp_loop_rounds 1 ?_
  rw [rounds_succ]
  go_wp2
  go_ret
  exact ⟨rfl, rfl⟩

theorem only_any (a ay : Option Addr) (cx cy : Nat) (xs ys : List Int) (bb : Bool) (w : World) (hs : At w a xs) (hl : xs.length ≤ 17592186044416) (ht : At w ay ys) (hm : ys.length ≤ maxLen) :
    Calls Tryd.prog 54 #[.slice a xs.length cx, .slice ay ys.length cy, .bool bb] w fun e w' => Gives w (xs.filter (fun n => hasB ys n == bb)) e w' := by
  rcases hs with rfl | ⟨b, off, rfl, hb, hc⟩
  · refine (only_nil a ay cx cy ys bb w).mono ?_
    rintro e w' ⟨rfl, rfl⟩
    exact gives_of_own (B := w'.heap.size) (own_nil _ _) (Below.refl _ _)
  · refine (only_some b off cx cy ay xs ys bb w hl hb hc ht hm).mono ?_
    rintro e w' ⟨v, rfl, h1, h2⟩
    exact gives_of_own h1 h2

end Go.Proofs.YtbdkaobbfmgnhaaDoor
namespace Go.Proofs.YtbdkaobbfmgnhaaDoor
open Go.RowKit
set_option linter.unusedVariables false

theorem findL_hit {L : List (List Int)} {k : Nat} {x s : List Int} (h : Hid (L[k]? = some x)) (e : Hid (findL L s = k + findL (L.drop k) s)) (h1 : Hid (sameB x s = true)) : (k : Int) = (findL L s : Nat) := by
  have h2 : x = s := by have := h1.out; simpa [sameB] using this
  rw [e.out, dropL h.out, findL, if_pos h2]; simp
theorem findL_miss {L : List (List Int)} {k : Nat} {x s : List Int} (h : Hid (L[k]? = some x)) (e : Hid (findL L s = k + findL (L.drop k) s)) (h1 : Hid (sameB x s = false)) : Hid (findL L s = (k + 1) + findL (L.drop (k + 1)) s) := by
  have h2 : ¬ x = s := by have := h1.out; simpa [sameB] using this
  show _ = _
  rw [e.out, dropL h.out, findL, if_neg h2]; omega
theorem findL_end {L : List (List Int)} {k : Nat} {s : List Int} (h : ¬ k < L.length) (hk : k ≤ L.length) (e : Hid (findL L s = k + findL (L.drop k) s)) : (L.length : Int) = (findL L s : Nat) := by
  rw [e.out, List.drop_eq_nil_of_le (by omega)]; simp [findL]; omega
theorem ret_i64g {a b : Int} (h : a = b) : Ending.returned (.int .i64 a) = .returned (.int .i64 b) := by rw [h]

set_option maxHeartbeats 2000000 in
theorem rfind_some (ba oa ca : Nat) (sa : Option Addr) (sc : Nat) (LL : List (List Int)) (s : List Int) (w : World) (hl : LL.length ≤ 9223372036854775807) (hca : Hid (CellsL w ba oa LL)) (hs : Hid (At w sa s)) (hsl : Hid (s.length ≤ maxLen)) :
    Calls Tryd.prog 79 #[.slice (some ⟨ba, oa, none⟩) LL.length ca, .slice sa s.length sc] w fun e w' => e = .returned (.int .i64 (findL LL s : Nat)) ∧ ∃ q, w' = w.drewN q := by
  go_enter Tryd.func79, Tryd.ntmps79
  go_wp2
  go_loopw [5] (fun i wr => ∃ k q : Nat, k ≤ LL.length ∧ i = .int .i64 k ∧ wr = w.drewN q ∧ Hid (findL LL s = k + findL (LL.drop k) s)) (fun i _ => LL.length - (intOf i).toNat)
  case atStart => exact ⟨0, 0, Nat.zero_le _, rfl, rfl, by show _ = _; simp⟩
  case round =>
    obtain ⟨k, q, hk, rfl, rfl, he⟩ := hrel
    by_cases hlt : k < LL.length
    · obtain ⟨x, HX⟩ : ∃ x, Hid (LL[k]? = some x) := ⟨_, List.getElem?_eq_getElem hlt⟩
      obtain ⟨xa, xc, cx, ax, lx⟩ := hca.out k x HX.out
      obtain ⟨V, HV⟩ : ∃ V, Hid (V = w.drewN q) := ⟨_, rfl⟩
      replace cx : V.cell? ⟨ba, oa + k, none⟩ = some (.slice xa x.length xc) := by rw [HV.out]; exact cx
      have KEY : Hid (Calls Tryd.prog 22 #[.slice xa x.length xc, .slice sa s.length sc] V fun e w' => e = .returned (.bool (sameB x s)) ∧ ∃ r, w' = V.drewN r) := by
        rw [HV.out]; exact same_any xa sa xc sc x s _ (At.drewN ax q) (At.drewN hs.out q) lx hsl.out
      rw [← HV.out]
      clear ax lx
      go_wp2_with fail
      refine KEY.out.mono ?_
      rintro e V' ⟨rfl, r, rfl⟩
      have HVr : Hid (V.drewN r = w.drewN (q + r)) := by show _ = _; rw [HV.out, World.drewN_drewN]
      rw [HVr.out]
      clear KEY cx
      cases hxy : sameB x s with
      | true =>
        have HXY := Hid.of hxy
        clear hxy
        go_wp2
        go_ret
        exact ⟨ret_i64g (findL_hit HX he HXY), _, rfl⟩
      | false =>
        have HXY := Hid.of hxy
        clear hxy
        go_wp2
        go_roundw
        case rel => exact ⟨k + 1, _, by omega, by go_num, rfl, findL_miss HX he HXY⟩
        case measure => simp [intOf]; omega
    · go_wp2
      go_ret
      exact ⟨ret_i64g (findL_end hlt hk he), q, rfl⟩
set_option maxHeartbeats 400000 in
theorem rfind_nil (a sa : Option Addr) (ca sc : Nat) (s : List Int) (w : World) :
    Calls Tryd.prog 79 #[.slice a 0 ca, .slice sa s.length sc] w fun e w' => e = .returned (.int .i64 (findL [] s : Nat)) ∧ ∃ q, w' = w.drewN q := by
  go_enter Tryd.func79, Tryd.ntmps79
  go_wp2
  refine wp_loop_rounds 1 ?_
  rw [rounds_succ]
  go_wp2
  go_ret
  exact ⟨rfl, 0, rfl⟩
theorem rfind_any (a sa : Option Addr) (ca sc : Nat) (LL : List (List Int)) (s : List Int) (w : World) (h : At2 w a LL) (hl : LL.length ≤ maxLen) (hs : At w sa s) (hsl : s.length ≤ maxLen) :
    Calls Tryd.prog 79 #[.slice a LL.length ca, .slice sa s.length sc] w fun e w' => e = .returned (.int .i64 (findL LL s : Nat)) ∧ ∃ q, w' = w.drewN q := by
  rcases h with rfl | ⟨b, off, rfl, -, hc⟩
  · exact rfind_nil a sa ca sc s w
  · exact rfind_some b off ca sa sc LL s w hl (Hid.of hc) (Hid.of hs) (Hid.of hsl)

/-! jalousieref6.Is -/
theorem cntL_take {ars : List Arr} {k : Nat} {a : Arr} {s e : Int} (h : k < ars.length) (ha : Hid (a = ars[k]?.getD arr0)) : cntL (ars.take (k + 1)) s e = if (decide (a.f = s) && decide (a.e = e)) = true then cntL (ars.take k) s e + 1 else cntL (ars.take k) s e := by
  have ha := ha.out
  rw [List.getElem?_eq_getElem h, Option.getD_some] at ha
  unfold cntL
  rw [List.take_add_one, List.getElem?_eq_getElem h, List.filter_append, ← ha, List.length_append]
  by_cases c : (decide (a.f = s) && decide (a.e = e)) = true
  · rw [if_pos c]; simp only [Option.toList_some, List.filter_cons, c, if_true, List.filter_nil, List.length_cons, List.length_nil]
  · rw [if_neg c]; simp only [Option.toList_some, List.filter_cons, c, Bool.false_eq_true, if_false, List.filter_nil, List.length_nil, Nat.add_zero]
theorem cntL_le (ars : List Arr) (s e : Int) : cntL ars s e ≤ ars.length := List.length_filter_le _ _
theorem detB_one {s v : Nat} {starts : List Int} {ars : List Arr} {ends : List Int} (hm : mayB ⟨(s : Int), (v : Int), starts, ars, ends⟩ = true) (h1 : starts.length = 1) : detB ⟨(s : Int), (v : Int), starts, ars, ends⟩ = allOne ars v s := by
  unfold detB
  rw [hm, ← det_same (may_arrs hm) (may_inc hm)]
  simp [h1]
theorem allOne_no {ars : List Arr} {v s k e : Nat} (hk : k < s) (he : e < v) (h : ¬ cntL ars (k : Int) (e : Int) = 1) : allOne ars v s = false := by
  cases hh : allOne ars v s with
  | false => rfl
  | true =>
    unfold allOne oneRow at hh
    simp only [List.all_eq_true, List.mem_range, decide_eq_true_eq] at hh
    exact absurd (hh k hk e he) h
theorem allOne_yes {ars : List Arr} {v s : Nat} (h : ∀ k, k < s → ∀ e, e < v → cntL ars (k : Int) (e : Int) = 1) : allOne ars v s = true := by
  unfold allOne oneRow
  simp only [List.all_eq_true, List.mem_range, decide_eq_true_eq]
  exact h

set_option maxRecDepth 100000 in
set_option maxHeartbeats 4000000 in
theorem rIs_any (m : Mach) (l : ML) (w : World) (h : Hid (MAt w m l)) :
    Calls Tryd.prog 36 #[mval m l] w fun e w' => e = .returned (.bool (detB m)) ∧ Below w.heap.size w w' := by
  have B0 : Hid (Below w.heap.size w (w.alloc (.cells (mcells m l) 25))) := (Below.refl _ _).alloc (Nat.le_refl _) _
  have K0 : Hid (Blk (w.alloc (.cells (mcells m l) 25)) w.heap.size 25 (mcells m l)) := Blk.new w _ _
  go_enter Tryd.func36, Tryd.ntmps36
  go_wp2_with fail
  revert B0 K0
  generalize w.alloc (.cells (mcells m l) 25) = V0
  intro B0 K0
  refine (refMay_any m l _ (h.out.below B0.out (Nat.le_refl _))).mono ?_
  rintro e V ⟨rfl, hb1⟩
  have B1 := Hid.of (B0.out.trans (hb1.mono B0.out.size))
  have K1 := Hid.of (K0.out.below hb1 K0.out.lt)
  clear hb1 B0 K0
  cases hm : mayB m with
  | false =>
    have HF := Hid.of (detB_no1 hm)
    clear hm
    go_wp2
    go_ret
    exact ⟨ret_bool HF.out.symm, B1.out⟩
  | true =>
    have hz := mayB_size hm
    have hin := Hid.of (may_arrs hm)
    have HMY := Hid.of hm
    obtain ⟨st, ev, starts, ars, ends⟩ := m
    obtain ⟨a1, c1, a2, c2, a3, c3⟩ := l
    obtain ⟨z1, z2, z3, z4, z5⟩ := hz
    simp only at z1 z2 z3 z4 z5
    obtain ⟨s, rfl⟩ : ∃ s : Nat, st = (s : Int) := ⟨st.toNat, by omega⟩
    obtain ⟨v, rfl⟩ : ∃ v : Nat, ev = (v : Int) := ⟨ev.toNat, by omega⟩
    obtain ⟨x0, x1, x2, x3, x4⟩ := mcell_at K1.out
    dsimp only at x0 x1 x2 x3 x4
    clear hm
    by_cases h1 : starts.length = 1
    · have d1 : ((starts.length : Int) != 1) = false := by rw [h1]; rfl
      have HO : Hid (detB ⟨(s : Int), (v : Int), starts, ars, ends⟩ = allOne ars v s) := detB_one HMY.out h1
      clear h1
      go_wp2
      go_loop [3] (fun i => ∃ k : Nat, k ≤ s ∧ i = .int .i64 k ∧ Hid (∀ j, j < k → ∀ e, e < v → cntL ars (j : Int) (e : Int) = 1)) (fun i => s - (intOf i).toNat)
      case atStart => exact ⟨0, Nat.zero_le _, rfl, fun j hj => by omega⟩
      case round =>
        obtain ⟨k, hk, rfl, HK⟩ := hrel
        by_cases hlt : k < s
        · go_wp2
          go_loop [4] (fun i => ∃ q : Nat, q ≤ v ∧ i = .int .i64 q ∧ Hid (∀ e, e < q → cntL ars (k : Int) (e : Int) = 1)) (fun i => v - (intOf i).toNat)
          case atStart => exact ⟨0, Nat.zero_le _, rfl, fun j hj => by omega⟩
          case round =>
            obtain ⟨q, hq, rfl, HQ⟩ := hrel
            by_cases hqt : q < v
            · go_wp2
              go_loop [5, 6] (fun c i => ∃ n : Nat, n ≤ ars.length ∧ i = .int .i64 n ∧ c = .int .i64 (cntL (ars.take n) (k : Int) (q : Int) : Nat)) (fun _ i => ars.length - (intOf i).toNat)
              case atStart => exact ⟨0, Nat.zero_le _, rfl, rfl⟩
              case round =>
                obtain ⟨n, hn, rfl, rfl⟩ := hrel
                have hcl := cntL_le (ars.take n) (k : Int) (q : Int)
                rw [List.length_take] at hcl
                by_cases hnt : n < ars.length
                · obtain ⟨b, off, rfl, hb, hc⟩ : ∃ b off, a2 = some ⟨b, off, none⟩ ∧ b < w.heap.size ∧ CellsA w b off ars := by
                    rcases h.out.a with h0 | ⟨b, off, h0⟩
                    · have h0 : ars = [] := h0
                      rw [h0] at hnt; simp at hnt
                    · exact ⟨b, off, h0⟩
                  obtain ⟨a, HA, y1, y2, y3⟩ := hc.at hnt
                  replace y1 := (B1.out.cell (p := ⟨b, off + n * 3, none⟩) hb).trans y1
                  replace y2 := (B1.out.cell (p := ⟨b, off + n * 3 + 1, none⟩) hb).trans y2
                  replace y3 := (B1.out.cell (p := ⟨b, off + n * 3 + 2, none⟩) hb).trans y3
                  have HC := Hid.of (cntL_take (s := (k : Int)) (e := (q : Int)) hnt HA)
                  obtain ⟨cn, HCN⟩ : ∃ cn, Hid (cn = cntL (ars.take n) (k : Int) (q : Int)) := ⟨_, rfl⟩
                  rw [← HCN.out] at HC hcl ⊢
                  by_cases e1 : a.f = (k : Int)
                  · have d3 : (a.f == (k : Int)) = true := by simpa using e1
                    by_cases e2 : a.e = (q : Int)
                    · have d4 : (a.e == (q : Int)) = true := by simpa using e2
                      rw [if_pos (by simp [e1, e2])] at HC
                      clear e1 e2
                      go_wp2
                      go_round
                      case rel => exact ⟨n + 1, by omega, by go_num, by rw [HC.out]; go_num⟩
                      case measure => simp [intOf]; omega
                    · have d4 : (a.e == (q : Int)) = false := by simpa using e2
                      rw [if_neg (by simp [e2])] at HC
                      clear e1 e2
                      go_wp2
                      go_round
                      case rel => exact ⟨n + 1, by omega, by go_num, by rw [HC.out]⟩
                      case measure => simp [intOf]; omega
                  · have d3 : (a.f == (k : Int)) = false := by simpa using e1
                    rw [if_neg (by simp [e1])] at HC
                    clear e1
                    go_wp2
                    go_round
                    case rel => exact ⟨n + 1, by omega, by go_num, by rw [HC.out]⟩
                    case measure => simp [intOf]; omega
                · have HT : Hid (ars.take n = ars) := List.take_of_length_le (by omega)
                  rw [HT.out]
                  obtain ⟨cn, HCN⟩ : ∃ cn, Hid (cn = cntL ars (k : Int) (q : Int)) := ⟨_, rfl⟩
                  rw [← HCN.out]
                  by_cases hc1 : cn = 1
                  · have d5 : ((cn : Int) != 1) = false := by rw [hc1]; rfl
                    have HQ' : Hid (∀ e, e < q + 1 → cntL ars (k : Int) (e : Int) = 1) := fun e he => by
                      by_cases h9 : e < q
                      · exact HQ.out e h9
                      · have : e = q := by omega
                        rw [this, ← HCN.out]; exact hc1
                    clear hc1
                    go_wp2
                    go_round
                    case rel => exact ⟨q + 1, by omega, by go_num, HQ'⟩
                    case measure => simp [intOf]; omega
                  · have d5 : ((cn : Int) != 1) = true := by rw [bne_iff_ne]; omega
                    have HNO : Hid (allOne ars v s = false) := allOne_no hlt hqt (by rw [← HCN.out]; exact hc1)
                    clear hc1
                    go_wp2
                    go_ret
                    exact ⟨ret_bool (by rw [HO.out, HNO.out]), B1.out⟩
            · have HK' : Hid (∀ j, j < k + 1 → ∀ e, e < v → cntL ars (j : Int) (e : Int) = 1) := fun j hj e he => by
                by_cases h9 : j < k
                · exact HK.out j h9 e he
                · have : j = k := by omega
                  rw [this]; exact HQ.out e (by omega)
              go_wp2
              go_round
              case rel => exact ⟨k + 1, by omega, by go_num, HK'⟩
              case measure => simp [intOf]; omega
        · have HY : Hid (allOne ars v s = true) := allOne_yes (fun j hj => HK.out j (by omega))
          go_wp2
          go_ret
          exact ⟨ret_bool (by rw [HO.out, HY.out]), B1.out⟩
    · have d1 : ((starts.length : Int) != 1) = true := by rw [bne_iff_ne]; omega
      have HF : Hid (detB ⟨(s : Int), (v : Int), starts, ars, ends⟩ = false) := detB_no2 h1
      clear h1
      go_wp2
      go_ret
      exact ⟨ret_bool HF.out.symm, B1.out⟩

end Go.Proofs.YtbdkaobbfmgnhaaDoor
namespace Go.Proofs.YtbdkaobbfmgnhaaDoor
open Go.RowKit
set_option linter.unusedVariables false

/-- The cells of the machine that is being made. -/
abbrev rcells (st : Int) (ev : Int) (b0 : Nat) (va ve : Value) : Array Value := #[.int .i64 st, .int .i64 ev, .slice (some ⟨b0, 0, none⟩) 1 1, va, ve]
/-- What Make knows of the memory while sets are found. -/
structure RN (w W : World) (b0 : Nat) (m : Mach) (l : ML) (v6 va : Value) (LL : List (List Int)) (A : List Arr) : Prop where
  bel : Below w.heap.size w W
  kb : Blk W w.heap.size 25 (mcells m l)
  rb : Blk W (w.heap.size + 1) 25 zcells
  s0 : Blk W b0 3 #[.int .i64 0]
  nb : Blk W (b0 + 1) 25 (rcells 0 m.ev b0 va (.slice none 0 0))
  ss : OwnN w.heap.size W (b0 + 2) v6 LL
  ar : OwnA W (b0 + 2) va A
  lo : w.heap.size + 1 < b0
  hB : b0 + 2 ≤ W.heap.size
section
variable {w W : World} {b0 : Nat} {m : Mach} {l : ML} {v6 va : Value} {LL : List (List Int)} {A : List Arr}
theorem RN.below {W' : World} (h : RN w W b0 m l v6 va LL A) (hb : Below W.heap.size W W') : RN w W' b0 m l v6 va LL A :=
  ⟨h.bel.trans (hb.mono h.bel.size), h.kb.below hb h.kb.lt, h.rb.below hb h.rb.lt, h.s0.below hb h.s0.lt, h.nb.below hb h.nb.lt, h.ss.below hb h.bel.size, h.ar.kept hb (Nat.le_refl _), h.lo, Nat.le_trans h.hB hb.size⟩
theorem RN.mcells (h : RN w W b0 m l v6 va LL A) : W.cell? ⟨w.heap.size, 0, none⟩ = some (.int .i64 m.st) ∧ W.cell? ⟨w.heap.size, 1, none⟩ = some (.int .i64 m.ev) ∧ W.cell? ⟨w.heap.size, 2, none⟩ = some (.slice l.a1 m.starts.length l.c1) ∧ W.cell? ⟨w.heap.size, 3, none⟩ = some (.slice l.a2 m.arrows.length l.c2) ∧ W.cell? ⟨w.heap.size, 4, none⟩ = some (.slice l.a3 m.ends.length l.c3) :=
  ⟨h.kb.cell 0 rfl, h.kb.cell 1 rfl, h.kb.cell 2 rfl, h.kb.cell 3 rfl, h.kb.cell 4 rfl⟩
/-- One set more. -/
theorem RN.pushS {W2 W3 : World} {v6' x : Value} {xs : List Int} {vs : List Value} (h : RN w W b0 m l v6 va LL A) (hW3 : Below W.heap.size W W3) (ho : W3.ownsRow (b0 + 2) 22 1 v6 LL.length vs) (hi : ∀ (j : Nat) (x : Value) (xs : List Int), vs[j]? = some x → LL[j]? = some xs → InnN w.heap.size W3 x xs) (hx : InnN w.heap.size W3 x xs) (o1 : W2.ownsRow (b0 + 2) 22 1 v6' (LL.length + 1) (vs ++ [x])) (g : W3.grownBy W2 v6.ownBlock) :
    RN w W2 b0 m l v6' va (LL ++ [xs]) A := by
  have h3 := h.below hW3
  have lo := h.lo
  have low : ∀ j, j < b0 + 2 → W2.heap[j]? = W3.heap[j]? := fun j hj => g.block j (Nat.lt_of_lt_of_le hj h3.hB) (fun e => by have := (World.ownsRow.lt ho j e.symm).1; omega)
  have hty : ∀ (q : Nat) (cs : Array Value) (t : TypeId), t ≠ 22 → W3.heap[q]? = some (.cells cs t (0, 0)) → W2.heap[q]? = W3.heap[q]? := fun q cs t ht hq => g.block q (Array.getElem?_eq_some_iff.1 hq).1 (fun e => by
    obtain ⟨c2, h2⟩ := own_type ho e.symm
    rw [hq] at h2; cases h2; exact ht rfl)
  have kp : ∀ {y : Value} {ys : List Int}, InnN w.heap.size W3 y ys → InnN w.heap.size W2 y ys := fun hy => hy.kept g.size (fun j hj => low j (by omega)) (fun q cs hq => hty q cs _ (by decide) hq)
  refine ⟨h3.bel.grown g h3.bel.size (fun j hj => Nat.le_trans (by omega) (World.ownsRow.lt ho j hj).1), (low _ (by omega)).trans h3.kb, (low _ (by omega)).trans h3.rb, (low _ (by omega)).trans h3.s0, (low _ (by omega)).trans h3.nb, ?_, ?_, lo, Nat.le_trans h3.hB g.size⟩
  · have hl : vs.length = LL.length := by have := ho.1; omega
    refine ⟨vs ++ [x], by rw [List.length_append]; exact o1, fun j y ys a b => ?_⟩
    by_cases hj : j < LL.length
    · rw [List.getElem?_append_left (by omega)] at a
      rw [List.getElem?_append_left hj] at b
      exact kp (hi j y ys a b)
    · have hj2 : j < (LL ++ [xs]).length := (List.getElem?_eq_some_iff.1 b).1
      have : j = LL.length := by simp at hj2; omega
      subst this
      rw [List.getElem?_append_right (by omega)] at a b
      rw [hl] at a
      simp at a b
      subst a; subst b
      exact kp hx
  · refine own_same h3.ar (fun k hk => ?_)
    obtain ⟨cs, hc⟩ := own_type h3.ar hk
    exact hty k cs _ (by decide) hc
/-- One arrow more. -/
theorem RN.pushA {W2 W3 : World} {va' : Value} {x : Arr} (h : RN w W b0 m l v6 va LL A) (hW3 : Below W.heap.size W W3) (o1 : OwnA W2 (b0 + 2) va' (A ++ [x])) (g : W3.grownBy W2 va.ownBlock) :
    Blk W2 (b0 + 1) 25 (rcells 0 m.ev b0 va (.slice none 0 0)) ∧ RN w (W2.setCell ⟨b0 + 1, 3, none⟩ va') b0 m l v6 va' LL (A ++ [x]) := by
  have h3 := h.below hW3
  have lo := h.lo
  have low : ∀ j, j < b0 + 2 → W2.heap[j]? = W3.heap[j]? := fun j hj => g.block j (Nat.lt_of_lt_of_le hj h3.hB) (fun e => by have := (World.ownsRow.lt h3.ar j e.symm).1; omega)
  have hty : ∀ (q : Nat) (cs : Array Value) (t : TypeId), t ≠ 58 → W3.heap[q]? = some (.cells cs t (0, 0)) → W2.heap[q]? = W3.heap[q]? := fun q cs t ht hq => g.block q (Array.getElem?_eq_some_iff.1 hq).1 (fun e => by
    obtain ⟨c2, h2⟩ := own_type h3.ar e.symm
    rw [hq] at h2; cases h2; exact ht rfl)
  have nb2 : Blk W2 (b0 + 1) 25 (rcells 0 m.ev b0 va (.slice none 0 0)) := (low _ (by omega)).trans h3.nb
  have nb3 : W3.heap[b0 + 1]? = some (.cells (rcells 0 m.ev b0 va (.slice none 0 0)) 25 (0, 0)) := h3.nb
  refine ⟨nb2, ⟨?_, Blk.other ((low _ (by omega)).trans h3.kb) (by omega) _, Blk.other ((low _ (by omega)).trans h3.rb) (by omega) _, Blk.other ((low _ (by omega)).trans h3.s0) (by omega) _, nb2.set 3 va', ?_, ownsRow_set o1 (by omega) va', lo, ?_⟩⟩
  · exact (h3.bel.grown g h3.bel.size (fun j hj => Nat.le_trans (by omega) (World.ownsRow.lt h3.ar j hj).1)).setCell (p := ⟨b0 + 1, 3, none⟩) (show w.heap.size ≤ b0 + 1 by omega) _
  · refine h3.ss.kept ?_ (fun k hk => ?_) (fun j hj => ?_) (fun q cs hq => ?_)
    · have := g.size; simpa [World.setCell] using this
    · obtain ⟨vs, ho, -⟩ := h3.ss
      have := (World.ownsRow.lt ho k hk).1
      obtain ⟨cs, hc⟩ := own_type ho hk
      rw [Below.heap_setCell _ _ _ _ (show k ≠ b0 + 1 by omega), hty k cs _ (by decide) hc]
    · rw [Below.heap_setCell _ _ _ _ (show j ≠ b0 + 1 by omega), low j (by omega)]
    · rw [Below.heap_setCell _ _ _ _ (show q ≠ b0 + 1 from fun e => by rw [e, nb3] at hq; cases hq), hty q cs _ (by decide) hq]
  · have := g.size
    have := h3.hB
    simp [World.setCell]; omega
/-- What lies where, for the loop over the ends. -/
theorem RN.get (h : RN w W b0 m l v6 va LL A) {k : Nat} {xs : List Int} (hk : LL[k]? = some xs) : ∃ g cap a c, v6 = .slice (some ⟨g, 0, none⟩) LL.length cap ∧ g < W.heap.size ∧ g ≠ b0 + 1 ∧ g ≠ w.heap.size + 1 ∧ W.cell? ⟨g, k, none⟩ = some (.slice a xs.length c) ∧ xs.length ≤ maxLen ∧ (xs = [] ∨ ∃ q o, a = some ⟨q, o, none⟩ ∧ q < W.heap.size ∧ q ≠ b0 + 1 ∧ q ≠ w.heap.size + 1 ∧ Cells W q o xs) := by
  obtain ⟨g, cap, x, h1, h2, h3, h4, a, c, rfl, h5, h6⟩ := h.ss.get hk
  have lo := h.lo
  have nb : W.heap[b0 + 1]? = some (.cells (rcells 0 m.ev b0 va (.slice none 0 0)) 25 (0, 0)) := h.nb
  have rb : W.heap[w.heap.size + 1]? = some (.cells zcells 25 (0, 0)) := h.rb
  refine ⟨g, cap, a, c, h1, h3, by omega, by omega, h4, h5, ?_⟩
  rcases h6 with h6 | ⟨q, o, e, hlt, hc, h6⟩
  · exact .inl h6
  · refine .inr ⟨q, o, e, hlt, ?_, ?_, hc⟩
    · rcases h6 with h6 | ⟨cs, h6⟩
      · omega
      · intro e; rw [e, nb] at h6; cases h6
    · rcases h6 with h6 | ⟨cs, h6⟩
      · omega
      · intro e; rw [e, rb] at h6; cases h6
end
theorem at_kp {W X : World} {b : Nat} {a : Option Addr} {xs : List Int} {P : Nat → Prop} (h : xs = [] ∨ ∃ q o, a = some ⟨q, o, none⟩ ∧ q < X.heap.size ∧ q ≠ b ∧ P q ∧ Cells X q o xs) (kp : Kp b X W) : At W a xs := by
  rcases h with h | ⟨q, o, e, h1, h2, -, h3⟩
  · exact .inl h
  · exact .inr ⟨q, o, e, Nat.lt_of_lt_of_le h1 kp.size, cells_block h3 (kp.same q h1 h2)⟩

theorem RN.fin {w W0 W W' : World} {b0 : Nat} {m : Mach} {l : ML} {v6 va : Value} {LL : List (List Int)} {A : List Arr} (h : RN w W0 b0 m l v6 va LL A) (kp : Kp (b0 + 1) W0 W) (hz : W.heap.size ≤ W'.heap.size) (hs : ∀ q, q ≠ w.heap.size + 1 → W'.heap[q]? = W.heap[q]?) : ∃ a cap, v6 = .slice a LL.length cap ∧ At2 W' a LL := by
  obtain ⟨a, cap, e, -⟩ := h.ss.at2
  refine ⟨a, cap, e, ?_⟩
  cases hL : LL with
  | nil => exact .inl rfl
  | cons x r =>
    have h0 : LL[0]? = some x := by rw [hL]; rfl
    obtain ⟨g, cap', a', c', e', hg, hg1, hg2, -⟩ := h.get h0
    rw [e] at e'
    have ea : a = some ⟨g, 0, none⟩ := by cases e'; rfl
    have hW : ∀ q, q < W0.heap.size → q ≠ b0 + 1 → q ≠ w.heap.size + 1 → W'.heap[q]? = W0.heap[q]? := fun q h1 h2 h3 => (hs q h3).trans (kp.same q h1 h2)
    refine .inr ⟨g, 0, ea, Nat.lt_of_lt_of_le hg (Nat.le_trans kp.size hz), fun k xs hk => ?_⟩
    rw [← hL] at hk
    obtain ⟨g2, cap2, a2, c2, e2, hg3, hg4, hg5, cx, hxl, hin⟩ := h.get hk
    rw [e, ea] at e2
    have eg : g = g2 := by cases e2; rfl
    subst eg
    refine ⟨a2, c2, ?_, ?_, hxl⟩
    · rw [Nat.zero_add, World.cell?_of_block (w := W0) (hW g hg3 hg4 hg5)]; exact cx
    · rcases hin with hin | ⟨q, o, eq, q1, q2, q3, q4⟩
      · exact .inl hin
      · exact .inr ⟨q, o, eq, Nat.lt_of_lt_of_le q1 (Nat.le_trans kp.size hz), cells_block q4 (hW q q1 q2 q3)⟩
theorem Kp.below {b : Nat} {X W W' : World} (h : Kp b X W) (hb : Below W.heap.size W W') : Kp b X W' := ⟨Nat.le_trans h.size hb.size, fun k hk hn => (hb.block k (Nat.lt_of_lt_of_le hk h.size)).trans (h.same k hk hn)⟩
theorem heap_set5 (W : World) (b : Nat) (v0 v1 v2 v3 v4 : Value) : ∀ q, q ≠ b → (((((W.setCell ⟨b, 0, none⟩ v0).setCell ⟨b, 1, none⟩ v1).setCell ⟨b, 2, none⟩ v2).setCell ⟨b, 3, none⟩ v3).setCell ⟨b, 4, none⟩ v4).heap[q]? = W.heap[q]? := fun q hq => by
  rw [Below.heap_setCell _ _ _ _ hq, Below.heap_setCell _ _ _ _ hq, Below.heap_setCell _ _ _ _ hq, Below.heap_setCell _ _ _ _ hq, Below.heap_setCell _ _ _ _ hq]
theorem size_set5 (W : World) (b : Nat) (v0 v1 v2 v3 v4 : Value) : W.heap.size ≤ (((((W.setCell ⟨b, 0, none⟩ v0).setCell ⟨b, 1, none⟩ v1).setCell ⟨b, 2, none⟩ v2).setCell ⟨b, 3, none⟩ v3).setCell ⟨b, 4, none⟩ v4).heap.size := by simp [World.setCell]

end Go.Proofs.YtbdkaobbfmgnhaaDoor
namespace Go.Proofs.YtbdkaobbfmgnhaaDoor
open Go.RowKit
set_option linter.unusedVariables false

set_option maxHeartbeats 2000000 in
set_option maxRecDepth 100000 in
theorem refStep_some (st ev : Int) (starts : List Int) (ars : List Arr) (ends : List Int) (a1 : Option Addr) (c1 b off c2 : Nat) (a3 : Option Addr) (c3 : Nat) (sa : Option Addr) (sc : Nat) (ss : List Int) (x : Int) (w : World) (hlen : ars.length ≤ 17592186044416) (hb : b < w.heap.size) (hca : CellsA w b off ars) (hs : At w sa ss) (hl : ss.length ≤ maxLen) :
    Calls Tryd.prog 53 #[mval ⟨st, ev, starts, ars, ends⟩ ⟨a1, c1, some ⟨b, off, none⟩, c2, a3, c3⟩, .slice sa ss.length sc, .int .i64 x] w fun e w' => GivesO w (stepL ars ss x) e w' := by
  obtain ⟨i0, hi, hz0, hz1, hz2⟩ := info_parts Tryd.infoInt
  go_enter Tryd.func53, Tryd.ntmps53
  go_wp2
  go_loopw [7, 8] (fun v i wr => ∃ k : Nat, k ≤ ars.length ∧ i = .int .i64 k ∧ Own wr (w.heap.size + 1) v (stepTo (ars.take k) ss x) ∧ Below (w.heap.size + 1) (w.alloc (.cells (mcells ⟨st, ev, starts, ars, ends⟩ ⟨a1, c1, some ⟨b, off, none⟩, c2, a3, c3⟩) 25)) wr) (fun _ i _ => ars.length - (intOf i).toNat)
  case atStart => exact ⟨0, Nat.zero_le _, rfl, own_nil _ _, Below.refl _ _⟩
  case round =>
    obtain ⟨k, hk, rfl, hown, hbel⟩ := hrel
    have hold := below_box hbel
    have hsz := hbel.size
    rw [World.size_alloc] at hsz
    have hbx : w.heap.size < wr.heap.size := by omega
    have hbr : b < wr.heap.size := by omega
    have hbox := (box_cells hbel).2.2.2.1
    dsimp only at hbox
    by_cases hlt : k < ars.length
    · obtain ⟨a, HA, y0, y1, y2⟩ := hca.at hlt
      have y0' := (hold.cell (p := ⟨b, off + k * 3, none⟩) hb).trans y0
      have y1' := (hold.cell (p := ⟨b, off + k * 3 + 1, none⟩) hb).trans y1
      have y2' := (hold.cell (p := ⟨b, off + k * 3 + 2, none⟩) hb).trans y2
      clear y0 y1 y2
      have hsr := hs.below hold (Nat.le_refl _)
      have hll := stepTo_len (ars.take k) ss x
      rw [List.length_take] at hll
      have HN := stepTo_take (ss := ss) (e := x) hlt HA
      by_cases c1' : a.e = x
      · have g1 : (a.e == x) = true := by simp [c1']
        have HC : Hid (a.e = x) := c1'
        clear c1'
        go_wp2_with fail
        refine (refHas_any sa sc ss a.f _ hsr hl).mono ?_
        rintro e w1 ⟨rfl, rfl⟩
        by_cases c2' : hasB ss a.f = true
        · rw [if_pos (by rw [g1, c2']; rfl)] at HN
          have HN' : Hid (stepTo (ars.take (k + 1)) ss x = stepTo (ars.take k) ss x ++ [a.t]) := HN
          clear HN
          go_wp2_with (at_builtin; refine wpList_append_own _ rfl _ _ 22 rfl (w.heap.size + 1) 3 i0 (.int .i64 0) 1 8 Tryd.underlying22 hi hz0 hz1 hz2 rfl (by decide) _ _ _ rfl (World.ownsRow.alloc hown _) ⟨w1.heap.size, 0, none⟩ 1 1 [.int .i64 a.t] rfl rfl (cell_one_new _ _ _) (by intro u hu; simp at hu; subst hu; rfl) (by unfold maxLen; omega) (by omega) (by simp; omega) ?_)
          intro v' w2 hown' hgrow _
          obtain ⟨r1, r2, -⟩ := own_snoc hown hbel (by omega) hown' hgrow
          rw [← HN'.out] at r1
          clear hown' hgrow hown
          go_wp2
          go_roundw
          case rel => exact ⟨k + 1, by omega, by go_num, r1, r2⟩
          case measure => simp [intOf]; omega
        · have c3' : hasB ss a.f = false := by simpa using c2'
          rw [if_neg (by rw [c3']; simp)] at HN
          have r1 := hown
          rw [← HN] at r1
          clear HN c2'
          go_wp2
          go_roundw
          case rel => exact ⟨k + 1, by omega, by go_num, r1, hbel⟩
          case measure => simp [intOf]; omega
      · have g1 : (a.e == x) = false := by simp [c1']
        rw [if_neg (by rw [g1]; simp)] at HN
        have r1 := hown
        rw [← HN] at r1
        clear HN
        go_wp2
        go_roundw
        case rel => exact ⟨k + 1, by omega, by go_num, r1, hbel⟩
        case measure => simp [intOf]; omega
    · have htk : Hid (ars.take k = ars) := List.take_of_length_le (by omega)
      rw [htk.out] at hown
      have hl2 := stepTo_len ars ss x
      obtain ⟨a', c', rfl, h3, l3⟩ := hown.at
      go_wp2_with fail
      refine (sorted_own a' c' (stepTo ars ss x) _ h3 (by omega)).mono ?_
      rintro e w1 ⟨v4, rfl, o4, b4⟩
      have bb : Below w.heap.size w w1 := hold.trans (b4.mono (by omega))
      go_wp2
      go_ret
      exact ⟨v4, rfl, o4.low (by omega), bb⟩

set_option maxHeartbeats 400000 in
theorem refStep_nil (st ev : Int) (starts : List Int) (ends : List Int) (l : ML) (sa : Option Addr) (sc : Nat) (ss : List Int) (x : Int) (w : World) :
    Calls Tryd.prog 53 #[mval ⟨st, ev, starts, [], ends⟩ l, .slice sa ss.length sc, .int .i64 x] w fun e w' => GivesO w [] e w' := by
  go_enter Tryd.func53, Tryd.ntmps53
  go_wp2_with fail
  refine wp_loop_rounds 1 ?_
  rw [rounds_succ]
  go_wp2_with fail
  refine (sorted_nil none 0 _).mono ?_
  rintro e w1 ⟨rfl, rfl⟩
  go_wp2
  go_ret
  exact ⟨_, rfl, own_nil _ _, (Below.refl _ _).alloc (Nat.le_refl _) _⟩

theorem refStep_own (m : Mach) (l : ML) (sa : Option Addr) (sc : Nat) (ss : List Int) (x : Int) (w : World) (ha : AtA w l.a2 m.arrows) (hlen : m.arrows.length ≤ 17592186044416) (hs : At w sa ss) (hl : ss.length ≤ maxLen) :
    Calls Tryd.prog 53 #[mval m l, .slice sa ss.length sc, .int .i64 x] w fun e w' => GivesO w (stepL m.arrows ss x) e w' := by
  obtain ⟨st, ev, starts, ars, ends⟩ := m
  obtain ⟨a1, c1, a2, c2, a3, c3⟩ := l
  rcases ha with h0 | ⟨b, off, h0, hb, hc⟩
  · have h0 : ars = [] := h0
    subst h0
    exact refStep_nil st ev starts ends _ sa sc ss x w
  · have h0 : a2 = some ⟨b, off, none⟩ := h0
    subst h0
    exact refStep_some st ev starts ars ends a1 c1 b off c2 a3 c3 sa sc ss x w hlen hb hc hs hl

end Go.Proofs.YtbdkaobbfmgnhaaDoor
