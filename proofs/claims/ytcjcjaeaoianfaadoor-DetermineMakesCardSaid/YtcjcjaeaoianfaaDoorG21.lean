/-
  The walks of determine.meeting and determine.rows.
  The walks of cmp.Less, slices.isNaN, cmp.isNaN and slices.BinarySearch: the place of a number in a row that rises.
  The walks of reach.renumber, of the closure that it answers, and of reach.rowAnew.
  'All blocks of a world but one are as they were'.
  A machine's block that is written whole; results with a machine.
-/
import Derived.Test.YtcjcjaeaoianfaaDoorG07
import Derived.Test.YtcjcjaeaoianfaaDoorCSetOps
import Derived.Test.YtcjcjaeaoianfaaDoorG20
import Derived.Test.YtcjcjaeaoianfaaDoorG03
import Derived.Test.YtcjcjaeaoianfaaDoorG05
import Derived.Test.YtcjcjaeaoianfaaDoorG06
import Derived.RangeFuncBox
import Derived.Test.YtcjcjaeaoianfaaDoorG18
namespace Go.Proofs.YtcjcjaeaoianfaaDoor
open Go.RowKit
set_option linter.unusedVariables false

/-- A set's row as an inner slice. -/
theorem innB_own {w : World} {B : Nat} {v : Value} {xs : List Int} (h : Own w B v xs) : InnB w v xs := by
  rcases h.2 with ⟨rfl, hn⟩ | ⟨g, cap, cur, rfl, hg, hh, hnc, hcm, hcs, ht⟩
  · have : xs = [] := List.eq_nil_of_length_eq_zero hn
    subst this
    exact ⟨none, 0, rfl, Nat.le_refl _, Nat.zero_le _, .inl rfl⟩
  · refine ⟨_, cap, rfl, hnc, hcm, .inr ⟨g, 0, cur, rfl, hh, fun j hj => ?_⟩⟩
    have := h.cells (g := g) rfl j (.int .i64 (xs.getD j 0)) (by rw [List.getElem?_map, List.getElem?_eq_getElem hj]; simp [List.getElem?_eq_getElem hj])
    rw [addr0_add] at this
    simpa [World.cell?, hh] using this

/-- The numbers of those sets that meet another one. -/
def meetFrom (T : Nat → Nat) : Nat → List (Nat → Nat) → List Int
  | _, [] => []
  | k, S :: r => if meetB S T = true then (k : Int) :: meetFrom T (k + 1) r else meetFrom T (k + 1) r
theorem meetFrom_snoc (T : Nat → Nat) : ∀ (L : List (Nat → Nat)) (k : Nat) (S : Nat → Nat), meetFrom T k (L ++ [S]) = meetFrom T k L ++ (if meetB S T = true then [((k + L.length : Nat) : Int)] else [])
  | [], k, S => by simp only [List.nil_append, meetFrom, List.length_nil, Nat.add_zero]
  | R :: r, k, S => by
    rw [List.cons_append]
    unfold meetFrom
    rw [meetFrom_snoc T r (k + 1) S, List.length_cons, show k + 1 + r.length = k + (r.length + 1) by omega]
    by_cases h : meetB R T = true
    · rw [if_pos h, if_pos h, List.cons_append]
    · rw [if_neg h, if_neg h]
theorem meetFrom_len (T : Nat → Nat) : ∀ (k : Nat) (L : List (Nat → Nat)), (meetFrom T k L).length ≤ L.length
  | _, [] => Nat.le_refl _
  | k, a :: r => by
    have := meetFrom_len T (k + 1) r
    unfold meetFrom; split <;> simp <;> omega
theorem meet_take {T : Nat → Nat} {L : List (Nat → Nat)} {k : Nat} {S : Nat → Nat} (h : L[k]? = some S) : meetFrom T 0 (L.take (k + 1)) = if meetB S T = true then meetFrom T 0 (L.take k) ++ [(k : Int)] else meetFrom T 0 (L.take k) := by
  have hk := (List.getElem?_eq_some_iff.1 h).1
  have e : L.take (k + 1) = L.take k ++ [S] := by rw [List.take_add_one, h]; rfl
  rw [e, meetFrom_snoc, List.length_take, Nat.min_eq_left (by omega), Nat.zero_add]
  split
  · rfl
  · rw [List.append_nil]
theorem meet_ends {T : Nat → Nat} {ends : List Int} (hT : Rep T ends) : ∀ {SL : List (Nat → Nat)} {L : List (List Int)} (k : Nat), RepL SL L → meetFrom T k SL = endsFrom ends k L
  | [], L, k, h => by
    have : L = [] := List.eq_nil_of_length_eq_zero h.len.symm
    subst this; rfl
  | S :: r, [], k, h => by have := h.len; simp at this
  | S :: r, l :: q, k, h => by
    obtain ⟨l', h1, h2, h3⟩ := h.rep 0 S rfl
    have e : l = l' := by simpa using h1
    subst e
    have hr : RepL r q := ⟨by have := h.len; simpa using this, fun j T' hj => by
      have := h.rep (j + 1) T' (by simpa using hj)
      simpa using this⟩
    unfold meetFrom endsFrom
    rw [meet_ends hT (k + 1) hr, meet_iff h2 hT]
    simp only [decide_eq_true_eq]

set_option maxRecDepth 100000 in
set_option maxHeartbeats 4000000 in
theorem meeting_any (B : Nat) (v : Value) (SL : List (Nat → Nat)) (T : Nat → Nat) (w : World) (hS : Hid (OwnS w B v SL)) (hl : SL.length ≤ 256) (hok : Hid (∀ S ∈ SL, okS S)) (hT : Hid (okS T)) :
    Calls Tryd.prog 67 #[v, sval T] w fun e w' => GivesO w (meetFrom T 0 SL) e w' := by
  obtain ⟨j0, ji, jz0, jz1, jz2⟩ := info_parts Tryd.infoInt
  obtain ⟨va, vc, hv, -, -, -⟩ := own_form2 hS.out
  subst hv
  have b0 : Hid (SB (w.alloc (.cells (scells T) 55)) w.heap.size T) := Blk.new w _ _
  have bel0 : Hid (Below w.heap.size w (w.alloc (.cells (scells T) 55))) := (Below.refl _ _).alloc (Nat.le_refl _) _
  have sz0 : Hid ((w.alloc (.cells (scells T) 55)).heap.size = w.heap.size + 1) := World.size_alloc _ _
  go_enter Tryd.func67, Tryd.ntmps67
  go_wp2
  revert b0 bel0 sz0
  generalize w.alloc (.cells (scells T) 55) = V
  intro b0 bel0 sz0
  go_loopw [5, 10] (fun v5 i wr => ∃ k : Nat, k ≤ SL.length ∧ i = .int .i64 k ∧ Hid (Own wr (w.heap.size + 1) v5 (meetFrom T 0 (SL.take k))) ∧ Hid (Below (w.heap.size + 1) V wr)) (fun _ i _ => SL.length - (intOf i).toNat)
  case atStart => exact ⟨0, Nat.zero_le _, rfl, own_nil _ _, Below.refl _ _⟩
  case round =>
    obtain ⟨k, hk, rfl, HO, HB⟩ := hrel
    have hbw : Hid (Below w.heap.size w wr) := bel0.out.trans (HB.out.mono (Nat.le_succ _))
    have hB1 : w.heap.size + 1 ≤ wr.heap.size := by have := HB.out.size; rw [sz0.out] at this; exact this
    by_cases hlt : k < SL.length
    · obtain ⟨S, HSk⟩ : ∃ S, Hid (SL[k]? = some S) := ⟨_, List.getElem?_eq_getElem hlt⟩
      obtain ⟨g, cap, hvg, hg1, hg2, c0, c1, c2, c3⟩ := hS.out.cell HSk.out
      cases hvg
      have d0 := (hbw.out.cell (p := ⟨g, k * 4, none⟩) hg2).trans c0
      have d1 := (hbw.out.cell (p := ⟨g, k * 4 + 1, none⟩) hg2).trans c1
      have d2 := (hbw.out.cell (p := ⟨g, k * 4 + 2, none⟩) hg2).trans c2
      have d3 := (hbw.out.cell (p := ⟨g, k * 4 + 3, none⟩) hg2).trans c3
      clear c0 c1 c2 c3
      have BT : Hid (SB wr w.heap.size T) := b0.out.below HB.out (Nat.lt_succ_self _)
      have NB1 : Hid (SB (wr.alloc (.cells (scells S) 55)) wr.heap.size S) := Blk.new wr _ _
      obtain ⟨n0, n1, n2, n3⟩ := SB.cells NB1.out
      obtain ⟨t0, t1, t2, t3⟩ := SB.cells (Blk.alloc BT.out (.cells (scells S) 55))
      have okS' := hok.out S (List.mem_of_getElem? HSk.out)
      have HTK := Hid.of (meet_take (T := T) HSk.out)
      have hml : (meetFrom T 0 (SL.take k)).length ≤ 256 := Nat.le_trans (meetFrom_len _ _ _) (by rw [List.length_take]; omega)
      go_wp2_with fail
      refine (meets_any S T _ okS' hT.out).mono ?_
      rintro e w1 ⟨rfl, hb1⟩
      have HO1 : Hid (Own w1 (w.heap.size + 1) u5 (meetFrom T 0 (SL.take k))) := own_same (own_same HO.out (fun j hj => Below.heap_alloc wr _ j (World.ownsRow.lt HO.out j hj).2)) (fun j hj => hb1.block j (by rw [World.size_alloc]; exact Nat.lt_succ_of_lt (World.ownsRow.lt HO.out j hj).2))
      have HB1 : Hid (Below (w.heap.size + 1) V w1) := (HB.out.alloc (by omega) _).trans (hb1.mono (by rw [World.size_alloc]; omega))
      have hz1 : w.heap.size + 1 ≤ w1.heap.size := by have := hb1.size; rw [World.size_alloc] at this; omega
      clear hb1 n0 n1 n2 n3 t0 t1 t2 t3 NB1 BT HO HB d0 d1 d2 d3 hbw
      cases hmt : meetB S T with
      | true =>
        rw [hmt, if_pos rfl] at HTK
        obtain ⟨fa, fc, hfa, -, -, -⟩ := own_form2 HO1.out
        subst hfa
        generalize meetFrom T 0 (SL.take k) = R at *
        go_wp2_with (at_builtin; refine wpList_append_block _ rfl (.tmp 18) (.tmp 20) 22 rfl (w.heap.size + 1) 3 j0 (.int .i64 0) 1 8 Tryd.underlying22 ji jz0 jz1 jz2 rfl (by decide) _ _ _ rfl (World.ownsRow.alloc HO1.out _) ⟨w1.heap.size, 0, none⟩ 1 1 [.int .i64 (k : Int)] rfl rfl (cell_one_new _ _ _) (by intro u hu; simp at hu; subst hu; rfl) (by decide) (by unfold maxLen; omega) (by omega) (by simp; omega) ?_)
        intro v9 w9 o9 g9 n9
        obtain ⟨q1, q2, q3⟩ := own_snoc HO1.out HB1.out hz1 o9 g9
        have Q1 := Hid.of q1
        have Q2 := Hid.of q2
        clear q1 q2 q3 o9 g9 n9 hmt
        go_wp2_with fail
        go_roundw
        case rel => exact ⟨k + 1, by omega, by go_num, (by show Own _ _ _ _; rw [HTK.out]; exact Q1.out), Q2⟩
        case measure => simp [intOf]; omega
      | false =>
        rw [hmt, if_neg (by simp)] at HTK
        clear hmt
        go_wp2_with fail
        go_roundw
        case rel => exact ⟨k + 1, by omega, by go_num, (by show Own _ _ _ _; rw [HTK.out]; exact HO1.out), HB1⟩
        case measure => simp [intOf]; omega
    · rw [List.take_of_length_le (by omega)] at HO
      go_wp2
      go_ret
      exact ⟨_, rfl, HO.out.low (Nat.le_succ _), hbw.out⟩

set_option maxRecDepth 100000 in
set_option maxHeartbeats 4000000 in
theorem rowsS_any (B : Nat) (v : Value) (SL : List (Nat → Nat)) (w : World) (hS : Hid (OwnS w B v SL)) (hl : SL.length ≤ 256) (hok : Hid (∀ S ∈ SL, okS S)) (hT : Hid (Tab w)) :
    Calls Tryd.prog 68 #[v] w fun e w' => ∃ v', e = .returned v' ∧ Own2 w' w.heap.size v' (SL.map rowS) ∧ Below w.heap.size w w' := by
  obtain ⟨i1, hi, hz0, hz1, hz2⟩ := info_parts Tryd.infoInts
  obtain ⟨va, vc, hv, -, -, -⟩ := own_form2 hS.out
  subst hv
  go_enter Tryd.func68, Tryd.ntmps68
  go_wp2
  go_loopw [3, 8] (fun v3 i wr => ∃ k : Nat, k ≤ SL.length ∧ i = .int .i64 k ∧ Hid (Own2 wr w.heap.size v3 ((SL.take k).map rowS)) ∧ Hid (Below w.heap.size w wr)) (fun _ i _ => SL.length - (intOf i).toNat)
  case atStart => exact ⟨0, Nat.zero_le _, rfl, own2_nil _ _, Below.refl _ _⟩
  case round =>
    obtain ⟨k, hk, rfl, HO, HB⟩ := hrel
    by_cases hlt : k < SL.length
    · obtain ⟨S, HSk⟩ : ∃ S, Hid (SL[k]? = some S) := ⟨_, List.getElem?_eq_getElem hlt⟩
      obtain ⟨g, cap, hvg, hg1, hg2, c0, c1, c2, c3⟩ := hS.out.cell HSk.out
      cases hvg
      have d0 := (HB.out.cell (p := ⟨g, k * 4, none⟩) hg2).trans c0
      have d1 := (HB.out.cell (p := ⟨g, k * 4 + 1, none⟩) hg2).trans c1
      have d2 := (HB.out.cell (p := ⟨g, k * 4 + 2, none⟩) hg2).trans c2
      have d3 := (HB.out.cell (p := ⟨g, k * 4 + 3, none⟩) hg2).trans c3
      clear c0 c1 c2 c3
      have NB1 : Hid (SB (wr.alloc (.cells (scells S) 55)) wr.heap.size S) := Blk.new wr _ _
      obtain ⟨n0, n1, n2, n3⟩ := SB.cells NB1.out
      have okS' := hok.out S (List.mem_of_getElem? HSk.out)
      have HTK : Hid ((SL.take (k + 1)).map rowS = (SL.take k).map rowS ++ [rowS S]) := by
        show _ = _
        rw [List.take_add_one, HSk.out, List.map_append]; rfl
      have hml : ((SL.take k).map rowS).length ≤ 256 := by rw [List.length_map, List.length_take]; omega
      have hTr : Tab (wr.alloc (.cells (scells S) 55)) := hT.out.below (HB.out.alloc HB.out.size _) hT.out.lt
      have hbz := HB.out.size
      go_wp2_with fail
      refine (rowO_any S _ okS' hTr).mono ?_
      rintro e w1 ⟨v1, rfl, o1, hb1⟩
      obtain ⟨s1, q1, rfl, -, -, -, -⟩ := o1.at2
      have HI1 := Hid.of (innB_own o1)
      have HO1 : Hid (Own2 w1 w.heap.size u3 ((SL.take k).map rowS)) := (HO.out.alloc _).below hb1
      have HB1 : Hid (Below w.heap.size w w1) := (HB.out.alloc HB.out.size _).trans (hb1.mono (by rw [World.size_alloc]; omega))
      have hz1' := HB1.out.size
      clear hb1 n0 n1 n2 n3 NB1 HO HB d0 d1 d2 d3 o1 hTr
      generalize (SL.take k).map rowS = R at *
      obtain ⟨vs, ho, hin⟩ := HO1.out
      have HO2 := Hid.of ho
      have HIN := Hid.of hin
      clear ho hin
      obtain ⟨fa, fc, hfa, -, -, -⟩ := own_form2 HO2.out
      subst hfa
      go_wp2_with (at_builtin; refine wpList_append_block _ rfl (.tmp 12) (.tmp 15) 40 rfl w.heap.size 22 i1 (.slice none 0 0) 1 24 Tryd.underlying40 hi hz0 hz1 hz2 rfl (by decide) _ _ _ rfl (World.ownsRow.alloc HO2.out _) ⟨w1.heap.size, 0, none⟩ 1 1 [.slice s1 (rowS S).length q1] rfl rfl (cell_one_new _ _ _) (by intro u hu; simp at hu; subst hu; rfl) (by decide) (by unfold maxLen; omega) (by omega) (by simp; omega) ?_)
      intro v9 w9 o9 g9 n9
      have Q1 : Hid (Own2 w9 w.heap.size v9 (R ++ [rowS S])) := Own2.snoc (World.ownsRow.alloc HO2.out _) (fun j x xs h1 h2 => (HIN.out j x xs h1 h2).below ((Below.refl _ _).alloc (Nat.le_refl _) _)) (HI1.out.below ((Below.refl _ _).alloc (Nat.le_refl _) _)) o9 g9
      have Q2 : Hid (Below w.heap.size w w9) := (HB1.out.alloc HB1.out.size _).grown g9 (by simp; omega) (fun j hj => (World.ownsRow.lt HO2.out j hj).1)
      clear o9 g9 n9 HO2 HIN HI1 HO1
      go_wp2_with fail
      go_roundw
      case rel => exact ⟨k + 1, by omega, by go_num, (by show Own2 _ _ _ _; rw [HTK.out]; exact Q1.out), Q2⟩
      case measure => simp [intOf]; omega
    · rw [List.take_of_length_le (by omega)] at HO
      go_wp2
      go_ret
      exact ⟨_, rfl, HO.out, HB.out⟩

end Go.Proofs.YtcjcjaeaoianfaaDoor
namespace Go.Proofs.YtcjcjaeaoianfaaDoor
open Go.RowKit
set_option linter.unusedVariables false

set_option maxHeartbeats 400000 in
theorem cmpNaN_any (x : Int) (w : World) : Calls Tryd.prog 119 #[.int .i64 x] w fun e w' => e = .returned (.bool false) ∧ w' = w := by
  go_enter Tryd.func119, Tryd.ntmps119
  go_wp2
  go_ret
  exact ⟨rfl, rfl⟩

set_option maxHeartbeats 400000 in
theorem slNaN_any (x : Int) (w : World) : Calls Tryd.prog 90 #[.int .i64 x] w fun e w' => e = .returned (.bool false) ∧ w' = w := by
  go_enter Tryd.func90, Tryd.ntmps90
  go_wp2
  go_ret
  exact ⟨rfl, rfl⟩

def lessB (x y : Int) : Bool := decide (x < y)

set_option maxHeartbeats 400000 in
theorem less2_any (x y : Int) (w : World) : Calls Tryd.prog 89 #[.int .i64 x, .int .i64 y] w fun e w' => e = .returned (.bool (lessB x y)) ∧ w' = w := by
  go_enter Tryd.func89, Tryd.ntmps89
  go_wp2_with (go_at_call 119; refine (cmpNaN_any x _).mono ?_; rintro e w' ⟨rfl, rfl⟩)
  go_ret
  exact ⟨rfl, rfl⟩

theorem inc_at {xs : List Int} (h : Inc xs) {p q : Nat} {x y : Int} (hp : xs[p]? = some x) (hq : xs[q]? = some y) (hpq : p < q) : x < y := by
  obtain ⟨p1, p2⟩ := List.getElem?_eq_some_iff.1 hp
  obtain ⟨q1, q2⟩ := List.getElem?_eq_some_iff.1 hq
  have := List.pairwise_iff_getElem.1 h p q p1 q1 hpq
  rwa [p2, q2] at this
theorem at_of {xs : List Int} {k : Nat} {x : Int} (h : k < xs.length) (hx : Hid (x = xs[k]?.getD 0)) : xs[k]? = some x := by
  rw [hx.out, List.getElem?_eq_getElem h]; rfl
theorem bs_found {xs : List Int} {n : Int} {k : Nat} (hi : Inc xs) (hk : xs[k]? = some n) : placeI xs n = (k : Int) := by
  obtain ⟨k1, k2⟩ := List.getElem?_eq_some_iff.1 hk
  have hm : n ∈ xs := by rw [← k2]; exact List.getElem_mem k1
  obtain ⟨j, hj⟩ := placeN_mem hm
  rw [placeI_of hj]
  have h2 := placeN_some hj
  rcases Nat.lt_trichotomy j k with h | h | h
  · have := inc_at hi h2 hk h; omega
  · rw [h]
  · have := inc_at hi hk h2 h; omega
theorem bs_has {xs : List Int} {n : Int} {k : Nat} (hk : xs[k]? = some n) : hasB xs n = true := by
  obtain ⟨k1, k2⟩ := List.getElem?_eq_some_iff.1 hk
  exact (hasB_iff _ _).2 (by rw [← k2]; exact List.getElem_mem k1)
theorem bs_none {xs : List Int} {n : Int} {i j : Nat} (hij : i = j) (hl : ∀ p x, p < i → xs[p]? = some x → x < n) (hu : ∀ p x, j ≤ p → xs[p]? = some x → n ≤ x) (hi : Inc xs) (hn : xs[i]? ≠ some n) : hasB xs n = false := by
  cases h : hasB xs n with
  | false => rfl
  | true =>
    exfalso
    obtain ⟨p, hp⟩ := List.getElem?_of_mem ((hasB_iff _ _).1 h)
    rcases Nat.lt_trichotomy p i with c | c | c
    · have := hl p n c hp; omega
    · subst c; exact hn hp
    · have hlt : i < xs.length := Nat.lt_trans c (List.getElem?_eq_some_iff.1 hp).1
      have h1 := hu i _ (by omega) (List.getElem?_eq_getElem hlt)
      have h2 := inc_at hi (List.getElem?_eq_getElem hlt) hp c
      omega

set_option maxHeartbeats 1000000 in
theorem bs_some (b off cap : Nat) (xs : List Int) (n : Int) (w : World) (hl : xs.length ≤ 4611686018427387903) (hc : Cells w b off xs) (hi : Hid (Inc xs)) :
    Calls Tryd.prog 57 #[.slice (some ⟨b, off, none⟩) xs.length cap, .int .i64 n] w fun e w' => ∃ k : Nat, e = .returned (.tuple #[.int .i64 k, .bool (hasB xs n)]) ∧ (hasB xs n = true → placeI xs n = (k : Int)) ∧ w' = w := by
  go_enter Tryd.func57, Tryd.ntmps57
  go_wp2
  go_loop [7, 8] (fun vi vj => ∃ i j : Nat, i ≤ j ∧ j ≤ xs.length ∧ vi = .int .i64 i ∧ vj = .int .i64 j ∧ Hid (∀ p x, p < i → xs[p]? = some x → x < n) ∧ Hid (∀ p x, j ≤ p → xs[p]? = some x → n ≤ x)) (fun vi vj => (intOf vj).toNat - (intOf vi).toNat)
  case atStart => exact ⟨0, xs.length, Nat.zero_le _, Nat.le_refl _, rfl, rfl, fun p x h => by omega, fun p x h hx => by have := (List.getElem?_eq_some_iff.1 hx).1; omega⟩
  case round =>
    obtain ⟨i, j, hij, hj, rfl, rfl, HL, HU⟩ := hrel
    by_cases hlt : i < j
    · have hh : (i + j) / 2 < xs.length := by omega
      obtain ⟨x, HX, hcx⟩ := hc.at hh
      by_cases hx : x < n
      · have d : lessB x n = true := by simpa [lessB] using hx
        have HH : Hid (x < n) := hx
        clear hx
        go_wp2_with (go_at_call 89; refine (less2_any x n _).mono ?_; rintro e w' ⟨rfl, rfl⟩)
        go_round
        case rel =>
          refine ⟨(i + j) / 2 + 1, j, by omega, hj, by go_num, rfl, fun p y hp hy => ?_, HU⟩
          have e1 := at_of hh HX
          have e2 := HH.out
          by_cases hpq : p < (i + j) / 2
          · have := inc_at hi.out hy e1 hpq; omega
          · have : p = (i + j) / 2 := by omega
            subst this
            rw [e1] at hy; cases hy; exact e2
        case measure => simp [intOf]; omega
      · have d : lessB x n = false := by simpa [lessB] using hx
        have HH : Hid (¬ x < n) := hx
        clear hx
        go_wp2_with (go_at_call 89; refine (less2_any x n _).mono ?_; rintro e w' ⟨rfl, rfl⟩)
        go_round
        case rel =>
          refine ⟨i, (i + j) / 2, by omega, by omega, rfl, by go_num, HL, fun p y hp hy => ?_⟩
          have e1 := at_of hh HX
          have e2 := HH.out
          by_cases hpq : (i + j) / 2 < p
          · have := inc_at hi.out e1 hy hpq; omega
          · have : p = (i + j) / 2 := by omega
            subst this
            rw [e1] at hy; cases hy; omega
        case measure => simp [intOf]; omega
    · have hE : Hid (i = j) := show i = j by omega
      by_cases hil : i < xs.length
      · obtain ⟨x, HX, hcx⟩ := hc.at hil
        have HY := Hid.of (at_of hil HX)
        by_cases hx : x = n
        · subst hx
          go_wp2_with (go_at_call 90; refine (slNaN_any _ _).mono ?_; rintro e w' ⟨rfl, rfl⟩)
          go_ret2
          exact ⟨i, by rw [bs_has HY.out]; rfl, fun _ => bs_found hi.out HY.out, rfl⟩
        · have d : (x == n) = false := by simpa using hx
          have HH : Hid (¬ x = n) := hx
          clear hx
          go_wp2_with (go_at_call 90; refine (slNaN_any _ _).mono ?_; rintro e w' ⟨rfl, rfl⟩)
          go_ret2
          have hf := bs_none hE.out HL.out HU.out hi.out (by rw [HY.out]; intro h; exact HH.out (Option.some.inj h))
          exact ⟨i, by rw [hf]; rfl, fun h => (by rw [hf] at h; cases h), rfl⟩
      · have hf := Hid.of (bs_none hE.out HL.out HU.out hi.out (by rw [List.getElem?_eq_none (by omega)]; intro h; cases h))
        go_wp2
        go_ret2
        exact ⟨i, by rw [hf.out]; rfl, fun h => (by rw [hf.out] at h; cases h), rfl⟩

set_option maxHeartbeats 400000 in
theorem bs_nil (a : Option Addr) (cap : Nat) (n : Int) (w : World) :
    Calls Tryd.prog 57 #[.slice a 0 cap, .int .i64 n] w fun e w' => ∃ k : Nat, e = .returned (.tuple #[.int .i64 k, .bool (hasB [] n)]) ∧ (hasB [] n = true → placeI [] n = (k : Int)) ∧ w' = w := by
  go_enter Tryd.func57, Tryd.ntmps57
  go_wp2
  refine wp_loop_rounds 1 ?_
  rw [rounds_succ]
  go_wp2
  go_ret2
  exact ⟨0, rfl, fun h => (by cases h), rfl⟩

theorem bs_any (a : Option Addr) (cap : Nat) (xs : List Int) (n : Int) (w : World) (hs : At w a xs) (hl : xs.length ≤ 4611686018427387903) (hi : Inc xs) :
    Calls Tryd.prog 57 #[.slice a xs.length cap, .int .i64 n] w fun e w' => ∃ k : Nat, e = .returned (.tuple #[.int .i64 k, .bool (hasB xs n)]) ∧ (hasB xs n = true → placeI xs n = (k : Int)) ∧ w' = w := by
  rcases hs with rfl | ⟨b, off, rfl, -, hc⟩
  · exact bs_nil a cap n w
  · exact bs_some b off cap xs n w hl hc hi

end Go.Proofs.YtcjcjaeaoianfaaDoor
namespace Go.Proofs.YtcjcjaeaoianfaaDoor
open Go.RowKit
set_option linter.unusedVariables false

set_option maxHeartbeats 400000 in
theorem renumber_any (a : Option Addr) (len cap : Nat) (w : World) :
    Calls Tryd.prog 78 #[.slice a len cap] w fun e w' => e = .returned (.func (.func 102) #[] #[.pointer (some ⟨w.heap.size, 0, none⟩)]) ∧ w' = w.alloc (.cells #[.slice a len cap] 22) := by
  have hmf : ∀ (fn : Fn) (first cap : Array Value) (w : World), (Instr.makeFunc fn first cap).run Tryd.prog w = .ok (.func fn first cap) w := fun _ _ _ _ => rfl
  go_enter Tryd.func78, Tryd.ntmps78
  go_wp2
  go_ret
  exact ⟨rfl, rfl⟩

set_option maxHeartbeats 400000 in
theorem anew_any (B : Nat) (a : Option Addr) (cap : Nat) (xs : List Int) (n : Int) (w : World) (hb : w.cell? ⟨B, 0, none⟩ = some (.slice a xs.length cap)) (hs : Hid (At w a xs)) (hl : Hid (xs.length ≤ 4611686018427387903)) (hi : Hid (Inc xs)) :
    Calls Tryd.prog 102 #[.int .i64 n, .pointer (some ⟨B, 0, none⟩)] w fun e w' => ∃ k : Nat, e = .returned (.tuple #[.int .i64 k, .bool (hasB xs n)]) ∧ (hasB xs n = true → placeI xs n = (k : Int)) ∧ w' = w := by
  go_enter Tryd.func102, Tryd.ntmps102
  go_wp2_with (go_at_call 57; refine (bs_any a cap xs n _ hs.out hl.out hi.out).mono ?_; rintro e w' ⟨k, rfl, hk, rfl⟩)
  go_ret2
  exact ⟨k, rfl, hk, rfl⟩

theorem anew_in {xs : List Int} {n : Int} {k : Nat} (h : hasB xs n = true) (hk : hasB xs n = true → placeI xs n = (k : Int)) : 0 ≤ placeI xs n ∧ placeI xs n = (k : Int) := by
  have := hk h; omega
theorem anew_out {xs : List Int} {n : Int} (h : hasB xs n = false) : ¬ 0 ≤ placeI xs n := fun h0 => by
  have := (hasB_iff xs n).2 ((placeI_nn _ _).1 h0)
  rw [h] at this; cases this

set_option maxRecDepth 100000 in
set_option maxHeartbeats 2000000 in
theorem rowAnew_some (B : Nat) (la : Option Addr) (lc b off cap : Nat) (l ss : List Int) (w : World) (hB : B < w.heap.size) (hbx : w.cell? ⟨B, 0, none⟩ = some (.slice la l.length lc)) (hat : At w la l) (hll : l.length ≤ 4611686018427387903) (hinc : Inc l) (hl : ss.length ≤ 17592186044416) (hb : b < w.heap.size) (hc : Cells w b off ss) :
    Calls Tryd.prog 79 #[.slice (some ⟨b, off, none⟩) ss.length cap, .func (.func 102) #[] #[.pointer (some ⟨B, 0, none⟩)]] w fun e w' => GivesO w (placesL l ss) e w' := by
  obtain ⟨i0, hi, hz0, hz1, hz2⟩ := info_parts Tryd.infoInt
  have HL : Hid (l.length ≤ 4611686018427387903) := hll
  have HI : Hid (Inc l) := hinc
  have HA0 : Hid (At w la l) := hat
  clear hll hat hinc
  go_enter Tryd.func79, Tryd.ntmps79
  go_wp2
  go_loopw [5, 12] (fun v i wr => ∃ k : Nat, k ≤ ss.length ∧ i = .int .i64 k ∧ Own wr w.heap.size v (placesL l (ss.take k)) ∧ Below w.heap.size w wr) (fun _ i _ => ss.length - (intOf i).toNat)
  case atStart => exact ⟨0, Nat.zero_le _, rfl, own_nil _ _, Below.refl _ _⟩
  case round =>
    obtain ⟨k, hk, rfl, hown, hbel⟩ := hrel
    have hsz := hbel.size
    by_cases hlt : k < ss.length
    · obtain ⟨x, HX, y0⟩ := hc.at hlt
      have y0' := (hbel.cell (p := ⟨b, off + k, none⟩) hb).trans y0
      have hbx' := (hbel.cell (p := ⟨B, 0, none⟩) hB).trans hbx
      clear y0
      have hlw := placesL_len l (ss.take k)
      rw [List.length_take] at hlw
      have HN : Hid (placesL l (ss.take (k + 1)) = if 0 ≤ placeI l x then placesL l (ss.take k) ++ [placeI l x] else placesL l (ss.take k)) := placesL_take hlt HX
      have HAT : Hid (At wr la l) := HA0.out.below hbel (Nat.le_refl _)
      go_wp2_with fail
      refine (anew_any B la lc l x _ hbx' HAT HL HI).mono ?_
      rintro e w1 ⟨q, rfl, hq, rfl⟩
      by_cases d : hasB l x = true
      · obtain ⟨d1, d2⟩ := anew_in d hq
        have HR : Hid (placesL l (ss.take (k + 1)) = placesL l (ss.take k) ++ [(q : Int)]) := by show _ = _; rw [HN.out, if_pos d1, d2]
        clear HN hq d1 d2
        rw [d]
        go_wp2_with (at_builtin; refine wpList_append_own _ rfl _ _ 22 rfl w.heap.size 3 i0 (.int .i64 0) 1 8 Tryd.underlying22 hi hz0 hz1 hz2 rfl (by decide) _ _ _ rfl (World.ownsRow.alloc hown _) ⟨_, 0, none⟩ 1 1 [.int .i64 (q : Int)] rfl rfl (cell_one_new _ _ _) (by intro u hu; simp at hu; subst hu; rfl) (by unfold maxLen; omega) (by omega) (by simp; omega) ?_)
        intro v' w2 hown' hgrow _
        obtain ⟨r1, r2, -⟩ := own_snoc hown hbel (by omega) hown' hgrow
        rw [← HR.out] at r1
        clear hown' hgrow hown
        go_wp2
        go_roundw
        case rel => exact ⟨k + 1, by omega, by go_num, r1, r2⟩
        case measure => simp [intOf]; omega
      · have d : hasB l x = false := by simpa using d
        have HR : Hid (placesL l (ss.take (k + 1)) = placesL l (ss.take k)) := by show _ = _; rw [HN.out, if_neg (anew_out d)]
        clear HN hq
        have r1 := hown
        rw [← HR.out] at r1
        rw [d]
        go_wp2
        go_roundw
        case rel => exact ⟨k + 1, by omega, by go_num, r1, hbel⟩
        case measure => simp [intOf]; omega
    · rw [List.take_of_length_le (by omega)] at hown
      go_wp2
      go_ret
      exact ⟨_, rfl, hown, hbel⟩

set_option maxHeartbeats 400000 in
theorem rowAnew_nil (B : Nat) (a : Option Addr) (cap : Nat) (l : List Int) (w : World) :
    Calls Tryd.prog 79 #[.slice a 0 cap, .func (.func 102) #[] #[.pointer (some ⟨B, 0, none⟩)]] w fun e w' => GivesO w (placesL l []) e w' := by
  go_enter Tryd.func79, Tryd.ntmps79
  go_wp2
  refine wp_loop_rounds 1 ?_
  rw [rounds_succ]
  go_wp2
  go_ret
  exact ⟨_, rfl, own_nil _ _, Below.refl _ _⟩

theorem rowAnew_any (B : Nat) (la a : Option Addr) (lc cap : Nat) (l ss : List Int) (w : World) (hB : B < w.heap.size) (hbx : w.cell? ⟨B, 0, none⟩ = some (.slice la l.length lc)) (hat : At w la l) (hll : l.length ≤ 4611686018427387903) (hinc : Inc l) (hs : At w a ss) (hl : ss.length ≤ 17592186044416) :
    Calls Tryd.prog 79 #[.slice a ss.length cap, .func (.func 102) #[] #[.pointer (some ⟨B, 0, none⟩)]] w fun e w' => GivesO w (placesL l ss) e w' := by
  rcases hs with rfl | ⟨b, off, rfl, hb, hc⟩
  · exact rowAnew_nil B a cap l w
  · exact rowAnew_some B la lc b off cap l ss w hB hbx hat hll hinc hl hb hc

end Go.Proofs.YtcjcjaeaoianfaaDoor
namespace Go.Proofs.YtcjcjaeaoianfaaDoor
open Go.RowKit
set_option linter.unusedVariables false

/-- All blocks of X but b are as they were. -/
structure Kp (b : Nat) (X W : World) : Prop where
  size : X.heap.size ≤ W.heap.size
  same : ∀ k, k < X.heap.size → k ≠ b → W.heap[k]? = X.heap[k]?
theorem Kp.refl (b : Nat) (X : World) : Kp b X X := ⟨Nat.le_refl _, fun _ _ _ => rfl⟩
theorem Kp.alloc {b : Nat} {X W : World} (h : Kp b X W) (o : Obj) : Kp b X (W.alloc o) :=
  ⟨by rw [World.size_alloc]; exact Nat.le_succ_of_le h.size, fun k hk hne => (Below.heap_alloc W o k (Nat.lt_of_lt_of_le hk h.size)).trans (h.same k hk hne)⟩
theorem Kp.set {b : Nat} {X W : World} (h : Kp b X W) (j : Nat) (v : Value) : Kp b X (W.setCell ⟨b, j, none⟩ v) :=
  ⟨by simpa [World.setCell] using h.size, fun k hk hne => (Below.heap_setCell W ⟨b, j, none⟩ v k hne).trans (h.same k hk hne)⟩
theorem Kp.grown {b : Nat} {X W W' : World} {row : Option Nat} (h : Kp b X W) (g : W.grownBy W' row) (hr : ∀ k, row = some k → X.heap.size ≤ k) : Kp b X W' :=
  ⟨Nat.le_trans h.size g.size, fun k hk hne => (g.block k (Nat.lt_of_lt_of_le hk h.size) (fun e => by have := hr k e.symm; omega)).trans (h.same k hk hne)⟩
theorem Kp.blk {b k : Nat} {X W : World} {t : TypeId} {cs : Array Value} (h : Kp b X W) (hB : Blk X k t cs) (hne : k ≠ b) : Blk W k t cs := (h.same k hB.lt hne).trans hB

end Go.Proofs.YtcjcjaeaoianfaaDoor
namespace Go.Proofs.YtcjcjaeaoianfaaDoor
open Go.RowKit
set_option linter.unusedVariables false

theorem zcell_at {W : World} {b : Nat} {t : TypeId} (h : Blk W b t zcells) : W.cell? ⟨b, 0, none⟩ = some (.int .i64 0) ∧ W.cell? ⟨b, 1, none⟩ = some (.int .i64 0) ∧ W.cell? ⟨b, 2, none⟩ = some (.slice none 0 0) ∧ W.cell? ⟨b, 3, none⟩ = some (.slice none 0 0) ∧ W.cell? ⟨b, 4, none⟩ = some (.slice none 0 0) :=
  ⟨h.cell 0 rfl, h.cell 1 rfl, h.cell 2 rfl, h.cell 3 rfl, h.cell 4 rfl⟩
theorem Blk.other5 {W : World} {b b' : Nat} {t : TypeId} {cs : Array Value} (h : Blk W b t cs) (hne : b ≠ b') (v0 v1 v2 v3 v4 : Value) : Blk (((((W.setCell ⟨b', 0, none⟩ v0).setCell ⟨b', 1, none⟩ v1).setCell ⟨b', 2, none⟩ v2).setCell ⟨b', 3, none⟩ v3).setCell ⟨b', 4, none⟩ v4) b t cs :=
  ((((h.other hne v0).other hne v1).other hne v2).other hne v3).other hne v4

theorem Blk.set5 {W : World} {b : Nat} {t : TypeId} (h : Blk W b t zcells) (v0 v1 v2 v3 v4 : Value) : Blk (((((W.setCell ⟨b, 0, none⟩ v0).setCell ⟨b, 1, none⟩ v1).setCell ⟨b, 2, none⟩ v2).setCell ⟨b, 3, none⟩ v3).setCell ⟨b, 4, none⟩ v4) b t #[v0, v1, v2, v3, v4] :=
  ((((h.set 0 v0).set 1 v1).set 2 v2).set 3 v3).set 4 v4
theorem below_set5 {W V : World} {B b' : Nat} (h : Below B V W) (hb : B ≤ b') (v0 v1 v2 v3 v4 : Value) : Below B V (((((W.setCell ⟨b', 0, none⟩ v0).setCell ⟨b', 1, none⟩ v1).setCell ⟨b', 2, none⟩ v2).setCell ⟨b', 3, none⟩ v3).setCell ⟨b', 4, none⟩ v4) :=
  ((((h.setCell (p := ⟨b', 0, none⟩) hb v0).setCell (p := ⟨b', 1, none⟩) hb v1).setCell (p := ⟨b', 2, none⟩) hb v2).setCell (p := ⟨b', 3, none⟩) hb v3).setCell (p := ⟨b', 4, none⟩) hb v4
theorem results_three {fn : Func} {p u v : Tmp} (h : fn.results = #[.cell p 25, .tmp u, .tmp v]) (tmps : Array Value) (w : World) (g : Nat) (m : Mach) (l : ML) (x y : Value) (hp : tmps.getD p undef = .pointer (some ⟨g, 0, none⟩)) (hu : tmps.getD u undef = x) (hv : tmps.getD v undef = y) (hB : Blk w g 25 (mcells m l)) :
    (results fn tmps).run Tryd.prog w = .ok (.tuple #[mval m l, x, y]) w := by
  obtain ⟨x0, x1, x2, x3, x4⟩ := mcell_at hB
  have e : (results fn tmps).run Tryd.prog w = ((asAddr (tmps.getD p undef)).run Tryd.prog w).andThen fun a w₁ => ((loadVar 25 a).run Tryd.prog w₁).andThen fun r w₂ => .ok (.tuple #[r, tmps.getD u undef, tmps.getD v undef]) w₂ := by
    simp only [results, h]
    simp [Sem.run_bind, Result.andThen]
  rw [e, hp, hu, hv]
  go_simp

abbrev m0 : Mach := ⟨0, 0, [], [], []⟩
abbrev ml0 : ML := ⟨none, 0, none, 0, none, 0⟩

end Go.Proofs.YtcjcjaeaoianfaaDoor
