/-
  The walk of jalousieref2.Step.
  Plain mathematics of a machine trimmed: the states that are in both, numbered anew; it accepts the same words. No program, no model.
  Plain: the machine of two beside one another accepts a word just when each accepts what of it is its own. No program, no model.
  Plain: the machine of sets: how its sets are found, in the reference's order; what is determined. No program, no model.
  Plain: sets of bits beside the lists that they stand for. No program, no model.
  Sets of states as keys of a map.
  Plain mathematics of what a set of states leads to, in any number of steps. No program, no model.
-/
import Derived.Deep.RegionWith
import Derived.BigQuiet
import Derived.Test.YtbdkaobbfmgnhaaDoorG05
import Derived.Test.YtbdkaobbfmgnhaaDoorG14
import Derived.Test.YtbdkaobbfmgnhaaDoorG04
import Derived.DeepKeys4
import Derived.Maps.Keyed
import Derived.Carry
import Derived.Test.YtbdkaobbfmgnhaaDoorG10
import Derived.Test.YtbdkaobbfmgnhaaDoorG06
namespace Go.Proofs.YtbdkaobbfmgnhaaDoor
open Go.RowKit
set_option linter.unusedVariables false

set_option maxHeartbeats 2000000 in
set_option maxRecDepth 100000 in
theorem refStep_some (st ev : Int) (starts : List Int) (ars : List Arr) (ends : List Int) (a1 : Option Addr) (c1 b off c2 : Nat) (a3 : Option Addr) (c3 : Nat) (sa : Option Addr) (sc : Nat) (ss : List Int) (x : Int) (w : World) (hlen : ars.length ≤ 17592186044416) (hb : b < w.heap.size) (hca : CellsA w b off ars) (hs : At w sa ss) (hl : ss.length ≤ maxLen) :
    Calls Tryd.prog 53 #[mval ⟨st, ev, starts, ars, ends⟩ ⟨a1, c1, some ⟨b, off, none⟩, c2, a3, c3⟩, .slice sa ss.length sc, .int .i64 x] w fun e w' => GivesO w (stepL ars ss x) e w' := by
  obtain ⟨i0, hi, hz0, hz1, hz2⟩ := info_parts Tryd.infoInt
  go_enter Tryd.func53, Tryd.ntmps53
  go_wp2
  go_loopw [7, 8] (fun v i wr => ∃ k : Nat, k ≤ ars.length ∧ i = .int .i64 k ∧ Own wr (w.heap.size + 1) v (stepTo (ars.take k) ss x) ∧ Below (w.heap.size + 1) (w.alloc (.cells (mcells ⟨st, ev, starts, ars, ends⟩ ⟨a1, c1, some ⟨b, off, none⟩, c2, a3, c3⟩) 25)) wr) (fun _ i _ => ars.length - (intOf i).toNat)
  case atStart => exact ⟨0, Nat.zero_le _, rfl, own_nil _ _, Below.refl _ _⟩
  case round =>
    obtain ⟨k, hk, rfl, hown, hbel⟩ := hrel
    have hold := below_box hbel
    have hsz := hbel.size
    rw [World.size_alloc] at hsz
    have hbx : w.heap.size < wr.heap.size := by omega
    have hbr : b < wr.heap.size := by omega
    have hbox := (box_cells hbel).2.2.2.1
    dsimp only at hbox
    by_cases hlt : k < ars.length
    · obtain ⟨a, HA, y0, y1, y2⟩ := hca.at hlt
      have y0' := (hold.cell (p := ⟨b, off + k * 3, none⟩) hb).trans y0
      have y1' := (hold.cell (p := ⟨b, off + k * 3 + 1, none⟩) hb).trans y1
      have y2' := (hold.cell (p := ⟨b, off + k * 3 + 2, none⟩) hb).trans y2
      clear y0 y1 y2
      have hsr := hs.below hold (Nat.le_refl _)
      have hll := stepTo_len (ars.take k) ss x
      rw [List.length_take] at hll
      have HN := stepTo_take (ss := ss) (e := x) hlt HA
      by_cases c1' : a.e = x
      · have g1 : (a.e == x) = true := by simp [c1']
        have HC : Hid (a.e = x) := c1'
        clear c1'
        go_wp2_with fail
        refine (refHas_any sa sc ss a.f _ hsr hl).mono ?_
        rintro e w1 ⟨rfl, rfl⟩
        by_cases c2' : hasB ss a.f = true
        · rw [if_pos (by rw [g1, c2']; rfl)] at HN
          have HN' : Hid (stepTo (ars.take (k + 1)) ss x = stepTo (ars.take k) ss x ++ [a.t]) := HN
          clear HN
          go_wp2_with (at_builtin; refine wpList_append_own _ rfl _ _ 22 rfl (w.heap.size + 1) 3 i0 (.int .i64 0) 1 8 Tryd.underlying22 hi hz0 hz1 hz2 rfl (by decide) _ _ _ rfl (World.ownsRow.alloc hown _) ⟨w1.heap.size, 0, none⟩ 1 1 [.int .i64 a.t] rfl rfl (cell_one_new _ _ _) (by intro u hu; simp at hu; subst hu; rfl) (by unfold maxLen; omega) (by omega) (by simp; omega) ?_)
          intro v' w2 hown' hgrow _
          obtain ⟨r1, r2, -⟩ := own_snoc hown hbel (by omega) hown' hgrow
          rw [← HN'.out] at r1
          clear hown' hgrow hown
          go_wp2
          go_roundw
          case rel => exact ⟨k + 1, by omega, by go_num, r1, r2⟩
          case measure => simp [intOf]; omega
        · have c3' : hasB ss a.f = false := by simpa using c2'
          rw [if_neg (by rw [c3']; simp)] at HN
          have r1 := hown
          rw [← HN] at r1
          clear HN c2'
          go_wp2
          go_roundw
          case rel => exact ⟨k + 1, by omega, by go_num, r1, hbel⟩
          case measure => simp [intOf]; omega
      · have g1 : (a.e == x) = false := by simp [c1']
        rw [if_neg (by rw [g1]; simp)] at HN
        have r1 := hown
        rw [← HN] at r1
        clear HN
        go_wp2
        go_roundw
        case rel => exact ⟨k + 1, by omega, by go_num, r1, hbel⟩
        case measure => simp [intOf]; omega
    · have htk : Hid (ars.take k = ars) := List.take_of_length_le (by omega)
      rw [htk.out] at hown
      have hl2 := stepTo_len ars ss x
      obtain ⟨a', c', rfl, h3, l3⟩ := hown.at
      go_wp2_with fail
      refine (sorted_own a' c' (stepTo ars ss x) _ h3 (by omega)).mono ?_
      rintro e w1 ⟨v4, rfl, o4, b4⟩
      have bb : Below w.heap.size w w1 := hold.trans (b4.mono (by omega))
      go_wp2
      go_ret
      exact ⟨v4, rfl, o4.low (by omega), bb⟩

set_option maxHeartbeats 400000 in
theorem refStep_nil (st ev : Int) (starts : List Int) (ends : List Int) (l : ML) (sa : Option Addr) (sc : Nat) (ss : List Int) (x : Int) (w : World) :
    Calls Tryd.prog 53 #[mval ⟨st, ev, starts, [], ends⟩ l, .slice sa ss.length sc, .int .i64 x] w fun e w' => GivesO w [] e w' := by
  go_enter Tryd.func53, Tryd.ntmps53
  go_wp2_with fail
  refine wp_loop_rounds 1 ?_
  rw [rounds_succ]
  go_wp2_with fail
  refine (sorted_nil none 0 _).mono ?_
  rintro e w1 ⟨rfl, rfl⟩
  go_wp2
  go_ret
  exact ⟨_, rfl, own_nil _ _, (Below.refl _ _).alloc (Nat.le_refl _) _⟩

theorem refStep_own (m : Mach) (l : ML) (sa : Option Addr) (sc : Nat) (ss : List Int) (x : Int) (w : World) (ha : AtA w l.a2 m.arrows) (hlen : m.arrows.length ≤ 17592186044416) (hs : At w sa ss) (hl : ss.length ≤ maxLen) :
    Calls Tryd.prog 53 #[mval m l, .slice sa ss.length sc, .int .i64 x] w fun e w' => GivesO w (stepL m.arrows ss x) e w' := by
  obtain ⟨st, ev, starts, ars, ends⟩ := m
  obtain ⟨a1, c1, a2, c2, a3, c3⟩ := l
  rcases ha with h0 | ⟨b, off, h0, hb, hc⟩
  · have h0 : ars = [] := h0
    subst h0
    exact refStep_nil st ev starts ends _ sa sc ss x w
  · have h0 : a2 = some ⟨b, off, none⟩ := h0
    subst h0
    exact refStep_some st ev starts ars ends a1 c1 b off c2 a3 c3 sa sc ss x w hlen hb hc hs hl

end Go.Proofs.YtbdkaobbfmgnhaaDoor
namespace Go.Proofs.YtbdkaobbfmgnhaaDoor
open Go.RowKit
set_option linter.unusedVariables false

/-! Places. -/
theorem placeN_some : ∀ {l : List Int} {n : Int} {j : Nat}, placeN l n = some j → l[j]? = some n
  | [], _, _, h => by simp [placeN] at h
  | x :: r, n, j, h => by
    unfold placeN at h
    by_cases hx : x = n
    · rw [if_pos hx] at h; cases h; simp [hx]
    · rw [if_neg hx] at h
      cases hp : placeN r n with
      | none => rw [hp] at h; cases h
      | some i => rw [hp] at h; cases h; simpa using placeN_some hp
theorem placeN_mem : ∀ {l : List Int} {n : Int}, n ∈ l → ∃ j, placeN l n = some j
  | [], _, h => by simp at h
  | x :: r, n, h => by
    unfold placeN
    by_cases hx : x = n
    · exact ⟨0, by rw [if_pos hx]⟩
    · rw [if_neg hx]
      rcases List.mem_cons.1 h with h | h
      · exact absurd h.symm hx
      · obtain ⟨j, hj⟩ := placeN_mem h
        exact ⟨j + 1, by rw [hj]; rfl⟩
theorem placeI_of {l : List Int} {n : Int} {j : Nat} (h : placeN l n = some j) : placeI l n = j := by unfold placeI placeF; rw [h]; simp
theorem placeI_lt {l : List Int} {n : Int} (h : n ∈ l) : placeI l n < l.length := by
  obtain ⟨j, hj⟩ := placeN_mem h
  have := placeF_lt l n j hj
  rw [placeI_of hj]; omega
/-! Rows and arrows in order. -/
theorem rowB_iff (n : Int) (hn : n ≤ 2147483648) (l : List Int) : rowB n l = true ↔ Inc l ∧ ∀ x ∈ l, 0 ≤ x ∧ x < n := by
  unfold rowB
  rw [goIs_iff]
  constructor
  · rintro ⟨h1, h2⟩; exact ⟨h1, fun x hx => by have := h2 x hx; omega⟩
  · rintro ⟨h1, h2⟩; exact ⟨h1, fun x hx => by have := h2 x hx; omega⟩
abbrev IncA (l : List Arr) : Prop := l.Pairwise (fun a b => aheadB a b = true)
theorem aheadB_iff (a b : Arr) : aheadB a b = true ↔ a.f < b.f ∨ (a.f = b.f ∧ (a.e < b.e ∨ (a.e = b.e ∧ a.t < b.t))) := by
  unfold aheadB
  split
  · split
    · simp only [decide_eq_true_eq]; omega
    · simp only [decide_eq_true_eq]; omega
  · simp only [decide_eq_true_eq]; omega
theorem aheadB_trans {a b c : Arr} (h : aheadB a b = true) (k : aheadB b c = true) : aheadB a c = true := by
  rw [aheadB_iff] at *; omega
theorem arrsFrom_iff (st ev : Int) : ∀ (ars : List Arr) (p : Option Arr), arrsFrom st ev p ars = true ↔ (∀ a ∈ ars, arrIn st ev a) ∧ IncA ars ∧ ∀ a ∈ ars, behindB p a = true
  | [], p => by simp [arrsFrom]
  | b :: r, p => by
    unfold arrsFrom
    by_cases hc : arrIn st ev b ∧ behindB p b = true
    · rw [if_pos hc, arrsFrom_iff st ev r (some b)]
      constructor
      · rintro ⟨h1, h2, h3⟩
        refine ⟨?_, List.pairwise_cons.2 ⟨fun a ha => h3 a ha, h2⟩, ?_⟩
        · intro a ha
          rcases List.mem_cons.1 ha with rfl | ha
          · exact hc.1
          · exact h1 a ha
        · intro a ha
          rcases List.mem_cons.1 ha with rfl | ha
          · exact hc.2
          · cases p with
            | none => rfl
            | some q => exact aheadB_trans (b := b) hc.2 (h3 a ha)
      · rintro ⟨h1, h2, h3⟩
        obtain ⟨k1, k2⟩ := List.pairwise_cons.1 h2
        exact ⟨fun a ha => h1 a (by simp [ha]), k2, k1⟩
    · rw [if_neg hc]
      constructor
      · intro h; cases h
      · rintro ⟨h1, h2, h3⟩
        exact absurd ⟨h1 b (by simp), h3 b (by simp)⟩ hc
/-! What is come to, of a machine that may be. -/
theorem may_arrs {m : Mach} (hm : mayB m = true) : ∀ a ∈ m.arrows, arrIn m.st m.ev a := ((arrsFrom_iff _ _ _ _).1 (mayB_arrs hm)).1
theorem may_inc {m : Mach} (hm : mayB m = true) : IncA m.arrows := ((arrsFrom_iff _ _ _ _).1 (mayB_arrs hm)).2.1
theorem may_starts {m : Mach} (hm : mayB m = true) : Inc m.starts ∧ ∀ x ∈ m.starts, 0 ≤ x ∧ x < m.st := (rowB_iff _ (by have := mayB_size hm; unfold sizeOk at this; omega) _).1 (mayB_starts hm)
theorem may_ends {m : Mach} (hm : mayB m = true) : Inc m.ends ∧ ∀ x ∈ m.ends, 0 ≤ x ∧ x < m.st := (rowB_iff _ (by have := mayB_size hm; unfold sizeOk at this; omega) _).1 (mayB_ends hm)
theorem rch_bd {fr to : Arr → Int} {ars : List Arr} {l : List Int} {n x : Int} (hl : ∀ x ∈ l, 0 ≤ x ∧ x < n) (ha : ∀ a ∈ ars, 0 ≤ to a ∧ to a < n) (h : Rch fr to ars l x) : 0 ≤ x ∧ x < n :=
  h (fun x => 0 ≤ x ∧ x < n) ⟨hl, fun a h _ => ha a h⟩
/-! The trimmed machine may be. -/
/-! The trimmed machine accepts the same words. -/
theorem accepts_iff (m : Mach) (word : List Int) : acceptsB m word = true ↔ ∃ x ∈ afterL m.arrows m.starts word, x ∈ m.ends := by
  unfold acceptsB acceptsL
  rw [decide_eq_true_eq, List.length_pos_iff_exists_mem]
  simp only [List.mem_filter, beq_iff_eq, hasB_iff]
end Go.Proofs.YtbdkaobbfmgnhaaDoor
namespace Go.Proofs.YtbdkaobbfmgnhaaDoor
open Go.RowKit
set_option linter.unusedVariables false

/-! Places of pairs. -/
theorem findP_nth : ∀ {L : List (Int × Int)} {q : Int × Int}, q ∈ L → L[findP L q.1 q.2]? = some q
  | [], q, h => by simp at h
  | p :: r, q, h => by
    unfold findP
    by_cases hc : p.1 = q.1 ∧ p.2 = q.2
    · rw [if_pos hc]
      have : p = q := Prod.ext hc.1 hc.2
      simp [this]
    · rw [if_neg hc]
      have hq : q ∈ r := by
        rcases List.mem_cons.1 h with rfl | h
        · exact absurd ⟨rfl, rfl⟩ hc
        · exact h
      simpa using findP_nth hq
theorem findP_lt {L : List (Int × Int)} {q : Int × Int} (h : q ∈ L) : findP L q.1 q.2 < L.length := (List.getElem?_eq_some_iff.1 (findP_nth h)).1
theorem findP_new : ∀ {L : List (Int × Int)} {q : Int × Int}, findP L q.1 q.2 = L.length ↔ q ∉ L := by
  intro L q
  constructor
  · intro h hq
    have := findP_lt hq
    omega
  · intro h
    induction L with
    | nil => rfl
    | cons p r ih =>
      unfold findP
      have hc : ¬ (p.1 = q.1 ∧ p.2 = q.2) := fun hc => h (by have : p = q := Prod.ext hc.1 hc.2; simp [this])
      rw [if_neg hc, ih (fun hq => h (by simp [hq]))]; rfl
theorem findP_app : ∀ {L : List (Int × Int)} {q : Int × Int} (t : List (Int × Int)), q ∈ L → findP (L ++ t) q.1 q.2 = findP L q.1 q.2
  | [], q, t, h => by simp at h
  | p :: r, q, t, h => by
    rw [List.cons_append]
    unfold findP
    by_cases hc : p.1 = q.1 ∧ p.2 = q.2
    · rw [if_pos hc, if_pos hc]
    · have hq : q ∈ r := by
        rcases List.mem_cons.1 h with rfl | h
        · exact absurd ⟨rfl, rfl⟩ hc
        · exact h
      rw [if_neg hc, if_neg hc, findP_app t hq]
theorem findP_at : ∀ {L : List (Int × Int)} {q : Int × Int} {i : Nat}, L.Nodup → L[i]? = some q → findP L q.1 q.2 = i := by
  intro L q i hn hi
  have hm : q ∈ L := List.mem_of_getElem? hi
  have h1 := findP_nth hm
  obtain ⟨l1, e1⟩ := List.getElem?_eq_some_iff.1 h1
  obtain ⟨l2, e2⟩ := List.getElem?_eq_some_iff.1 hi
  exact (List.getElem_inj hn).1 (e1.trans e2.symm)
theorem mem_crossP (S T : List Int) (q : Int × Int) : q ∈ crossP S T ↔ q.1 ∈ S ∧ q.2 ∈ T := by
  unfold crossP
  rw [List.mem_flatMap]
  constructor
  · rintro ⟨x, hx, h⟩
    obtain ⟨y, hy, rfl⟩ := List.mem_map.1 h
    exact ⟨hx, hy⟩
  · rintro ⟨h1, h2⟩
    exact ⟨q.1, h1, List.mem_map.2 ⟨q.2, h2, rfl⟩⟩
theorem nodup_crossP : ∀ {S T : List Int}, S.Nodup → T.Nodup → (crossP S T).Nodup
  | [], T, _, _ => by simp [crossP]
  | x :: r, T, hS, hT => by
    obtain ⟨h1, h2⟩ := List.nodup_cons.1 hS
    have ih := nodup_crossP h2 hT
    show ((T.map fun y => (x, y)) ++ crossP r T).Nodup
    rw [List.nodup_append]
    refine ⟨?_, ih, ?_⟩
    · rw [List.Nodup, List.pairwise_map]
      exact hT.imp (fun h e => h (Prod.mk.inj e).2)
    · intro p hp q hq e
      subst e
      obtain ⟨y, hy, rfl⟩ := List.mem_map.1 hp
      exact h1 ((mem_crossP _ _ _).1 hq).1

/-! What has been found: the invariant. -/
/-- What is known once the pairs before k, and of pair k the events before e, and of these at e the places in Q, have been gone through. -/
structure BInv (a b : Mach) (ofA ofB : List Int) (s : BS) (D : Nat → Int → (Int × Int) → Prop) : Prop where
  nd : s.ps.Nodup
  pre : ∃ t, s.ps = crossP a.starts b.starts ++ t
  fwd : ∀ x ∈ s.ar, ∃ (i : Nat) (p q : Int × Int) (e : Int), D i e q ∧ s.ps[i]? = some p ∧ 0 ≤ e ∧ e < a.ev ∧ q ∈ leadsP a.arrows b.arrows p e (hasB ofA e) (hasB ofB e) ∧ q ∈ s.ps ∧ x = ⟨(i : Int), e, (findP s.ps q.1 q.2 : Nat)⟩
  bwd : ∀ (i : Nat) (p q : Int × Int) (e : Int), D i e q → s.ps[i]? = some p → 0 ≤ e → e < a.ev → q ∈ leadsP a.arrows b.arrows p e (hasB ofA e) (hasB ofB e) → q ∈ s.ps ∧ (⟨(i : Int), e, (findP s.ps q.1 q.2 : Nat)⟩ : Arr) ∈ s.ar
  cr : ∀ p ∈ s.ps, (0 ≤ p.1 ∧ p.1 < a.st) ∧ (0 ≤ p.2 ∧ p.2 < b.st)

theorem binv_congr {a b : Mach} {ofA ofB : List Int} {s : BS} {D D' : Nat → Int → (Int × Int) → Prop} (h : BInv a b ofA ofB s D) (hD : ∀ (i : Nat) (p q : Int × Int) (e : Int), s.ps[i]? = some p → 0 ≤ e → e < a.ev → q ∈ leadsP a.arrows b.arrows p e (hasB ofA e) (hasB ofB e) → (D i e q ↔ D' i e q)) : BInv a b ofA ofB s D' := by
  refine ⟨h.nd, h.pre, fun x hx => ?_, fun i p q e hd hp h0 h1 hq => ?_, h.cr⟩
  · obtain ⟨i, p, q, e, hd, hp, h0, h1, hq, hm, rfl⟩ := h.fwd x hx
    exact ⟨i, p, q, e, (hD i p q e hp h0 h1 hq).1 hd, hp, h0, h1, hq, hm, rfl⟩
  · exact h.bwd i p q e ((hD i p q e hp h0 h1 hq).2 hd) hp h0 h1 hq

theorem mem_leadsP (A B : List Arr) (p q : Int × Int) (e : Int) (x y : Bool) : q ∈ leadsP A B p e x y ↔ (x = true ∨ y = true) ∧ (if x = true then q.1 ∈ stepL A [p.1] e else q.1 = p.1) ∧ (if y = true then q.2 ∈ stepL B [p.2] e else q.2 = p.2) := by
  unfold leadsP
  cases x <;> cases y <;> simp [mem_crossP]
theorem leadsP_bd {a b : Mach} (ha : mayB a = true) (hb : mayB b = true) {p q : Int × Int} {e : Int} {x y : Bool} (hp : (0 ≤ p.1 ∧ p.1 < a.st) ∧ (0 ≤ p.2 ∧ p.2 < b.st)) (h : q ∈ leadsP a.arrows b.arrows p e x y) : (0 ≤ q.1 ∧ q.1 < a.st) ∧ (0 ≤ q.2 ∧ q.2 < b.st) := by
  obtain ⟨-, h1, h2⟩ := (mem_leadsP _ _ _ _ _ _ _).1 h
  refine ⟨?_, ?_⟩
  · split at h1
    · obtain ⟨c, hc, -, -, ec⟩ := (mem_stepL _ _ _ _).1 h1
      have := may_arrs ha c hc
      rw [← ec]
      exact ⟨this.2.2.1, this.2.2.2.1⟩
    · rw [h1]; exact hp.1
  · split at h2
    · obtain ⟨c, hc, -, -, ec⟩ := (mem_stepL _ _ _ _).1 h2
      have := may_arrs hb c hc
      rw [← ec]
      exact ⟨this.2.2.1, this.2.2.2.1⟩
    · rw [h2]; exact hp.2

/-- One pair more that is led to. -/
theorem binv_add {a b : Mach} (ha : mayB a = true) (hb : mayB b = true) {ofA ofB : List Int} {s : BS} {D : Nat → Int → (Int × Int) → Prop} (h : BInv a b ofA ofB s D) {k : Nat} {p q : Int × Int} {e : Int} (hp : s.ps[k]? = some p) (h0 : 0 ≤ e) (h1 : e < a.ev) (hq : q ∈ leadsP a.arrows b.arrows p e (hasB ofA e) (hasB ofB e)) (hD : ∀ i e q, D i e q → i < s.ps.length) :
    BInv a b ofA ofB (bAdd k e s q) (fun i e' q' => D i e' q' ∨ (i = k ∧ e' = e ∧ q' = q)) := by
  have hk := (List.getElem?_eq_some_iff.1 hp).1
  have hE : ∃ t, (bAdd k e s q).ps = s.ps ++ t ∧ q ∈ (bAdd k e s q).ps ∧ (bAdd k e s q).ps.Nodup ∧ (∀ r ∈ t, r = q) ∧ findP (bAdd k e s q).ps q.1 q.2 = findP s.ps q.1 q.2 := by
    unfold bAdd
    by_cases hn : findP s.ps q.1 q.2 = s.ps.length
    · have hm := findP_new.1 hn
      dsimp only
      rw [if_pos hn]
      have hnd : (s.ps ++ [q]).Nodup := by
        rw [List.nodup_append]
        exact ⟨h.nd, by simp, fun x hx y hy e => by simp at hy; subst hy; subst e; exact hm hx⟩
      refine ⟨[q], rfl, by simp, hnd, by simp, ?_⟩
      rw [hn]
      exact findP_at hnd (by simp)
    · have hm : q ∈ s.ps := Classical.byContradiction fun hc => hn (findP_new.2 hc)
      dsimp only
      rw [if_neg hn]
      exact ⟨[], by simp, hm, h.nd, by simp, rfl⟩
  obtain ⟨t, ht, hqm, hnd, htq, hf⟩ := hE
  have har : (bAdd k e s q).ar = s.ar ++ [⟨(k : Int), e, (findP s.ps q.1 q.2 : Nat)⟩] := rfl
  have hget : ∀ {i : Nat} {p' : Int × Int}, s.ps[i]? = some p' → (bAdd k e s q).ps[i]? = some p' := fun {i p'} hi => by
    rw [ht, List.getElem?_append_left (List.getElem?_eq_some_iff.1 hi).1]; exact hi
  have hback : ∀ {i : Nat} {p' : Int × Int}, i < s.ps.length → (bAdd k e s q).ps[i]? = some p' → s.ps[i]? = some p' := fun {i p'} hi hp' => by
    rw [ht, List.getElem?_append_left hi] at hp'; exact hp'
  refine ⟨hnd, ?_, ?_, ?_, ?_⟩
  · obtain ⟨u, hu⟩ := h.pre
    exact ⟨u ++ t, by rw [ht, hu, List.append_assoc]⟩
  · intro x hx
    rw [har] at hx
    rcases List.mem_append.1 hx with hx | hx
    · obtain ⟨i, p', q', e', hd, hp', h0', h1', hq', hm', rfl⟩ := h.fwd x hx
      exact ⟨i, p', q', e', .inl hd, hget hp', h0', h1', hq', by rw [ht]; simp [hm'], by rw [ht, findP_app t hm']⟩
    · have hx : x = ⟨(k : Int), e, (findP s.ps q.1 q.2 : Nat)⟩ := by simpa using hx
      exact ⟨k, p, q, e, .inr ⟨rfl, rfl, rfl⟩, hget hp, h0, h1, hq, hqm, by rw [hx, hf]⟩
  · rintro i p' q' e' (hd | ⟨rfl, rfl, rfl⟩) hp' h0' h1' hq'
    · obtain ⟨k1, k2⟩ := h.bwd i p' q' e' hd (hback (hD _ _ _ hd) hp') h0' h1' hq'
      exact ⟨by rw [ht]; simp [k1], by rw [har, ht, findP_app t k1]; simp [k2]⟩
    · exact ⟨hqm, by rw [har, hf]; simp⟩
  · intro r hr
    rw [ht] at hr
    rcases List.mem_append.1 hr with hr | hr
    · exact h.cr r hr
    · rw [htq r hr]
      exact leadsP_bd ha hb (h.cr p (List.mem_of_getElem? hp)) hq

theorem binv_fold {a b : Mach} (ha : mayB a = true) (hb : mayB b = true) {ofA ofB : List Int} {k : Nat} {p : Int × Int} {e : Int} (h0 : 0 ≤ e) (h1 : e < a.ev) : ∀ (L : List (Int × Int)) {s : BS} {D : Nat → Int → (Int × Int) → Prop}, BInv a b ofA ofB s D → s.ps[k]? = some p → (∀ q ∈ L, q ∈ leadsP a.arrows b.arrows p e (hasB ofA e) (hasB ofB e)) → (∀ i e q, D i e q → i < s.ps.length) →
    BInv a b ofA ofB (L.foldl (bAdd k e) s) (fun i e' q' => D i e' q' ∨ (i = k ∧ e' = e ∧ q' ∈ L))
  | [], s, D, h, _, _, _ => binv_congr h (fun i p q e _ _ _ _ => by simp)
  | q :: r, s, D, h, hp, hL, hD => by
    have hk := (List.getElem?_eq_some_iff.1 hp).1
    obtain ⟨t, ht, -⟩ := bAdd_ps k e s q
    have hp' : (bAdd k e s q).ps[k]? = some p := by rw [ht, List.getElem?_append_left hk]; exact hp
    have hl : s.ps.length ≤ (bAdd k e s q).ps.length := by rw [ht, List.length_append]; omega
    have h2 := binv_fold ha hb h0 h1 r (binv_add ha hb h hp h0 h1 (hL q (by simp)) hD) hp' (fun q' hq' => hL q' (by simp [hq'])) (fun i e q hd => by
      rcases hd with hd | ⟨rfl, -, -⟩
      · exact Nat.lt_of_lt_of_le (hD _ _ _ hd) hl
      · omega)
    rw [List.foldl_cons]
    refine binv_congr h2 (fun i p' q' e' _ _ _ _ => ?_)
    rw [List.mem_cons]
    constructor
    · rintro ((h | ⟨h1, h2, h3⟩) | ⟨h1, h2, h3⟩)
      · exact .inl h
      · exact .inr ⟨h1, h2, .inl h3⟩
      · exact .inr ⟨h1, h2, .inr h3⟩
    · rintro (h | ⟨h1, h2, h3 | h3⟩)
      · exact .inl (.inl h)
      · exact .inl (.inr ⟨h1, h2, h3⟩)
      · exact .inr ⟨h1, h2, h3⟩
theorem bEv_ps (a b : Mach) (ofA ofB : List Int) (k : Nat) (p : Int × Int) (s : BS) (e : Int) : ∃ t, (bEv a b ofA ofB k p s e).ps = s.ps ++ t := by
  obtain ⟨t, h, -⟩ := bFold_ps k e (leadsP a.arrows b.arrows p e (hasB ofA e) (hasB ofB e)) s
  exact ⟨t, h⟩
theorem bEvs_ps (a b : Mach) (ofA ofB : List Int) (k : Nat) (p : Int × Int) (s : BS) : ∀ n, ∃ t, (bEvs a b ofA ofB k p s n).ps = s.ps ++ t
  | 0 => ⟨[], by simp [bEvs]⟩
  | n + 1 => by
    obtain ⟨t, h⟩ := bEvs_ps a b ofA ofB k p s n
    obtain ⟨u, h'⟩ := bEv_ps a b ofA ofB k p (bEvs a b ofA ofB k p s n) (n : Int)
    exact ⟨t ++ u, by rw [bEvs_succ, h', h, List.append_assoc]⟩
theorem binv_ev {a b : Mach} (ha : mayB a = true) (hb : mayB b = true) {ofA ofB : List Int} {s : BS} {D : Nat → Int → (Int × Int) → Prop} (h : BInv a b ofA ofB s D) {k : Nat} {p : Int × Int} {e : Int} (hp : s.ps[k]? = some p) (h0 : 0 ≤ e) (h1 : e < a.ev) (hD : ∀ i e q, D i e q → i < s.ps.length) :
    BInv a b ofA ofB (bEv a b ofA ofB k p s e) (fun i e' q' => D i e' q' ∨ (i = k ∧ e' = e)) := by
  have hk := (List.getElem?_eq_some_iff.1 hp).1
  have h2 := binv_fold ha hb h0 h1 (leadsP a.arrows b.arrows p e (hasB ofA e) (hasB ofB e)) h hp (fun q hq => hq) hD
  refine binv_congr (s := bEv a b ofA ofB k p s e) h2 (fun i p' q' e' hp' _ _ hq' => ?_)
  constructor
  · rintro (h | ⟨h1, h2, -⟩)
    · exact .inl h
    · exact .inr ⟨h1, h2⟩
  · rintro (h | ⟨rfl, rfl⟩)
    · exact .inl h
    · obtain ⟨t, ht⟩ := bEv_ps a b ofA ofB i p s e'
      rw [ht, List.getElem?_append_left hk, hp] at hp'
      cases hp'
      exact .inr ⟨rfl, rfl, hq'⟩
theorem binv_evs {a b : Mach} (ha : mayB a = true) (hb : mayB b = true) {ofA ofB : List Int} {s : BS} {D : Nat → Int → (Int × Int) → Prop} (h : BInv a b ofA ofB s D) {k : Nat} {p : Int × Int} (hp : s.ps[k]? = some p) (hD : ∀ i e q, D i e q → i < s.ps.length) : ∀ n : Nat, (n : Int) ≤ a.ev →
    BInv a b ofA ofB (bEvs a b ofA ofB k p s n) (fun i e' q' => D i e' q' ∨ (i = k ∧ e' < n))
  | 0, _ => binv_congr (s := s) h (fun i p q e _ h0 _ _ => by
      constructor
      · exact .inl
      · rintro (h | ⟨-, h⟩)
        · exact h
        · omega)
  | n + 1, hn => by
    have hk := (List.getElem?_eq_some_iff.1 hp).1
    obtain ⟨t, ht⟩ := bEvs_ps a b ofA ofB k p s n
    have hp' : (bEvs a b ofA ofB k p s n).ps[k]? = some p := by rw [ht, List.getElem?_append_left hk]; exact hp
    have hl : s.ps.length ≤ (bEvs a b ofA ofB k p s n).ps.length := by rw [ht, List.length_append]; omega
    rw [bEvs_succ]
    refine binv_congr (binv_ev ha hb (binv_evs ha hb h hp hD n (by omega)) hp' (e := (n : Int)) (by omega) (by omega) (fun i e q hd => by
      rcases hd with hd | ⟨rfl, -⟩
      · exact Nat.lt_of_lt_of_le (hD _ _ _ hd) hl
      · omega)) (fun i p' q' e' _ _ _ _ => ?_)
    constructor
    · rintro ((h | ⟨h1, h2⟩) | ⟨h1, h2⟩)
      · exact .inl h
      · exact .inr ⟨h1, by omega⟩
      · exact .inr ⟨h1, by omega⟩
    · rintro (h | ⟨h1, h2⟩)
      · exact .inl (.inl h)
      · by_cases h3 : e' = n
        · exact .inr ⟨h1, h3⟩
        · exact .inl (.inr ⟨h1, by omega⟩)
theorem binv_pair {a b : Mach} (ha : mayB a = true) (hb : mayB b = true) {ofA ofB : List Int} {s : BS} {k : Nat} (h : BInv a b ofA ofB s (fun i _ _ => i < k)) (hk : k < s.ps.length) :
    BInv a b ofA ofB (bPair a b ofA ofB s k) (fun i _ _ => i < k + 1) := by
  have hz := mayB_size ha
  unfold sizeOk at hz
  have hp : s.ps[k]? = some s.ps[k] := List.getElem?_eq_getElem hk
  unfold bPair
  rw [hp, Option.getD_some]
  refine binv_congr (binv_evs ha hb h hp (fun i _ _ hi => by omega) a.ev.toNat (by omega)) (fun i p q e _ h0 h1 _ => ?_)
  constructor
  · rintro (h | ⟨h, -⟩) <;> omega
  · intro h
    by_cases h2 : i = k
    · exact .inr ⟨h2, by omega⟩
    · exact .inl (by omega)
/-- What is known of what has been found at last. -/
theorem binv_go {a b : Mach} (ha : mayB a = true) (hb : mayB b = true) {ofA ofB : List Int} : ∀ (f k : Nat) (s s' : BS), BInv a b ofA ofB s (fun i _ _ => i < k) → k ≤ s.ps.length → 300 ≤ f + k → (k = 0 ∨ s.ps.length ≤ 256) → s.ar.length ≤ 4096 → bGo a b ofA ofB f k s = some s' →
    BInv a b ofA ofB s' (fun i _ _ => i < s'.ps.length) ∧ s'.ps.length ≤ 256 ∧ s'.ar.length ≤ 4096
  | 0, k, s, s', h, hk, hf, hs, hr, e => by omega
  | f + 1, k, s, s', h, hk, hf, hs, hr, e => by
    rw [bGo] at e
    by_cases hlt : k < s.ps.length
    · rw [if_pos hlt] at e
      by_cases hB : bBig (bPair a b ofA ofB s k) = true
      · rw [if_pos hB] at e; cases e
      · rw [if_neg hB] at e
        have hn : (bPair a b ofA ofB s k).ps.length ≤ 256 ∧ (bPair a b ofA ofB s k).ar.length ≤ 4096 := by
          unfold bBig at hB
          simp only [Bool.or_eq_true, decide_eq_true_eq, not_or] at hB
          omega
        have hl : s.ps.length ≤ (bPair a b ofA ofB s k).ps.length := by
          obtain ⟨t, ht⟩ := bEvs_ps a b ofA ofB k (s.ps[k]?.getD (0, 0)) s a.ev.toNat
          unfold bPair
          rw [ht, List.length_append]; omega
        exact binv_go ha hb f (k + 1) _ s' (binv_pair ha hb h hlt) (by omega) (by omega) (.inr hn.1) hn.2 e
    · rw [if_neg hlt] at e
      cases e
      have : k = s.ps.length := by omega
      subst this
      refine ⟨h, ?_, hr⟩
      rcases hs with hs | hs <;> omega
theorem beside_inv {a b : Mach} (ha : mayB a = true) (hb : mayB b = true) {ofA ofB : List Int} {s : BS} (h : besideS a b ofA ofB = some s) : BInv a b ofA ofB s (fun i _ _ => i < s.ps.length) ∧ s.ps.length ≤ 256 ∧ s.ar.length ≤ 4096 := by
  have sa := may_starts ha
  have sb := may_starts hb
  refine binv_go ha hb 300 0 _ s ⟨nodup_crossP (inc_nodup sa.1) (inc_nodup sb.1), ⟨[], by simp⟩, fun x hx => by simp at hx, fun i p q e hd => by omega, fun p hp => ?_⟩ (by omega) (by omega) (.inl rfl) (by simp) h
  obtain ⟨h1, h2⟩ := (mem_crossP _ _ _).1 hp
  exact ⟨sa.2 _ h1, sb.2 _ h2⟩

/-! Arrows in order. -/
theorem arr_ext {x y : Arr} (h : arrEq x y) : x = y := by
  cases x; cases y; obtain ⟨h1, h2, h3⟩ := h; dsimp only at h1 h2 h3; subst h1; subst h2; subst h3; rfl
theorem mem_insA (z x : Arr) : ∀ L, z ∈ insA x L ↔ z = x ∨ z ∈ L
  | [] => by simp [insA]
  | y :: r => by
    unfold insA
    split
    · rw [List.mem_cons, mem_insA z x r, List.mem_cons]
      constructor
      · rintro (h | h | h)
        · exact .inr (.inl h)
        · exact .inl h
        · exact .inr (.inr h)
      · rintro (h | h | h)
        · exact .inr (.inl h)
        · exact .inl h
        · exact .inr (.inr h)
    · split
      · rename_i h
        have := arr_ext h
        subst this
        simp
      · simp
theorem inc_insA (x : Arr) : ∀ {L : List Arr}, IncA L → IncA (insA x L)
  | [], _ => by simp [insA, IncA]
  | y :: r, h => by
    obtain ⟨h1, h2⟩ := List.pairwise_cons.1 h
    unfold insA
    split
    · rename_i hy
      refine List.pairwise_cons.2 ⟨fun z hz => ?_, inc_insA x h2⟩
      rcases (mem_insA z x r).1 hz with rfl | hz
      · exact hy
      · exact h1 z hz
    · rename_i hy
      split
      · exact h
      · rename_i he
        have hx : aheadB x y = true := by
          rw [aheadB_iff] at hy ⊢
          unfold arrEq at he
          omega
        refine List.pairwise_cons.2 ⟨fun z hz => ?_, h⟩
        rcases List.mem_cons.1 hz with rfl | hz
        · exact hx
        · exact aheadB_trans hx (h1 z hz)
theorem srtA_both : ∀ (l o : List Arr), IncA o → IncA (l.foldl (fun out x => insA x out) o) ∧ ∀ z, z ∈ l.foldl (fun out x => insA x out) o ↔ z ∈ o ∨ z ∈ l
  | [], o, h => ⟨h, fun z => by simp⟩
  | x :: r, o, h => by
    obtain ⟨k1, k2⟩ := srtA_both r (insA x o) (inc_insA x h)
    refine ⟨k1, fun z => ?_⟩
    rw [List.foldl_cons, k2 z, mem_insA, List.mem_cons]
    constructor
    · rintro ((h | h) | h)
      · exact .inr (.inl h)
      · exact .inl h
      · exact .inr (.inr h)
    · rintro (h | h | h)
      · exact .inl (.inr h)
      · exact .inl (.inl h)
      · exact .inr h
theorem inc_srtA (l : List Arr) : IncA (srtA l) := (srtA_both l [] (by simp [IncA])).1
theorem mem_srtA (l : List Arr) (z : Arr) : z ∈ srtA l ↔ z ∈ l := by rw [show (z ∈ srtA l ↔ _) from (srtA_both l [] (by simp [IncA])).2 z]; simp

/-! The machine of both may be. -/
theorem mem_rngI (n : Nat) (x : Int) : x ∈ rngI n ↔ 0 ≤ x ∧ x < n := by
  unfold rngI
  rw [List.mem_map]
  constructor
  · rintro ⟨k, hk, rfl⟩
    have := List.mem_range.1 hk
    omega
  · rintro ⟨h1, h2⟩
    exact ⟨x.toNat, List.mem_range.2 (by omega), by omega⟩
theorem inc_rngI : ∀ n, Inc (rngI n)
  | 0 => by simp [rngI, Inc]
  | n + 1 => by
    rw [rngI_succ]
    refine List.pairwise_append.2 ⟨inc_rngI n, by simp, fun x hx y hy => ?_⟩
    have h1 := (mem_rngI n x).1 hx
    have h2 : y = n := by simpa using hy
    omega
theorem mem_endsP (a b : Mach) (L : List (Int × Int)) (x : Int) : x ∈ endsP a b L L.length ↔ ∃ (i : Nat) (p : Int × Int), L[i]? = some p ∧ x = i ∧ p.1 ∈ a.ends ∧ p.2 ∈ b.ends := by
  unfold endsP
  rw [List.mem_filter, mem_rngI, Bool.and_eq_true, hasB_iff, hasB_iff]
  constructor
  · rintro ⟨⟨h1, h2⟩, h3, h4⟩
    have hl : x.toNat < L.length := by omega
    refine ⟨x.toNat, L[x.toNat], List.getElem?_eq_getElem hl, by omega, ?_, ?_⟩
    · rwa [List.getElem?_eq_getElem hl, Option.getD_some] at h3
    · rwa [List.getElem?_eq_getElem hl, Option.getD_some] at h4
  · rintro ⟨i, p, hp, rfl, h3, h4⟩
    have hl := (List.getElem?_eq_some_iff.1 hp).1
    rw [Int.toNat_natCast, hp, Option.getD_some]
    exact ⟨⟨by omega, by omega⟩, h3, h4⟩
theorem may_beside {a b : Mach} (ha : mayB a = true) (hb : mayB b = true) {ofA ofB : List Int} {s : BS} (h : besideS a b ofA ofB = some s) : mayB (besideM a b s) = true := by
  obtain ⟨hI, h1, h2⟩ := beside_inv ha hb h
  have hz := mayB_size ha
  unfold sizeOk at hz
  have hst : 1 ≤ (besideM a b s).st ∧ (besideM a b s).st ≤ 256 ∧ (s.ps.length : Int) ≤ (besideM a b s).st := by
    unfold besideM; dsimp only; split <;> omega
  rw [mayB_go ⟨hst.1, hst.2.1, hz.2.2.1, hz.2.2.2.1, Nat.le_trans (srtA_len _) h2⟩ ((rowB_iff _ (by omega) _).2 ⟨inc_rngI _, fun x hx => ?_⟩) ((rowB_iff _ (by omega) _).2 ⟨(inc_rngI _).filter _, fun x hx => ?_⟩)]
  · rw [arrsFrom_iff]
    refine ⟨fun x hx => ?_, inc_srtA _, fun _ _ => rfl⟩
    obtain ⟨i, p, q, e, -, hp, h0, h1, hq, hm, rfl⟩ := hI.fwd x ((mem_srtA _ _).1 hx)
    have hi := (List.getElem?_eq_some_iff.1 hp).1
    have hj := findP_lt hm
    exact ⟨by dsimp only; omega, by dsimp only; omega, by dsimp only; omega, by dsimp only; omega, h0, h1⟩
  · have h3 := (mem_rngI _ x).1 hx
    obtain ⟨t, ht⟩ := hI.pre
    have : (crossP a.starts b.starts).length ≤ s.ps.length := by rw [ht, List.length_append]; omega
    omega
  · have h3 := (mem_rngI _ x).1 (List.mem_filter.1 hx).1
    omega

/-! Words. -/
structure Sim (s : BS) (ss sa sb : List Int) : Prop where
  mem : ∀ x, x ∈ ss ↔ ∃ (i : Nat) (p : Int × Int), s.ps[i]? = some p ∧ x = i ∧ p.1 ∈ sa ∧ p.2 ∈ sb
  all : ∀ x ∈ sa, ∀ y ∈ sb, (x, y) ∈ s.ps
theorem step_one {ars : List Arr} {l : List Int} {x y e : Int} (hx : x ∈ l) (h : y ∈ stepL ars [x] e) : y ∈ stepL ars l e := by
  obtain ⟨c, hc, h1, h2, h3⟩ := (mem_stepL _ _ _ _).1 h
  have : c.f = x := by simpa using h2
  exact (mem_stepL _ _ _ _).2 ⟨c, hc, h1, by rw [this]; exact hx, h3⟩
theorem step_of {ars : List Arr} {l : List Int} {y e : Int} (h : y ∈ stepL ars l e) : ∃ x ∈ l, y ∈ stepL ars [x] e := by
  obtain ⟨c, hc, h1, h2, h3⟩ := (mem_stepL _ _ _ _).1 h
  exact ⟨c.f, h2, (mem_stepL _ _ _ _).2 ⟨c, hc, h1, by simp, h3⟩⟩
theorem half_of {ars : List Arr} {l : List Int} {y e : Int} {x : Bool} (h : y ∈ (if x = true then stepL ars l e else l)) : ∃ z ∈ l, (if x = true then y ∈ stepL ars [z] e else y = z) := by
  cases x with
  | true => exact step_of h
  | false => exact ⟨y, h, rfl⟩
theorem half_one {ars : List Arr} {l : List Int} {y z e : Int} {x : Bool} (hz : z ∈ l) (h : if x = true then y ∈ stepL ars [z] e else y = z) : y ∈ (if x = true then stepL ars l e else l) := by
  cases x with
  | true => exact step_one hz h
  | false => have : y = z := h; subst this; exact hz
theorem sim_step {a b : Mach} {ofA ofB : List Int} {s : BS} (hI : BInv a b ofA ofB s (fun i _ _ => i < s.ps.length)) {ss sa sb : List Int} (h : Sim s ss sa sb) {e : Int} (h0 : 0 ≤ e) (h1 : e < a.ev) (ho : hasB ofA e = true ∨ hasB ofB e = true) :
    Sim s (stepL (besideM a b s).arrows ss e) (if hasB ofA e = true then stepL a.arrows sa e else sa) (if hasB ofB e = true then stepL b.arrows sb e else sb) := by
  have hK : ∀ x y, x ∈ (if hasB ofA e = true then stepL a.arrows sa e else sa) → y ∈ (if hasB ofB e = true then stepL b.arrows sb e else sb) → ∃ (j : Nat) (p : Int × Int), s.ps[j]? = some p ∧ p.1 ∈ sa ∧ p.2 ∈ sb ∧ (x, y) ∈ leadsP a.arrows b.arrows p e (hasB ofA e) (hasB ofB e) := by
    intro x y hx hy
    obtain ⟨u, hu, hu'⟩ := half_of hx
    obtain ⟨v, hv, hv'⟩ := half_of hy
    obtain ⟨j, hj⟩ := List.getElem?_of_mem (h.all u hu v hv)
    exact ⟨j, (u, v), hj, hu, hv, (mem_leadsP _ _ _ _ _ _ _).2 ⟨ho, hu', hv'⟩⟩
  refine ⟨fun x => ?_, fun x hx y hy => ?_⟩
  · rw [mem_stepL]
    show (∃ c ∈ srtA s.ar, _) ↔ _
    constructor
    · rintro ⟨c, hc, k1, k2, k3⟩
      obtain ⟨i, p, q, e', -, hp, -, -, hq, hm, rfl⟩ := hI.fwd c ((mem_srtA _ _).1 hc)
      dsimp only at k1 k2 k3
      subst k1
      obtain ⟨i', p', hp', hi, hA, hB⟩ := (h.mem _).1 k2
      have : i = i' := by omega
      subst this
      rw [hp] at hp'
      cases hp'
      obtain ⟨-, q1, q2⟩ := (mem_leadsP _ _ _ _ _ _ _).1 hq
      exact ⟨_, q, findP_nth hm, k3.symm, half_one hA q1, half_one hB q2⟩
    · rintro ⟨i, q, hq, rfl, hA, hB⟩
      obtain ⟨j, p, hp, pA, pB, hl⟩ := hK _ _ hA hB
      obtain ⟨k1, k2⟩ := hI.bwd j p q e (List.getElem?_eq_some_iff.1 hp).1 hp h0 h1 hl
      exact ⟨_, (mem_srtA _ _).2 k2, rfl, (h.mem _).2 ⟨j, p, hp, rfl, pA, pB⟩, by dsimp only; rw [findP_at hI.nd hq]⟩
  · obtain ⟨j, p, hp, pA, pB, hl⟩ := hK _ _ hx hy
    exact (hI.bwd j p (x, y) e (List.getElem?_eq_some_iff.1 hp).1 hp h0 h1 hl).1
theorem sim_none {a b : Mach} {ofA ofB : List Int} {s : BS} (hI : BInv a b ofA ofB s (fun i _ _ => i < s.ps.length)) (ss : List Int) {e : Int} (ho : ¬ (hasB ofA e = true ∨ hasB ofB e = true)) : stepL (besideM a b s).arrows ss e = [] := by
  refine List.eq_nil_iff_forall_not_mem.2 fun x hx => ?_
  obtain ⟨c, hc, k1, -, -⟩ := (mem_stepL _ _ _ _).1 hx
  obtain ⟨i, p, q, e', -, hp, -, -, hq, hm, rfl⟩ := hI.fwd c ((mem_srtA _ _).1 hc)
  dsimp only at k1
  subst k1
  exact ho ((mem_leadsP _ _ _ _ _ _ _).1 hq).1
/-- What of a word is of some events. -/
abbrev ownW (l word : List Int) : List Int := word.filter fun e => hasB l e
theorem afterL_own (ars : List Arr) (l ss : List Int) (e : Int) (r : List Int) : afterL ars ss (ownW l (e :: r)) = afterL ars (if hasB l e = true then stepL ars ss e else ss) (ownW l r) := by
  cases h : hasB l e
  · rw [if_neg (by simp)]
    simp [ownW, h]
  · rw [if_pos rfl]
    simp [ownW, h, afterL]
theorem sim_after {a b : Mach} {ofA ofB : List Int} {s : BS} (hI : BInv a b ofA ofB s (fun i _ _ => i < s.ps.length)) : ∀ (word : List Int) {ss sa sb : List Int}, Sim s ss sa sb → (∀ e ∈ word, 0 ≤ e ∧ e < a.ev) → (∀ e ∈ word, hasB ofA e = true ∨ hasB ofB e = true) →
    Sim s (afterL (besideM a b s).arrows ss word) (afterL a.arrows sa (ownW ofA word)) (afterL b.arrows sb (ownW ofB word))
  | [], _, _, _, h, _, _ => h
  | e :: r, ss, sa, sb, h, hw, ho => by
    rw [afterL_own, afterL_own]
    exact sim_after hI r (sim_step hI h (hw e (by simp)).1 (hw e (by simp)).2 (ho e (by simp))) (fun e' he' => hw e' (by simp [he'])) (fun e' he' => ho e' (by simp [he']))
theorem sim_stop {a b : Mach} {ofA ofB : List Int} {s : BS} (hI : BInv a b ofA ofB s (fun i _ _ => i < s.ps.length)) : ∀ (word : List Int) (ss : List Int), (∃ e ∈ word, ¬ (hasB ofA e = true ∨ hasB ofB e = true)) → afterL (besideM a b s).arrows ss word = []
  | [], _, h => by obtain ⟨e, he, -⟩ := h; simp at he
  | e :: r, ss, h => by
    show afterL _ (stepL _ ss e) r = []
    by_cases ho : hasB ofA e = true ∨ hasB ofB e = true
    · obtain ⟨e', he', hn⟩ := h
      rcases List.mem_cons.1 he' with rfl | he'
      · exact absurd ho hn
      · exact sim_stop hI r _ ⟨e', he', hn⟩
    · rw [sim_none hI ss ho, afterL_nil]
/-- D3. -/
theorem beside_accepts {a b : Mach} (ha : mayB a = true) (hb : mayB b = true) {ofA ofB : List Int} {s : BS} (h : besideS a b ofA ofB = some s) (word : List Int) (hw : ∀ e ∈ word, 0 ≤ e ∧ e < a.ev) :
    acceptsB (besideM a b s) word = (word.all (fun e => hasB ofA e || hasB ofB e) && (acceptsB a (ownW ofA word) && acceptsB b (ownW ofB word))) := by
  obtain ⟨hI, -, -⟩ := beside_inv ha hb h
  rw [Bool.eq_iff_iff, accepts_iff, Bool.and_eq_true, Bool.and_eq_true, accepts_iff, accepts_iff, List.all_eq_true]
  by_cases ho : ∀ e ∈ word, hasB ofA e = true ∨ hasB ofB e = true
  · have h0 : Sim s (besideM a b s).starts a.starts b.starts := by
      obtain ⟨t, ht⟩ := hI.pre
      refine ⟨fun x => ?_, fun x hx y hy => by rw [ht]; exact List.mem_append_left _ ((mem_crossP _ _ _).2 ⟨hx, hy⟩)⟩
      show x ∈ rngI _ ↔ _
      rw [mem_rngI]
      constructor
      · rintro ⟨k1, k2⟩
        have hl : x.toNat < (crossP a.starts b.starts).length := by omega
        have hg : (crossP a.starts b.starts)[x.toNat]? = some (crossP a.starts b.starts)[x.toNat] := List.getElem?_eq_getElem hl
        obtain ⟨m1, m2⟩ := (mem_crossP _ _ _).1 (List.mem_of_getElem? hg)
        exact ⟨x.toNat, _, by rw [ht, List.getElem?_append_left hl]; exact hg, by omega, m1, m2⟩
      · rintro ⟨i, p, hp, rfl, hA, hB⟩
        have hm : p ∈ crossP a.starts b.starts := (mem_crossP _ _ _).2 ⟨hA, hB⟩
        have h1 := findP_at hI.nd hp
        rw [ht, findP_app t hm] at h1
        have := findP_lt hm
        omega
    have h1 := sim_after hI word h0 hw ho
    constructor
    · rintro ⟨x, hx, he⟩
      obtain ⟨i, p, hp, rfl, hA, hB⟩ := (h1.mem x).1 hx
      obtain ⟨j, p', hp', hj, eA, eB⟩ := (mem_endsP _ _ _ _).1 he
      have : i = j := by omega
      subst this
      rw [hp] at hp'
      cases hp'
      exact ⟨fun e he => by simpa using ho e he, ⟨_, hA, eA⟩, ⟨_, hB, eB⟩⟩
    · rintro ⟨-, ⟨x, hx, ex⟩, ⟨y, hy, ey⟩⟩
      obtain ⟨i, hi⟩ := List.getElem?_of_mem (h1.all x hx y hy)
      exact ⟨(i : Int), (h1.mem _).2 ⟨i, (x, y), hi, rfl, hx, hy⟩, (mem_endsP _ _ _ _).2 ⟨i, (x, y), hi, rfl, ex, ey⟩⟩
  · have hE : ∃ e ∈ word, ¬ (hasB ofA e = true ∨ hasB ofB e = true) := by
      refine Classical.byContradiction fun hc => ho fun e he => Classical.byContradiction fun hn => hc ⟨e, he, hn⟩
    rw [sim_stop hI word _ hE]
    constructor
    · rintro ⟨x, hx, -⟩; simp at hx
    · rintro ⟨h1, -⟩
      exact absurd (fun e he => by simpa using h1 e he) ho

end Go.Proofs.YtbdkaobbfmgnhaaDoor
namespace Go.Proofs.YtbdkaobbfmgnhaaDoor
open Go.RowKit
set_option linter.unusedVariables false

/-- A set's place; as many as there are: it is new. -/
def findL : List (List Int) → List Int → Nat
  | [], _ => 0
  | a :: r, s => if a = s then 0 else findL r s + 1
theorem findL_le : ∀ (L : List (List Int)) (s : List Int), findL L s ≤ L.length
  | [], _ => Nat.le_refl _
  | a :: r, s => by
    have := findL_le r s
    unfold findL; split <;> simp <;> omega
theorem findL_get : ∀ {L : List (List Int)} {s : List Int}, findL L s < L.length → L[findL L s]? = some s
  | [], _, h => by simp [findL] at h
  | a :: r, s, h => by
    unfold findL at h ⊢
    by_cases e : a = s
    · rw [if_pos e]; simp [e]
    · rw [if_neg e] at h ⊢
      have : findL r s < r.length := by simp at h; omega
      simpa using findL_get this
theorem findL_new : ∀ {L : List (List Int)} {s : List Int}, findL L s = L.length ↔ s ∉ L
  | [], s => by simp [findL]
  | a :: r, s => by
    unfold findL
    by_cases e : a = s
    · rw [if_pos e]; simp [e]
    · rw [if_neg e]
      have := findL_new (L := r) (s := s)
      simp only [List.length_cons, Nat.add_right_cancel_iff, List.mem_cons, not_or]
      rw [this]
      exact ⟨fun h => ⟨fun h' => e h'.symm, h⟩, fun h => h.2⟩
theorem findL_at : ∀ {L : List (List Int)} {k : Nat} {s : List Int}, L.Nodup → L[k]? = some s → findL L s = k
  | [], k, s, _, h => by simp at h
  | a :: r, 0, s, _, h => by
    have : a = s := by simpa using h
    simp [findL, this]
  | a :: r, k + 1, s, hn, h => by
    have h : r[k]? = some s := by simpa using h
    have h1 : a ≠ s := fun e => (List.nodup_cons.1 hn).1 (by rw [e]; exact List.mem_of_getElem? h)
    unfold findL
    rw [if_neg h1, findL_at (List.nodup_cons.1 hn).2 h]

/-- What has been found: the sets, the arrows. -/
structure DS where
  sets : List (List Int)
  ar : List Arr
/-- One event more, at the set k. -/
def dStep (ars : List Arr) (k : Nat) (s : DS) (e : Nat) : DS :=
  ⟨if findL s.sets (stepL ars (s.sets[k]?.getD []) (e : Int)) = s.sets.length then s.sets ++ [stepL ars (s.sets[k]?.getD []) (e : Int)] else s.sets, s.ar ++ [⟨(k : Int), (e : Int), (findL s.sets (stepL ars (s.sets[k]?.getD []) (e : Int)) : Nat)⟩]⟩
def dRow (ars : List Arr) (k : Nat) (s : DS) (n : Nat) : DS := (List.range n).foldl (dStep ars k) s
theorem dRow_zero (ars : List Arr) (k : Nat) (s : DS) : dRow ars k s 0 = s := rfl
theorem dRow_succ (ars : List Arr) (k : Nat) (s : DS) (n : Nat) : dRow ars k s (n + 1) = dStep ars k (dRow ars k s n) n := by
  unfold dRow; rw [List.range_succ, List.foldl_append]; rfl
def dGo (ars : List Arr) (ev : Nat) : Nat → Nat → DS → Option DS
  | 0, _, s => some s
  | f + 1, k, s => if k < s.sets.length then (if 256 < (dRow ars k s ev).sets.length then none else dGo ars ev f (k + 1) (dRow ars k s ev)) else some s
def detS (m : Mach) : Option DS := dGo m.arrows m.ev.toNat 257 0 ⟨[m.starts], []⟩
/-- The numbers of the sets that have an end. -/
def endsFrom (ends : List Int) : Nat → List (List Int) → List Int
  | _, [] => []
  | k, a :: r => if 0 < (a.filter fun n => hasB ends n == true).length then (k : Int) :: endsFrom ends (k + 1) r else endsFrom ends (k + 1) r
theorem endsFrom_cons (ends : List Int) (k : Nat) (a : List Int) (r : List (List Int)) : endsFrom ends k (a :: r) = if 0 < (a.filter fun n => hasB ends n == true).length then (k : Int) :: endsFrom ends (k + 1) r else endsFrom ends (k + 1) r := rfl
def endsD (ends : List Int) (sets : List (List Int)) : List Int := endsFrom ends 0 sets
def detM (m : Mach) (s : DS) : Mach := ⟨s.sets.length, m.ev, [0], s.ar, endsD m.ends s.sets⟩

theorem endsFrom_snoc (ends : List Int) : ∀ (L : List (List Int)) (k : Nat) (a : List Int), endsFrom ends k (L ++ [a]) = endsFrom ends k L ++ (if 0 < (a.filter fun n => hasB ends n == true).length then [((k + L.length : Nat) : Int)] else [])
  | [], k, a => by simp only [List.nil_append, endsFrom, List.length_nil, Nat.add_zero]
  | b :: r, k, a => by
    rw [List.cons_append]
    unfold endsFrom
    rw [endsFrom_snoc ends r (k + 1) a, List.length_cons, show k + 1 + r.length = k + (r.length + 1) by omega]
    by_cases h : 0 < (b.filter fun n => hasB ends n == true).length
    · rw [if_pos h, if_pos h, List.cons_append]
    · rw [if_neg h, if_neg h]
theorem endsD_take {ends : List Int} {L : List (List Int)} {k : Nat} {a : List Int} (h : L[k]? = some a) : endsD ends (L.take (k + 1)) = if 0 < (a.filter fun n => hasB ends n == true).length then endsD ends (L.take k) ++ [(k : Int)] else endsD ends (L.take k) := by
  have hk := (List.getElem?_eq_some_iff.1 h).1
  have e : L.take (k + 1) = L.take k ++ [a] := by rw [List.take_add_one, h]; rfl
  unfold endsD
  rw [e, endsFrom_snoc, List.length_take, Nat.min_eq_left (by omega), Nat.zero_add]
  split
  · rfl
  · rw [List.append_nil]
theorem endsFrom_len (ends : List Int) : ∀ (k : Nat) (L : List (List Int)), (endsFrom ends k L).length ≤ L.length
  | _, [] => Nat.le_refl _
  | k, a :: r => by
    have := endsFrom_len ends (k + 1) r
    unfold endsFrom; split <;> simp <;> omega
theorem mem_endsFrom (ends : List Int) : ∀ (L : List (List Int)) (k : Nat) (x : Int), x ∈ endsFrom ends k L ↔ ∃ j a, L[j]? = some a ∧ x = ((k + j : Nat) : Int) ∧ ∃ y ∈ a, y ∈ ends
  | [], k, x => by simp [endsFrom]
  | b :: r, k, x => by
    have hpos : 0 < (b.filter fun n => hasB ends n == true).length ↔ ∃ y ∈ b, y ∈ ends := by
      rw [List.length_pos_iff_exists_mem]
      constructor
      · rintro ⟨y, hy⟩
        obtain ⟨h1, h2⟩ := List.mem_filter.1 hy
        exact ⟨y, h1, (hasB_iff _ _).1 (by simpa using h2)⟩
      · rintro ⟨y, h1, h2⟩
        exact ⟨y, List.mem_filter.2 ⟨h1, by simpa using (hasB_iff _ _).2 h2⟩⟩
    have ih := mem_endsFrom ends r (k + 1) x
    have hr : (∃ j a, (b :: r)[j]? = some a ∧ x = ((k + j : Nat) : Int) ∧ ∃ y ∈ a, y ∈ ends) ↔ (x = (k : Int) ∧ ∃ y ∈ b, y ∈ ends) ∨ (∃ j a, r[j]? = some a ∧ x = ((k + 1 + j : Nat) : Int) ∧ ∃ y ∈ a, y ∈ ends) := by
      constructor
      · rintro ⟨j, a, h1, h2, h3⟩
        rcases j with _ | j
        · have e : b = a := by simpa using h1
          subst e
          exact .inl ⟨by simpa using h2, h3⟩
        · exact .inr ⟨j, a, by simpa using h1, by rw [h2]; congr 1; omega, h3⟩
      · rintro (⟨h1, h2⟩ | ⟨j, a, h1, h2, h3⟩)
        · exact ⟨0, b, rfl, by simpa using h1, h2⟩
        · exact ⟨j + 1, a, by simpa using h1, by rw [h2]; congr 1; omega, h3⟩
    rw [hr, ← ih, endsFrom_cons]
    by_cases h : 0 < (b.filter fun n => hasB ends n == true).length
    · rw [if_pos h, List.mem_cons]
      have := hpos.1 h
      constructor
      · rintro (h1 | h1)
        · exact .inl ⟨h1, this⟩
        · exact .inr h1
      · rintro (h1 | h1)
        · exact .inl h1.1
        · exact .inr h1
    · rw [if_neg h]
      constructor
      · exact .inr
      · rintro (h1 | h1)
        · exact absurd (hpos.2 h1.2) h
        · exact h1
theorem inc_endsFrom (ends : List Int) : ∀ (L : List (List Int)) (k : Nat), Inc (endsFrom ends k L)
  | [], k => by simp [endsFrom, Inc]
  | b :: r, k => by
    unfold endsFrom
    split
    · rw [Inc, List.pairwise_cons]
      refine ⟨fun x hx => ?_, inc_endsFrom ends r (k + 1)⟩
      obtain ⟨j, a, -, h2, -⟩ := (mem_endsFrom ends r (k + 1) x).1 hx
      omega
    · exact inc_endsFrom ends r (k + 1)

/-! What is found only grows. -/
theorem dStep_pre (ars : List Arr) (k : Nat) (s : DS) (e : Nat) : ∃ t, (dStep ars k s e).sets = s.sets ++ t ∧ t.length ≤ 1 := by
  unfold dStep
  dsimp only
  split
  · exact ⟨_, rfl, by simp⟩
  · exact ⟨[], by simp, by simp⟩
theorem dRow_pre (ars : List Arr) (k : Nat) (s : DS) : ∀ n, ∃ t, (dRow ars k s n).sets = s.sets ++ t ∧ t.length ≤ n
  | 0 => ⟨[], by simp [dRow_zero], by simp⟩
  | n + 1 => by
    obtain ⟨t, h1, h2⟩ := dRow_pre ars k s n
    obtain ⟨u, h3, h4⟩ := dStep_pre ars k (dRow ars k s n) n
    exact ⟨t ++ u, by rw [dRow_succ, h3, h1, List.append_assoc], by rw [List.length_append]; omega⟩
theorem dRow_mono (ars : List Arr) (k : Nat) (s : DS) (n : Nat) : ∀ j, (dRow ars k s n).sets.length ≤ (dRow ars k s (n + j)).sets.length
  | 0 => Nat.le_refl _
  | j + 1 => by
    have := dRow_mono ars k s n j
    obtain ⟨u, h3, h4⟩ := dStep_pre ars k (dRow ars k s (n + j)) (n + j)
    rw [← Nat.add_assoc, dRow_succ, h3, List.length_append]; omega
theorem dGo_none {ars : List Arr} {ev f k : Nat} {s : DS} (hk : k < s.sets.length) (hB : 256 < (dRow ars k s ev).sets.length) (hf : 0 < f) : dGo ars ev f k s = none := by
  obtain ⟨g, rfl⟩ : ∃ g, f = g + 1 := ⟨f - 1, by omega⟩
  rw [dGo, if_pos hk, if_pos hB]
theorem dGo_next {ars : List Arr} {ev f k : Nat} {s : DS} (hk : k < s.sets.length) (hB : ¬ 256 < (dRow ars k s ev).sets.length) (hf : 0 < f) : dGo ars ev f k s = dGo ars ev (f - 1) (k + 1) (dRow ars k s ev) := by
  obtain ⟨g, rfl⟩ : ∃ g, f = g + 1 := ⟨f - 1, by omega⟩
  rw [dGo, if_pos hk, if_neg hB]; rfl
theorem dGo_end {ars : List Arr} {ev f k : Nat} {s : DS} (hk : ¬ k < s.sets.length) : dGo ars ev f k s = some s := by
  cases f with
  | zero => rfl
  | succ g => rw [dGo, if_neg hk]

/-! What holds of what is found. -/
structure DI (m : Mach) (ev : Nat) (n : Nat) (s : DS) : Prop where
  nd : s.sets.Nodup
  hd : s.sets[0]? = some m.starts
  inc : ∀ l ∈ s.sets, Inc l ∧ ∀ x ∈ l, 0 ≤ x ∧ x < m.st
  len : s.ar.length = n
  ar : ∀ i, i < n → ∃ f e t : Nat, ∃ l, s.ar[i]? = some ⟨(f : Int), (e : Int), (t : Int)⟩ ∧ f * ev + e = i ∧ e < ev ∧ s.sets[f]? = some l ∧ s.sets[t]? = some (stepL m.arrows l (e : Int))
theorem DI.pos {m : Mach} {ev n : Nat} {s : DS} (h : DI m ev n s) : 0 < s.sets.length := (List.getElem?_eq_some_iff.1 h.hd).1
theorem stepIn {m : Mach} (hm : mayB m = true) (ss : List Int) (e : Int) : Inc (stepL m.arrows ss e) ∧ ∀ x ∈ stepL m.arrows ss e, 0 ≤ x ∧ x < m.st := by
  refine ⟨inc_srt _, fun x hx => ?_⟩
  obtain ⟨a, ha, -, -, rfl⟩ := (mem_stepL _ _ _ _).1 hx
  have := may_arrs hm a ha
  exact ⟨this.2.2.1, this.2.2.2.1⟩
theorem di_step {m : Mach} (hm : mayB m = true) {ev k e : Nat} {s : DS} (h : DI m ev (k * ev + e) s) (hk : k < s.sets.length) (he : e < ev) : DI m ev (k * ev + (e + 1)) (dStep m.arrows k s e) := by
  obtain ⟨l, hl⟩ : ∃ l, s.sets[k]? = some l := ⟨_, List.getElem?_eq_getElem hk⟩
  obtain ⟨to, hto⟩ : ∃ to, to = stepL m.arrows l (e : Int) := ⟨_, rfl⟩
  have e1 : dStep m.arrows k s e = ⟨if findL s.sets to = s.sets.length then s.sets ++ [to] else s.sets, s.ar ++ [⟨(k : Int), (e : Int), (findL s.sets to : Nat)⟩]⟩ := by
    unfold dStep; rw [hl, Option.getD_some, ← hto]
  have hin := stepIn hm l (e : Int)
  rw [← hto] at hin
  have hlk : ∀ (j : Nat) (x : List Int), s.sets[j]? = some x → (if findL s.sets to = s.sets.length then s.sets ++ [to] else s.sets)[j]? = some x := by
    intro j x hj
    split
    · rw [List.getElem?_append_left (List.getElem?_eq_some_iff.1 hj).1]; exact hj
    · exact hj
  have hnew : (if findL s.sets to = s.sets.length then s.sets ++ [to] else s.sets)[findL s.sets to]? = some to := by
    have := findL_le s.sets to
    split
    · rename_i h1
      rw [h1, List.getElem?_append_right (Nat.le_refl _)]; simp
    · exact findL_get (by omega)
  rw [e1]
  refine ⟨?_, hlk 0 _ h.hd, ?_, ?_, ?_⟩
  · dsimp only
    split
    · rename_i h1
      rw [List.nodup_append]
      exact ⟨h.nd, by simp, fun x hx y hy e => by simp at hy; subst hy; subst e; exact findL_new.1 h1 hx⟩
    · exact h.nd
  · dsimp only
    intro x hx
    split at hx
    · rcases List.mem_append.1 hx with hx | hx
      · exact h.inc x hx
      · have : x = to := by simpa using hx
        rw [this]; exact hin
    · exact h.inc x hx
  · simp only [List.length_append, List.length_cons, List.length_nil, h.len]; omega
  · intro i hi
    by_cases hlt : i < k * ev + e
    · obtain ⟨f, e', t, l', h1, h2, h3, h4, h5⟩ := h.ar i hlt
      exact ⟨f, e', t, l', by rw [List.getElem?_append_left (by rw [h.len]; exact hlt)]; exact h1, h2, h3, hlk _ _ h4, hlk _ _ h5⟩
    · have hi' : i = k * ev + e := by omega
      refine ⟨k, e, findL s.sets to, l, ?_, hi'.symm, he, hlk _ _ hl, by rw [← hto]; exact hnew⟩
      rw [List.getElem?_append_right (by rw [h.len]; omega), h.len, hi']; simp
theorem di_row {m : Mach} (hm : mayB m = true) {ev k : Nat} {s : DS} (h : DI m ev (k * ev) s) (hk : k < s.sets.length) : ∀ n, n ≤ ev → DI m ev (k * ev + n) (dRow m.arrows k s n)
  | 0, _ => h
  | n + 1, hn => by
    rw [dRow_succ]
    obtain ⟨t, ht, -⟩ := dRow_pre m.arrows k s n
    exact di_step hm (di_row hm h hk n (by omega)) (by rw [ht, List.length_append]; omega) (by omega)
theorem di_go {m : Mach} (hm : mayB m = true) {ev : Nat} : ∀ (f k : Nat) (s s' : DS), DI m ev (k * ev) s → k ≤ s.sets.length → s.sets.length ≤ 256 → 257 ≤ f + k → dGo m.arrows ev f k s = some s' → DI m ev (s'.sets.length * ev) s' ∧ s'.sets.length ≤ 256
  | 0, k, s, s', h, hk, h256, hf, e => by omega
  | f + 1, k, s, s', h, hk, h256, hf, e => by
    rw [dGo] at e
    by_cases hlt : k < s.sets.length
    · rw [if_pos hlt] at e
      by_cases hB : 256 < (dRow m.arrows k s ev).sets.length
      · rw [if_pos hB] at e; cases e
      · rw [if_neg hB] at e
        obtain ⟨t, ht, -⟩ := dRow_pre m.arrows k s ev
        refine di_go hm f (k + 1) _ s' ?_ (by rw [ht, List.length_append]; omega) (by omega) (by omega) e
        have := di_row hm h hlt ev (Nat.le_refl _)
        rw [Nat.succ_mul]; exact this
    · rw [if_neg hlt] at e
      have e := Option.some.inj e
      subst e
      have : k = s.sets.length := by omega
      rw [← this]
      exact ⟨h, by omega⟩
theorem di_start {m : Mach} (hm : mayB m = true) (ev : Nat) : DI m ev (0 * ev) ⟨[m.starts], []⟩ := by
  refine ⟨by simp, rfl, fun l hl => ?_, by simp, fun i hi => by omega⟩
  have : l = m.starts := by simpa using hl
  rw [this]; exact may_starts hm
theorem detS_di {m : Mach} (hm : mayB m = true) {s : DS} (h : detS m = some s) : DI m m.ev.toNat (s.sets.length * m.ev.toNat) s ∧ s.sets.length ≤ 256 :=
  di_go hm 257 0 _ s (di_start hm _) (by simp) (by simp) (by omega) h

end Go.Proofs.YtbdkaobbfmgnhaaDoor
namespace Go.Proofs.YtbdkaobbfmgnhaaDoor
open Go.RowKit
set_option linter.unusedVariables false

/-- The same four words. -/
def eqS (S T : Nat → Nat) : Prop := S 0 = T 0 ∧ S 1 = T 1 ∧ S 2 = T 2 ∧ S 3 = T 3
theorem eqS_at {S T : Nat → Nat} (h : eqS S T) {k : Nat} (hk : k < 4) : S k = T k := by
  obtain ⟨h0, h1, h2, h3⟩ := h
  have : k = 0 ∨ k = 1 ∨ k = 2 ∨ k = 3 := by omega
  rcases this with rfl | rfl | rfl | rfl <;> assumption
theorem word_eq {a b : Nat} (ha : a < 18446744073709551616) (hb : b < 18446744073709551616) (h : ∀ j, j < 64 → a.testBit j = b.testBit j) : a = b := by
  apply Nat.eq_of_testBit_eq
  intro j
  by_cases hj : j < 64
  · exact h j hj
  · have hp : (2 : Nat) ^ 64 ≤ 2 ^ j := Nat.pow_le_pow_right (by omega) (by omega)
    rw [Nat.testBit_lt_two_pow (Nat.lt_of_lt_of_le ha hp), Nat.testBit_lt_two_pow (Nat.lt_of_lt_of_le hb hp)]
theorem eqS_iff {S T : Nat → Nat} {l k : List Int} (h : Rep S l) (h' : Rep T k) (hl : Inc l) (hk : Inc k) : eqS S T ↔ l = k := by
  constructor
  · intro he
    have hh : ∀ n, n < 256 → hasS S n = hasS T n := fun n hn => by unfold hasS; rw [eqS_at he (by omega)]
    refine inc_ext hl hk fun x => ⟨fun hx => ?_, fun hx => ?_⟩
    · obtain ⟨b0, b1⟩ := h.bd x hx
      have := (h.mem x.toNat (by omega)).2 (by rwa [Int.toNat_of_nonneg b0])
      rw [hh _ (by omega)] at this
      have := (h'.mem x.toNat (by omega)).1 this
      rwa [Int.toNat_of_nonneg b0] at this
    · obtain ⟨b0, b1⟩ := h'.bd x hx
      have := (h'.mem x.toNat (by omega)).2 (by rwa [Int.toNat_of_nonneg b0])
      rw [← hh _ (by omega)] at this
      have := (h.mem x.toNat (by omega)).1 this
      rwa [Int.toNat_of_nonneg b0] at this
  · rintro rfl
    have hh : ∀ n, n < 256 → hasS S n = hasS T n := fun n hn => by rw [Bool.eq_iff_iff, h.mem n hn, h'.mem n hn]
    have key : ∀ k, k < 4 → S k = T k := fun k hk => word_eq (h.ok k) (h'.ok k) fun j hj => by
      have := hh (64 * k + j) (by omega)
      unfold hasS at this
      rw [show (64 * k + j) / 64 = k by omega, show (64 * k + j) % 64 = j by omega] at this
      exact this
    exact ⟨key 0 (by omega), key 1 (by omega), key 2 (by omega), key 3 (by omega)⟩

/-- The sets stand for the lists, one by one, which rise. -/
structure RepL (SL : List (Nat → Nat)) (L : List (List Int)) : Prop where
  len : SL.length = L.length
  rep : ∀ (k : Nat) (S : Nat → Nat), SL[k]? = some S → ∃ l, L[k]? = some l ∧ Rep S l ∧ Inc l
theorem RepL.at {SL : List (Nat → Nat)} {L : List (List Int)} (h : RepL SL L) {k : Nat} {l : List Int} (hk : L[k]? = some l) : ∃ S, SL[k]? = some S ∧ Rep S l ∧ Inc l := by
  have hlt := (List.getElem?_eq_some_iff.1 hk).1
  have hlt' : k < SL.length := by rw [h.len]; exact hlt
  obtain ⟨l', h1, h2, h3⟩ := h.rep k _ (List.getElem?_eq_getElem hlt')
  rw [hk] at h1
  have h1 := Option.some.inj h1
  subst h1
  exact ⟨_, List.getElem?_eq_getElem hlt', h2, h3⟩
theorem RepL.snoc {SL : List (Nat → Nat)} {L : List (List Int)} (h : RepL SL L) {S : Nat → Nat} {l : List Int} (hr : Rep S l) (hi : Inc l) : RepL (SL ++ [S]) (L ++ [l]) := by
  refine ⟨by simp [h.len], fun k T hk => ?_⟩
  by_cases hlt : k < SL.length
  · rw [List.getElem?_append_left hlt] at hk
    obtain ⟨l', h1, h2⟩ := h.rep k T hk
    exact ⟨l', by rw [List.getElem?_append_left (by rw [← h.len]; exact hlt)]; exact h1, h2⟩
  · have hk' := (List.getElem?_eq_some_iff.1 hk).1
    simp at hk'
    have e : k = SL.length := by omega
    subst e
    rw [List.getElem?_append_right (Nat.le_refl _)] at hk
    have : S = T := by simpa using hk
    subst this
    exact ⟨l, by rw [h.len, List.getElem?_append_right (Nat.le_refl _)]; simp, hr, hi⟩
theorem RepL.one {S : Nat → Nat} {l : List Int} (hr : Rep S l) (hi : Inc l) : RepL [S] [l] := RepL.snoc (SL := []) (L := []) ⟨rfl, fun k S h => by simp at h⟩ hr hi
theorem RepL.map {SL : List (Nat → Nat)} {L : List (List Int)} (h : RepL SL L) : SL.map rowS = L := by
  refine List.ext_getElem? fun k => ?_
  rw [List.getElem?_map]
  cases hk : SL[k]? with
  | none =>
    have := List.getElem?_eq_none_iff.1 hk
    rw [List.getElem?_eq_none (by rw [← h.len]; exact this)]; rfl
  | some S =>
    obtain ⟨l, h1, h2, h3⟩ := h.rep k S hk
    rw [h1, Option.map_some, rep_row h2 h3]
/-- Is one of the sets the same as S at place j, j is the list's place. -/
theorem RepL.find {SL : List (Nat → Nat)} {L : List (List Int)} (h : RepL SL L) (hn : L.Nodup) {S : Nat → Nat} {l : List Int} (hr : Rep S l) (hi : Inc l) {j : Nat} {T : Nat → Nat} (hj : SL[j]? = some T) (he : eqS T S) : findL L l = j := by
  obtain ⟨l', h1, h2, h3⟩ := h.rep j T hj
  have := (eqS_iff h2 hr h3 hi).1 he
  subst this
  exact findL_at hn h1
theorem RepL.new {SL : List (Nat → Nat)} {L : List (List Int)} (h : RepL SL L) {S : Nat → Nat} {l : List Int} (hr : Rep S l) (hi : Inc l) (hno : ∀ T ∈ SL, ¬ eqS T S) : findL L l = L.length := findL_new.2 fun hm => by
  obtain ⟨j, hj⟩ := List.mem_iff_getElem?.1 hm
  obtain ⟨T, h1, h2, h3⟩ := h.at hj
  exact hno T (List.mem_of_getElem? h1) ((eqS_iff h2 hr h3 hi).2 rfl)

end Go.Proofs.YtbdkaobbfmgnhaaDoor
namespace Go.Proofs.YtbdkaobbfmgnhaaDoor
open Go.RowKit
set_option linter.unusedVariables false

theorem laidOutS : laidOutB Tryd.prog = true := by kernel_rfl
theorem rowSet : (62 : TypeId) < Tryd.prog.types.size := of_decide_eq_true (by kernel_rfl)
theorem wideSet : (match Tryd.prog.underlying 62 with | some (.array _ _) | some (.struct _) => true | _ => false) = true := by kernel_rfl
set_option maxRecDepth 100000 in
theorem lawSet : WideMaps.KeyLaw Tryd.prog 62 := deep_law_laid laidOutS (m := 3) (by omega) rowSet (by kernel_rfl) wideSet
theorem wf_u64 {n : Nat} (h : n < 18446744073709551616) : (Lit.int .u64 (n : Int)).wf = true := by
  have h1 : IntKind.u64.min = 0 := rfl
  have h2 : IntKind.u64.max = 18446744073709551615 := rfl
  simp [Lit.wf, h1, h2]; omega
set_option maxRecDepth 100000 in
theorem keySet {S : Nat → Nat} (h : okS S) : ∃ l, keyOf Tryd.prog 62 (sval S) = some l := by
  have h0 := wf_u64 (h 0)
  have h1 := wf_u64 (h 1)
  have h2 := wf_u64 (h 2)
  have h3 := wf_u64 (h 3)
  have hk : Tryd.prog.keyType 62 = true := by kernel_rfl
  have hc : Tryd.prog.cellsOf 62 = 4 := by kernel_rfl
  have hci : Tryd.prog.cellsOf 60 = 1 := by kernel_rfl
  have hs : ∃ m, Tryd.prog.types.size = m + 1 := ⟨_, (Nat.succ_pred_eq_of_pos (Nat.lt_of_le_of_lt (Nat.zero_le _) rowSet)).symm⟩
  obtain ⟨m, hm⟩ := hs
  unfold keyOf
  simp only [Tryd.underlying62]
  rw [if_pos (by simp [hk, Value.formed, Tryd.underlying62, hc]), hm]
  unfold Program.keyLits
  simp only [Tryd.underlying62, Value.cells]
  have hr : List.range 4 = [0, 1, 2, 3] := rfl
  simp [hc, hci, Program.keyLits, Tryd.underlying60, hr, h0, h1, h2, h3]

theorem sval_eq {S T : Nat → Nat} (h : sval S = sval T) : eqS S T := by
  simp at h
  obtain ⟨h0, h1, h2, h3⟩ := h
  exact ⟨by omega, by omega, by omega, by omega⟩
theorem eqS_sval {S T : Nat → Nat} (h : eqS S T) : sval S = sval T := by
  obtain ⟨h0, h1, h2, h3⟩ := h
  show Value.agg #[_, _, _, _] = Value.agg #[_, _, _, _]
  rw [h0, h1, h2, h3]

end Go.Proofs.YtbdkaobbfmgnhaaDoor
namespace Go.Proofs.YtbdkaobbfmgnhaaDoor
open Go.RowKit
set_option linter.unusedVariables false

/-- The table: where each state leads in one step. -/
def tabKStep (fr to : Arr → Int) (T : Nat → Nat → Nat) (a : Arr) : Nat → Nat → Nat := fun p => if p = (fr a).toNat then withS (T p) (to a).toNat else T p
theorem okS_tabKStep {fr to : Arr → Int} {T : Nat → Nat → Nat} (h : ∀ p, okS (T p)) (a : Arr) : ∀ p, okS (tabKStep fr to T a p) := fun p => by
  unfold tabKStep; split
  · exact okS_with (h p) _
  · exact h p
/-- Where states lead to, by a table. -/
def toF (T : Nat → Nat → Nat) (ns : List Nat) : Nat → Nat := ns.foldl (fun o n => joinS o (T n)) zeroS
theorem toF_snoc (T : Nat → Nat → Nat) (ns : List Nat) (n : Nat) : toF T (ns ++ [n]) = joinS (toF T ns) (T n) := by simp [toF, List.foldl_append]
theorem ok_toG {T : Nat → Nat → Nat} (h : ∀ p, okS (T p)) : ∀ (ns : List Nat) (o : Nat → Nat), okS o → okS (ns.foldl (fun o n => joinS o (T n)) o)
  | [], _, ho => ho
  | n :: r, o, ho => ok_toG h r _ (okS_join ho (h _))
theorem ok_toF {T : Nat → Nat → Nat} (h : ∀ p, okS (T p)) (ns : List Nat) : okS (toF T ns) := ok_toG h ns _ okS_zero
theorem has_toG {T : Nat → Nat → Nat} {k : Nat} : ∀ (ns : List Nat) (o : Nat → Nat), hasS (ns.foldl (fun o n => joinS o (T n)) o) k = true ↔ hasS o k = true ∨ ∃ n ∈ ns, hasS (T n) k = true
  | [], o => by simp
  | n :: r, o => by
    rw [List.foldl_cons, has_toG r, hasS_join, Bool.or_eq_true]
    simp only [List.mem_cons, exists_eq_or_imp]
    rw [or_assoc]
theorem has_toF (T : Nat → Nat → Nat) (k : Nat) (ns : List Nat) : hasS (toF T ns) k = true ↔ ∃ n ∈ ns, hasS (T n) k = true := by
  unfold toF; rw [has_toG]; simp [hasS_zero]

end Go.Proofs.YtbdkaobbfmgnhaaDoor
