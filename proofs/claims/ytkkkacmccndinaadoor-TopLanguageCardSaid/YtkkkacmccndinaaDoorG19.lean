/-
  What the laws of machines share: 'great' and 'machines' walked.
  What least.Least leaves; which machines are the same.
  Plain: sets of bits beside the lists that they stand for. No program, no model.
  A map from sets of states to numbers, as the model runs it: the numbers in the order in which the sets came.
  Plain: states held together by signs, in rounds: a round's sign is the state's class and its followers' classes; when a round finds no more classes than there were, the classes are just the languages.
-/
import Derived.Test.YtkkkacmccndinaaDoorG17
import Derived.Test.YtkkkacmccndinaaDoorG08
import Derived.Test.YtkkkacmccndinaaDoorG04
import Derived.Test.YtkkkacmccndinaaDoorCRefMay
import Derived.Test.YtkkkacmccndinaaDoorG16
import Derived.Test.YtkkkacmccndinaaDoorG13
import Derived.Test.YtkkkacmccndinaaDoorCSBase
import Derived.Test.YtkkkacmccndinaaDoorG05
import Derived.DeepKeys4
import Derived.Maps.Keyed
import Derived.Carry
namespace Go.Proofs.YtkkkacmccndinaaDoor
open Go.RowKit
set_option linter.unusedVariables false

theorem sameB_self : ∀ xs : List Int, sameB xs xs = true := by intro xs; simp [sameB]

theorem sameA_self : ∀ l : List Arr, sameA l l = true
  | [] => rfl
  | a :: r => by simp [sameA, sameA_self r]
theorem sameM_self (m : Mach) : sameM m m = true := by
  rw [sameM_go rfl rfl (sameB_self _) (sameB_self _) rfl]; exact sameA_self _
theorem mat0 (w : World) : MAt w m0 ml0 := ⟨.inl rfl, .inl rfl, .inl rfl, Nat.le_refl _, Nat.zero_le _, fun _ => rfl, Nat.le_refl _, Nat.zero_le _, fun _ => rfl, Nat.le_refl _, Nat.zero_le _, fun _ => rfl⟩
/-- A call has answered yes or no. -/
def IsBool (e : Ending) : Prop := ∃ bb, e = .returned (.bool bb)
theorem isBool (bb : Bool) : IsBool (.returned (.bool bb)) := ⟨bb, rfl⟩

set_option maxHeartbeats 1000000 in
theorem great_any (m : Mach) (l : ML) (w : World) :
    Calls Tryd.prog 25 #[mval m l] w fun e w' => IsBool e ∧ Below w.heap.size w w' := by
  have B0 : Hid (Below w.heap.size w (w.alloc (.cells (mcells m l) 25))) := (Below.refl _ _).alloc (Nat.le_refl _) _
  go_enter Tryd.func25, Tryd.ntmps25
  go_wp2
  all_goals
    go_ret
    exact ⟨isBool _, B0.out⟩

set_option maxHeartbeats 1000000 in
theorem machines_any (m n : Mach) (l k : ML) (w : World) (h : MAt w m l) (h' : MAt w n k) :
    Calls Tryd.prog 28 #[mval m l, mval n k] w fun e w' => e = .returned (.bool (sameM m n)) ∧ Below w.heap.size w w' := by
  have B0 : Hid (Below w.heap.size w ((w.alloc (.cells (mcells m l) 25)).alloc (.cells (mcells n k) 25))) := ((Below.refl _ _).alloc (Nat.le_refl _) _).alloc (by simp) _
  have H := Hid.of (h.below B0.out (Nat.le_refl _))
  have H' := Hid.of (h'.below B0.out (Nat.le_refl _))
  clear h h'
  go_enter Tryd.func28, Tryd.ntmps28
  go_wp2_with fail
  refine (refMSame_any m n l k _ H.out H'.out).mono ?_
  rintro e w1 ⟨rfl, hb⟩
  have HB := Hid.of (B0.out.trans (hb.mono B0.out.size))
  clear hb
  go_wp2
  go_ret
  exact ⟨rfl, HB.out⟩

end Go.Proofs.YtkkkacmccndinaaDoor
namespace Go.Proofs.YtkkkacmccndinaaDoor
open Go.RowKit
set_option linter.unusedVariables false

/-- What Least answers (H1). -/
def LeastOut (m M : Mach) (c : Int) : Prop := (mayB m = false ∧ M = m0 ∧ c = 2) ∨ (mayB m = true ∧ 6 < m.st ∧ M = m0 ∧ c = 1) ∨ (mayB m = true ∧ m.st ≤ 6 ∧ c = 0 ∧ IsLeast m M)
/-- What Least leaves. -/
def LeastPost (w : World) (m : Mach) (e : Ending) (w' : World) : Prop := ∃ M L c, LeastOut m M c ∧ e = .returned (.tuple #[mval M L, .int .i64 c]) ∧ MAt w' M L ∧ Below w.heap.size w w'
theorem LeastOut.bad {m M : Mach} {c : Int} (h : LeastOut m M c) (hm : mayB m = false) : M = m0 ∧ c = 2 := by
  rcases h with ⟨-, h1, h2⟩ | ⟨h1, -⟩ | ⟨h1, -⟩
  · exact ⟨h1, h2⟩
  · rw [hm] at h1; cases h1
  · rw [hm] at h1; cases h1
theorem LeastOut.big {m M : Mach} {c : Int} (h : LeastOut m M c) (hm : mayB m = true) (hs : 6 < m.st) : M = m0 ∧ c = 1 := by
  rcases h with ⟨h1, -⟩ | ⟨-, -, h1, h2⟩ | ⟨-, h1, -⟩
  · rw [hm] at h1; cases h1
  · exact ⟨h1, h2⟩
  · omega
theorem LeastOut.ok {m M : Mach} {c : Int} (h : LeastOut m M c) (hm : mayB m = true) (hs : m.st ≤ 6) : c = 0 ∧ IsLeast m M := by
  rcases h with ⟨h1, -⟩ | ⟨-, h1, -⟩ | ⟨-, -, h1, h2⟩
  · rw [hm] at h1; cases h1
  · omega
  · exact ⟨h1, h2⟩
theorem IsLeast.one {m M N : Mach} (h : IsLeast m M) (h' : IsLeast m N) : M = N := by
  letI inst : DecidableEq Lang := fun a b => Classical.propDecidable _
  rw [h inst, h' inst]
theorem sameA_eq : ∀ {p q : List Arr}, p.length = q.length → sameA p q = true → p = q
  | [], [], _, _ => rfl
  | [], _ :: _, h, _ => by simp at h
  | _ :: _, [], h, _ => by simp at h
  | a :: p, b :: q, hl, h => by
    unfold sameA at h
    by_cases h1 : arrEq a b
    case neg => rw [if_neg h1] at h; cases h
    rw [if_pos h1] at h
    have e := sameA_eq (by simpa using hl) h
    unfold arrEq at h1
    obtain ⟨x, y, z⟩ := a
    obtain ⟨x', y', z'⟩ := b
    obtain ⟨q1, q2, q3⟩ := h1
    dsimp only at q1 q2 q3
    rw [q1, q2, q3, e]
theorem sameM_iff (m n : Mach) : sameM m n = true ↔ m = n := by
  constructor
  · intro h
    unfold sameM at h
    simp only [Bool.and_eq_true, decide_eq_true_eq] at h
    obtain ⟨⟨h1, h2⟩, h3, h4, h5, h6⟩ := h
    obtain ⟨a, b, c, d, e⟩ := m
    obtain ⟨a', b', c', d', e'⟩ := n
    dsimp only at *
    have e3 : c = c' := by simpa [sameB] using h3
    have e4 : e = e' := by simpa [sameB] using h4
    rw [h1, h2, e3, e4, sameA_eq h5 h6]
  · rintro rfl; exact sameM_self m
/-- The machine of the language of words of which neither has one more. -/
theorem lang_none {a b : Mach} (ha : mayB a = true) (hb : mayB b = true) (za : a.st ≤ 6) (zb : b.st ≤ 6) (he : a.ev = b.ev) : (outW a b = none ∧ outW b a = none) ↔ ∀ u, wordB a.ev u = true → acceptsB a u = acceptsB b u := by
  constructor
  · rintro ⟨h1, h2⟩ u hu
    have hw := wordB_in hu
    have k1 := outW_none ha hb za zb h1 u hw
    have k2 := outW_none hb ha zb za h2 u (by rw [← he]; exact hw)
    unfold betw at k1 k2
    cases e1 : acceptsB a u <;> cases e2 : acceptsB b u <;> rw [e1, e2] at k1 k2 <;> simp_all
  · intro h
    refine ⟨?_, ?_⟩
    · cases ho : outW a b with
      | none => rfl
      | some v =>
        obtain ⟨k1, k2, -, -⟩ := outW_some ha hb za zb ho
        unfold betw at k1
        rw [h v (wordB_of k2)] at k1
        cases e2 : acceptsB b v <;> rw [e2] at k1 <;> simp_all
    · cases ho : outW b a with
      | none => rfl
      | some v =>
        obtain ⟨k1, k2, -, -⟩ := outW_some hb ha zb za ho
        unfold betw at k1
        rw [h v (wordB_of (by rw [he]; exact k2))] at k1
        cases e2 : acceptsB b v <;> rw [e2] at k1 <;> simp_all
/-- H2. -/
theorem least_iff {a b A B : Mach} (ha : mayB a = true) (hb : mayB b = true) (za : a.st ≤ 6) (zb : b.st ≤ 6) (he : a.ev = b.ev) (hA : IsLeast a A) (hB : IsLeast b B) : sameM A B = ((outW a b).isNone && (outW b a).isNone) := by
  letI inst : DecidableEq Lang := fun a b => Classical.propDecidable _
  have hz := mayB_size ha
  unfold sizeOk at hz
  have e1 : a.ev = ((a.ev.toNat : Nat) : Int) := by omega
  rw [Bool.eq_iff_iff, sameM_iff, hA inst, hB inst, Bool.and_eq_true, Option.isNone_iff_eq_none, Option.isNone_iff_eq_none, lang_none ha hb za zb he, ← he, least_same ha hb za zb e1 (by rw [← he]; exact e1), ← e1]
/-- H1: no determined machine with its language has fewer states. -/
theorem least_few {m d M : Mach} (hm : mayB m = true) (zm : m.st ≤ 6) (hd : detB d = true) (zd : d.st ≤ 6) (he : d.ev = m.ev) (hM : IsLeast m M) (h : outW m d = none ∧ outW d m = none) : detB M = true ∧ M.st ≤ d.st := by
  letI inst : DecidableEq Lang := fun a b => Classical.propDecidable _
  have hz := mayB_size hm
  unfold sizeOk at hz
  have e1 : m.ev = ((m.ev.toNat : Nat) : Int) := by omega
  have hmd : mayB d = true := by unfold detB at hd; rw [Bool.and_eq_true] at hd; exact hd.1
  rw [hM inst]
  refine ⟨(least_may hm zm e1).2.1, least_fewest hm zm e1 hd (by rw [he]; exact e1) ?_⟩
  rw [← e1]
  exact (lang_none hm hmd zm zd he.symm).1 h
theorem least_det {m M : Mach} (hm : mayB m = true) (zm : m.st ≤ 6) (hM : IsLeast m M) : detB M = true ∧ mayB M = true := by
  letI inst : DecidableEq Lang := fun a b => Classical.propDecidable _
  have hz := mayB_size hm
  unfold sizeOk at hz
  have e1 : m.ev = ((m.ev.toNat : Nat) : Int) := by omega
  rw [hM inst]
  exact ⟨(least_may hm zm e1).2.1, (least_may hm zm e1).1⟩

end Go.Proofs.YtkkkacmccndinaaDoor
namespace Go.Proofs.YtkkkacmccndinaaDoor
open Go.RowKit
set_option linter.unusedVariables false

/-- The same four words. -/
def eqS (S T : Nat → Nat) : Prop := S 0 = T 0 ∧ S 1 = T 1 ∧ S 2 = T 2 ∧ S 3 = T 3
theorem eqS_at {S T : Nat → Nat} (h : eqS S T) {k : Nat} (hk : k < 4) : S k = T k := by
  obtain ⟨h0, h1, h2, h3⟩ := h
  have : k = 0 ∨ k = 1 ∨ k = 2 ∨ k = 3 := by omega
  rcases this with rfl | rfl | rfl | rfl <;> assumption
theorem word_eq {a b : Nat} (ha : a < 18446744073709551616) (hb : b < 18446744073709551616) (h : ∀ j, j < 64 → a.testBit j = b.testBit j) : a = b := by
  apply Nat.eq_of_testBit_eq
  intro j
  by_cases hj : j < 64
  · exact h j hj
  · have hp : (2 : Nat) ^ 64 ≤ 2 ^ j := Nat.pow_le_pow_right (by omega) (by omega)
    rw [Nat.testBit_lt_two_pow (Nat.lt_of_lt_of_le ha hp), Nat.testBit_lt_two_pow (Nat.lt_of_lt_of_le hb hp)]
theorem eqS_iff {S T : Nat → Nat} {l k : List Int} (h : Rep S l) (h' : Rep T k) (hl : Inc l) (hk : Inc k) : eqS S T ↔ l = k := by
  constructor
  · intro he
    have hh : ∀ n, n < 256 → hasS S n = hasS T n := fun n hn => by unfold hasS; rw [eqS_at he (by omega)]
    refine inc_ext hl hk fun x => ⟨fun hx => ?_, fun hx => ?_⟩
    · obtain ⟨b0, b1⟩ := h.bd x hx
      have := (h.mem x.toNat (by omega)).2 (by rwa [Int.toNat_of_nonneg b0])
      rw [hh _ (by omega)] at this
      have := (h'.mem x.toNat (by omega)).1 this
      rwa [Int.toNat_of_nonneg b0] at this
    · obtain ⟨b0, b1⟩ := h'.bd x hx
      have := (h'.mem x.toNat (by omega)).2 (by rwa [Int.toNat_of_nonneg b0])
      rw [← hh _ (by omega)] at this
      have := (h.mem x.toNat (by omega)).1 this
      rwa [Int.toNat_of_nonneg b0] at this
  · rintro rfl
    have hh : ∀ n, n < 256 → hasS S n = hasS T n := fun n hn => by rw [Bool.eq_iff_iff, h.mem n hn, h'.mem n hn]
    have key : ∀ k, k < 4 → S k = T k := fun k hk => word_eq (h.ok k) (h'.ok k) fun j hj => by
      have := hh (64 * k + j) (by omega)
      unfold hasS at this
      rw [show (64 * k + j) / 64 = k by omega, show (64 * k + j) % 64 = j by omega] at this
      exact this
    exact ⟨key 0 (by omega), key 1 (by omega), key 2 (by omega), key 3 (by omega)⟩

/-- The sets stand for the lists, one by one, which rise. -/
structure RepL (SL : List (Nat → Nat)) (L : List (List Int)) : Prop where
  len : SL.length = L.length
  rep : ∀ (k : Nat) (S : Nat → Nat), SL[k]? = some S → ∃ l, L[k]? = some l ∧ Rep S l ∧ Inc l
theorem RepL.at {SL : List (Nat → Nat)} {L : List (List Int)} (h : RepL SL L) {k : Nat} {l : List Int} (hk : L[k]? = some l) : ∃ S, SL[k]? = some S ∧ Rep S l ∧ Inc l := by
  have hlt := (List.getElem?_eq_some_iff.1 hk).1
  have hlt' : k < SL.length := by rw [h.len]; exact hlt
  obtain ⟨l', h1, h2, h3⟩ := h.rep k _ (List.getElem?_eq_getElem hlt')
  rw [hk] at h1
  have h1 := Option.some.inj h1
  subst h1
  exact ⟨_, List.getElem?_eq_getElem hlt', h2, h3⟩
theorem RepL.snoc {SL : List (Nat → Nat)} {L : List (List Int)} (h : RepL SL L) {S : Nat → Nat} {l : List Int} (hr : Rep S l) (hi : Inc l) : RepL (SL ++ [S]) (L ++ [l]) := by
  refine ⟨by simp [h.len], fun k T hk => ?_⟩
  by_cases hlt : k < SL.length
  · rw [List.getElem?_append_left hlt] at hk
    obtain ⟨l', h1, h2⟩ := h.rep k T hk
    exact ⟨l', by rw [List.getElem?_append_left (by rw [← h.len]; exact hlt)]; exact h1, h2⟩
  · have hk' := (List.getElem?_eq_some_iff.1 hk).1
    simp at hk'
    have e : k = SL.length := by omega
    subst e
    rw [List.getElem?_append_right (Nat.le_refl _)] at hk
    have : S = T := by simpa using hk
    subst this
    exact ⟨l, by rw [h.len, List.getElem?_append_right (Nat.le_refl _)]; simp, hr, hi⟩
theorem RepL.one {S : Nat → Nat} {l : List Int} (hr : Rep S l) (hi : Inc l) : RepL [S] [l] := RepL.snoc (SL := []) (L := []) ⟨rfl, fun k S h => by simp at h⟩ hr hi
theorem RepL.map {SL : List (Nat → Nat)} {L : List (List Int)} (h : RepL SL L) : SL.map rowS = L := by
  refine List.ext_getElem? fun k => ?_
  rw [List.getElem?_map]
  cases hk : SL[k]? with
  | none =>
    have := List.getElem?_eq_none_iff.1 hk
    rw [List.getElem?_eq_none (by rw [← h.len]; exact this)]; rfl
  | some S =>
    obtain ⟨l, h1, h2, h3⟩ := h.rep k S hk
    rw [h1, Option.map_some, rep_row h2 h3]
/-- Is one of the sets the same as S at place j, j is the list's place. -/
theorem RepL.find {SL : List (Nat → Nat)} {L : List (List Int)} (h : RepL SL L) (hn : L.Nodup) {S : Nat → Nat} {l : List Int} (hr : Rep S l) (hi : Inc l) {j : Nat} {T : Nat → Nat} (hj : SL[j]? = some T) (he : eqS T S) : findL L l = j := by
  obtain ⟨l', h1, h2, h3⟩ := h.rep j T hj
  have := (eqS_iff h2 hr h3 hi).1 he
  subst this
  exact findL_at hn h1
theorem RepL.new {SL : List (Nat → Nat)} {L : List (List Int)} (h : RepL SL L) {S : Nat → Nat} {l : List Int} (hr : Rep S l) (hi : Inc l) (hno : ∀ T ∈ SL, ¬ eqS T S) : findL L l = L.length := findL_new.2 fun hm => by
  obtain ⟨j, hj⟩ := List.mem_iff_getElem?.1 hm
  obtain ⟨T, h1, h2, h3⟩ := h.at hj
  exact hno T (List.mem_of_getElem? h1) ((eqS_iff h2 hr h3 hi).2 rfl)

end Go.Proofs.YtkkkacmccndinaaDoor
namespace Go.Proofs.YtkkkacmccndinaaDoor
open Go.RowKit
set_option linter.unusedVariables false

theorem laidOutS : laidOutB Tryd.prog = true := by kernel_rfl
theorem rowSet : (58 : TypeId) < Tryd.prog.types.size := of_decide_eq_true (by kernel_rfl)
theorem wideSet : (match Tryd.prog.underlying 58 with | some (.array _ _) | some (.struct _) => true | _ => false) = true := by kernel_rfl
set_option maxRecDepth 100000 in
theorem lawSet : WideMaps.KeyLaw Tryd.prog 58 := deep_law_laid laidOutS (m := 3) (by omega) rowSet (by kernel_rfl) wideSet
theorem wf_u64 {n : Nat} (h : n < 18446744073709551616) : (Lit.int .u64 (n : Int)).wf = true := by
  have h1 : IntKind.u64.min = 0 := rfl
  have h2 : IntKind.u64.max = 18446744073709551615 := rfl
  simp [Lit.wf, h1, h2]; omega
set_option maxRecDepth 100000 in
theorem keySet {S : Nat → Nat} (h : okS S) : ∃ l, keyOf Tryd.prog 58 (sval S) = some l := by
  have h0 := wf_u64 (h 0)
  have h1 := wf_u64 (h 1)
  have h2 := wf_u64 (h 2)
  have h3 := wf_u64 (h 3)
  have hk : Tryd.prog.keyType 58 = true := by kernel_rfl
  have hc : Tryd.prog.cellsOf 58 = 4 := by kernel_rfl
  have hci : Tryd.prog.cellsOf 56 = 1 := by kernel_rfl
  have hs : ∃ m, Tryd.prog.types.size = m + 1 := ⟨_, (Nat.succ_pred_eq_of_pos (Nat.lt_of_le_of_lt (Nat.zero_le _) rowSet)).symm⟩
  obtain ⟨m, hm⟩ := hs
  unfold keyOf
  simp only [Tryd.underlying58]
  rw [if_pos (by simp [hk, Value.formed, Tryd.underlying58, hc]), hm]
  unfold Program.keyLits
  simp only [Tryd.underlying58, Value.cells]
  have hr : List.range 4 = [0, 1, 2, 3] := rfl
  simp [hc, hci, Program.keyLits, Tryd.underlying56, hr, h0, h1, h2, h3]

theorem sval_eq {S T : Nat → Nat} (h : sval S = sval T) : eqS S T := by
  simp at h
  obtain ⟨h0, h1, h2, h3⟩ := h
  exact ⟨by omega, by omega, by omega, by omega⟩
theorem eqS_sval {S T : Nat → Nat} (h : eqS S T) : sval S = sval T := by
  obtain ⟨h0, h1, h2, h3⟩ := h
  show Value.agg #[_, _, _, _] = Value.agg #[_, _, _, _]
  rw [h0, h1, h2, h3]
def entS (k : Nat) (S : Nat → Nat) : MapEntry := { key := sval S, val := .int .i64 k, born := k }
def entsS (SL : List (Nat → Nat)) : Array MapEntry := (SL.mapIdx entS).toArray
theorem entsS_snoc (SL : List (Nat → Nat)) (S : Nat → Nat) : entsS (SL ++ [S]) = (entsS SL).push (entS SL.length S) := by
  unfold entsS; rw [List.mapIdx_concat]; simp
theorem find_set {SL : List (Nat → Nat)} {L : List (List Int)} (hR : RepL SL L) (hnd : L.Nodup) {S : Nat → Nat} {l : List Int} (hr : Rep S l) (hi : Inc l) (w : World) :
    (Instr.findKey 58 (sval S) (entsS SL).toList).run Tryd.prog w = .ok (if findL L l = L.length then none else some (findL L l, .int .i64 (findL L l : Nat))) w := by
  obtain ⟨kl, hl⟩ := keySet hr.ok
  have hget : ∀ (j : Nat) e, (entsS SL).toList[j]? = some e → ∃ T, SL[j]? = some T ∧ e = entS j T := by
    intro j e h
    simp only [entsS] at h
    rw [List.getElem?_mapIdx] at h
    cases hq : SL[j]? with
    | none => rw [hq] at h; cases h
    | some q => rw [hq] at h; exact ⟨q, rfl, (Option.some.inj h).symm⟩
  have hes : ∀ e ∈ (entsS SL).toList, ∃ l, keyOf Tryd.prog 58 e.key = some l := by
    intro e he
    obtain ⟨j, hj⟩ := List.mem_iff_getElem?.1 he
    obtain ⟨T, hT, rfl⟩ := hget j e hj
    obtain ⟨l', -, h2, -⟩ := hR.rep j T hT
    exact keySet h2.ok
  rcases lawSet.find w hl (entsS SL).toList hes with ⟨h1, h2⟩ | ⟨j, e, h1, h2, h3⟩
  · have hn : findL L l = L.length := hR.new hr hi fun T hT he => by
      obtain ⟨j, hj⟩ := List.mem_iff_getElem?.1 hT
      refine h2 (entS j T) (List.mem_of_getElem? (i := j) ?_) (eqS_sval he)
      simp only [entsS]
      rw [List.getElem?_mapIdx, hj]; rfl
    rw [h1, if_pos hn]
  · obtain ⟨T, hT, rfl⟩ := hget j e h2
    have hj := hR.find hnd hr hi hT (sval_eq h3)
    have hlt := (List.getElem?_eq_some_iff.1 hT).1
    rw [h1, hj, if_neg (by rw [← hR.len]; omega)]; rfl
theorem mapSet : Tryd.prog.underlying 120 = some (.map 58 3) := by kernel_rfl
theorem lookS_known {SL : List (Nat → Nat)} {L : List (List Int)} (hR : RepL SL L) (hnd : L.Nodup) {S : Nat → Nat} {l : List Int} (hr : Rep S l) (hi : Inc l) {w : World} {r c : Nat} (hm : w.heap[r]? = some (.map (entsS SL) c)) (h : ¬ findL L l = L.length) :
    (Instr.lookup 120 (.map (some r)) (sval S) true).run Tryd.prog w = .ok (.tuple #[.int .i64 (findL L l : Nat), .bool true]) w := by
  obtain ⟨kl, hl⟩ := keySet hr.ok
  have h1 := find_set hR hnd hr hi w
  rw [if_neg h] at h1
  simp [Instr.lookup, run_underlying mapSet, MapKept.run_getObj_map hm, lawSet.check w _ hl, h1, Result.andThen]
theorem lookS_new {SL : List (Nat → Nat)} {L : List (List Int)} (hR : RepL SL L) (hnd : L.Nodup) {S : Nat → Nat} {l : List Int} (hr : Rep S l) (hi : Inc l) {w : World} {r c : Nat} (hm : w.heap[r]? = some (.map (entsS SL) c)) (h : findL L l = L.length) :
    (Instr.lookup 120 (.map (some r)) (sval S) true).run Tryd.prog w = .ok (.tuple #[.int .i64 0, .bool false]) w := by
  obtain ⟨kl, hl⟩ := keySet hr.ok
  have h1 := find_set hR hnd hr hi w
  rw [if_pos h] at h1
  simp [Instr.lookup, run_underlying mapSet, MapKept.run_getObj_map hm, lawSet.check w _ hl, h1, Result.andThen]
theorem updS_new {SL : List (Nat → Nat)} {L : List (List Int)} (hR : RepL SL L) (hnd : L.Nodup) {S : Nat → Nat} {l : List Int} (hr : Rep S l) (hi : Inc l) {w : World} {r : Nat} (hm : w.heap[r]? = some (.map (entsS SL) SL.length)) (h : findL L l = L.length) :
    (Instr.mapUpdate 120 (.map (some r)) (sval S) (.int .i64 (SL.length : Nat))).run Tryd.prog w = .ok () (setMap w r (.map (entsS (SL ++ [S])) (SL.length + 1))) := by
  obtain ⟨kl, hl⟩ := keySet hr.ok
  have h1 := find_set hR hnd hr hi w
  rw [if_pos h] at h1
  simp [Instr.mapUpdate, run_underlying mapSet, MapKept.run_getObj_map hm, lawSet.check w _ hl, h1, MapKept.run_setObj_map _ hm, Result.andThen, setMap, entsS_snoc, entS]

/-! Rows of sets. -/
def sflat : List (Nat → Nat) → List Value
  | [] => []
  | S :: r => .int .u64 (S 0) :: .int .u64 (S 1) :: .int .u64 (S 2) :: .int .u64 (S 3) :: sflat r
theorem sflat_len : ∀ L : List (Nat → Nat), (sflat L).length = L.length * 4
  | [] => rfl
  | S :: r => by simp only [sflat, List.length_cons, sflat_len r]; omega
theorem sflat_append : ∀ L M : List (Nat → Nat), sflat (L ++ M) = sflat L ++ sflat M
  | [], M => rfl
  | a :: r, M => by simp only [List.cons_append, sflat, sflat_append r M]
theorem sflat_at : ∀ {L : List (Nat → Nat)} {k : Nat} {S : Nat → Nat}, L[k]? = some S → (sflat L)[k * 4]? = some (.int .u64 (S 0)) ∧ (sflat L)[k * 4 + 1]? = some (.int .u64 (S 1)) ∧ (sflat L)[k * 4 + 2]? = some (.int .u64 (S 2)) ∧ (sflat L)[k * 4 + 3]? = some (.int .u64 (S 3))
  | [], k, S, h => by simp at h
  | a :: r, 0, S, h => by
    have e : a = S := by simpa using h
    subst e; simp [sflat]
  | a :: r, k + 1, S, h => by
    have := sflat_at (L := r) (k := k) (S := S) (by simpa using h)
    rw [show (k + 1) * 4 = k * 4 + 1 + 1 + 1 + 1 by omega]
    simpa [sflat] using this
abbrev OwnS (W : World) (B : Nat) (v : Value) (L : List (Nat → Nat)) : Prop := W.ownsRow B 58 4 v L.length (sflat L)
theorem OwnS.cell {W : World} {B : Nat} {v : Value} {L : List (Nat → Nat)} (h : OwnS W B v L) {k : Nat} {S : Nat → Nat} (hk : L[k]? = some S) : ∃ g cap, v = .slice (some ⟨g, 0, none⟩) L.length cap ∧ B ≤ g ∧ g < W.heap.size ∧ W.cell? ⟨g, k * 4, none⟩ = some (.int .u64 (S 0)) ∧ W.cell? ⟨g, k * 4 + 1, none⟩ = some (.int .u64 (S 1)) ∧ W.cell? ⟨g, k * 4 + 2, none⟩ = some (.int .u64 (S 2)) ∧ W.cell? ⟨g, k * 4 + 3, none⟩ = some (.int .u64 (S 3)) := by
  rcases h.2 with ⟨rfl, hn⟩ | ⟨g, cap, cur, rfl, hg, hh, hnc, hcm, hcs, ht⟩
  · have := (List.getElem?_eq_some_iff.1 hk).1; omega
  · obtain ⟨h1, h2, h3, h4⟩ := sflat_at hk
    have c1 := h.cells (g := g) rfl _ _ h1
    have c2 := h.cells (g := g) rfl _ _ h2
    have c3 := h.cells (g := g) rfl _ _ h3
    have c4 := h.cells (g := g) rfl _ _ h4
    rw [addr0_add, Nat.zero_add] at c1 c2 c3 c4
    exact ⟨g, cap, rfl, hg, (Array.getElem?_eq_some_iff.1 hh).1, c1, c2, c3, c4⟩
theorem cells_four (W W' : World) (hW : W'.heap = W.heap) (t : TypeId) (x y z u : Value) : ∀ j v, ([x, y, z, u] : List Value)[j]? = some v → (W'.alloc (.cells #[x, y, z, u] t)).cell? ((⟨W.heap.size, 0, none⟩ : Addr).add j) = some v := by
  intro j v hv
  rw [addr0_add, Nat.zero_add, ← hW]
  exact (Blk.new W' t #[x, y, z, u]).cell j (by rw [← Array.getElem?_toList]; exact hv)
theorem own_set {W : World} {B : Nat} {v : Value} {L : List (Nat → Nat)} {S : Nat → Nat} (h : W.ownsRow B 58 4 v (L.length + 1) (sflat L ++ [.int .u64 (S 0), .int .u64 (S 1), .int .u64 (S 2), .int .u64 (S 3)])) : OwnS W B v (L ++ [S]) := by
  show W.ownsRow B 58 4 v (L ++ [S]).length (sflat (L ++ [S]))
  rw [List.length_append, sflat_append]
  exact h
theorem ownS_one (W : World) (S : Nat → Nat) (B : Nat) (hB : B ≤ W.heap.size) : OwnS (W.alloc (.cells (scells S) 58)) B (.slice (some ⟨W.heap.size, 0, none⟩) 1 1) [S] := World.ownsRow_lit W (scells S) 1 hB (by decide) rfl

/-- What find knows: its rows of sets and of arrows, made from block B on, and its map. -/
structure FDI (B : Nat) (W : World) (br : Nat) (vs va : Value) (SL : List (Nat → Nat)) (A : List Arr) : Prop where
  ss : OwnS W B vs SL
  ar : OwnA W B va A
  mp : W.heap[br]? = some (.map (entsS SL) SL.length)
  lr : B ≤ br
section
variable {B : Nat} {W : World} {br : Nat} {vs va : Value} {SL : List (Nat → Nat)} {A : List Arr}
theorem FDI.below {W' : World} (h : FDI B W br vs va SL A) (hb : Below W.heap.size W W') : FDI B W' br vs va SL A :=
  ⟨own_same h.ss (fun k hk => hb.block k (World.ownsRow.lt h.ss k hk).2), h.ar.kept hb (Nat.le_refl _), (hb.block br (Array.getElem?_eq_some_iff.1 h.mp).1).trans h.mp, h.lr⟩
theorem FDI.apart (h : FDI B W br vs va SL A) : vs.ownBlock ≠ some br ∧ va.ownBlock ≠ some br := by
  have hm := h.mp
  exact ⟨fun e => (by obtain ⟨cs, hc⟩ := own_type h.ss e; rw [hm] at hc; cases hc), fun e => (by obtain ⟨cs, hc⟩ := own_type h.ar e; rw [hm] at hc; cases hc)⟩
/-- One set more: the map, the row. -/
theorem FDI.push {w0 : World} {W2 W3 : World} {vs' : Value} {S : Nat → Nat} (h : FDI B W br vs va SL A) (h0 : Below B w0 W) (hW3 : Below (setMap W br (.map (entsS (SL ++ [S])) (SL.length + 1))).heap.size (setMap W br (.map (entsS (SL ++ [S])) (SL.length + 1))) W3) (o1 : OwnS W2 B vs' (SL ++ [S])) (g : W3.grownBy W2 vs.ownBlock) (hBW : B ≤ W.heap.size) :
    FDI B W2 br vs' va (SL ++ [S]) A ∧ Below B w0 W2 := by
  obtain ⟨a1, a2⟩ := h.apart
  have hbr := (Array.getElem?_eq_some_iff.1 h.mp).1
  have hz : W.heap.size ≤ W3.heap.size := by have := hW3.size; rwa [size_setMap] at this
  have k3 : ∀ j, j < W.heap.size → W3.heap[j]? = (setMap W br (.map (entsS (SL ++ [S])) (SL.length + 1))).heap[j]? := fun j hj => hW3.block j (by rw [size_setMap]; exact hj)
  have k2 : ∀ j, j < W.heap.size → vs.ownBlock ≠ some j → W2.heap[j]? = (setMap W br (.map (entsS (SL ++ [S])) (SL.length + 1))).heap[j]? := fun j hj hne => (g.block j (Nat.lt_of_lt_of_le hj hz) (fun e => hne e.symm)).trans (k3 j hj)
  refine ⟨⟨o1, ?_, ?_, h.lr⟩, ?_⟩
  · refine own_same h.ar (fun k hk => ?_)
    have hlt := (World.ownsRow.lt h.ar k hk).2
    rw [k2 k hlt (fun e => ?_), heap_setMap_ne _ _ _ (fun e => a2 (by rw [hk, e]))]
    rcases own_apart h.ss h.ar (by decide) with r | r
    · rw [r] at e; cases e
    · exact r (e.trans hk.symm)
  · rw [k2 br hbr a1, heap_setMap _ _ hbr, List.length_append]; rfl
  · have b1 : Below B w0 (setMap W br (.map (entsS (SL ++ [S])) (SL.length + 1))) :=
      h0.trans ⟨rfl, rfl, rfl, by rw [size_setMap]; exact Nat.le_refl _, fun j hj => heap_setMap_ne _ _ _ (by have := h.lr; omega)⟩
    exact (b1.trans (hW3.mono (by rw [size_setMap]; exact hBW))).grown g (Nat.le_trans hBW hz) (fun j hj => (World.ownsRow.lt h.ss j hj).1)
/-- One arrow more. -/
theorem FDI.arrow {w0 : World} {W2 W3 : World} {va' : Value} {x : Arr} (h : FDI B W br vs va SL A) (h0 : Below B w0 W) (hW3 : Below W.heap.size W W3) (o1 : OwnA W2 B va' (A ++ [x])) (g : W3.grownBy W2 va.ownBlock) (hBW : B ≤ W.heap.size) :
    FDI B W2 br vs va' SL (A ++ [x]) ∧ Below B w0 W2 := by
  have h3 := h.below hW3
  obtain ⟨a1, a2⟩ := h3.apart
  refine ⟨⟨own_same h3.ss (fun k hk => g.block k (World.ownsRow.lt h3.ss k hk).2 (fun e => ?_)), o1, ?_, h.lr⟩, ?_⟩
  · rcases own_apart h3.ss h3.ar (by decide) with r | r
    · rw [r] at hk; cases hk
    · exact r (hk.trans e)
  · rw [g.block br (Array.getElem?_eq_some_iff.1 h3.mp).1 (fun e => a2 e.symm)]; exact h3.mp
  · exact (h0.trans (hW3.mono hBW)).grown g (Nat.le_trans hBW hW3.size) (fun j hj => (World.ownsRow.lt h3.ar j hj).1)
end

end Go.Proofs.YtkkkacmccndinaaDoor
namespace Go.Proofs.YtkkkacmccndinaaDoor
open Go.RowKit
set_option linter.unusedVariables false
set_option linter.unusedSectionVars false

/-! What is found among f 0, f 1, .. -/
section
variable {σ τ : Type} [DecidableEq σ] [DecidableEq τ]
/-- The things found, in their order. -/
def fnd (f : Nat → σ) : Nat → List σ
  | 0 => []
  | n + 1 => if f n ∈ fnd f n then fnd f n else fnd f n ++ [f n]
theorem mem_fnd (f : Nat → σ) : ∀ (n : Nat) (s : σ), s ∈ fnd f n ↔ ∃ x, x < n ∧ f x = s
  | 0, s => by simp [fnd]
  | n + 1, s => by
    have ih := mem_fnd f n s
    unfold fnd
    by_cases h : f n ∈ fnd f n
    · rw [if_pos h, ih]
      refine ⟨fun ⟨x, hx, e⟩ => ⟨x, by omega, e⟩, fun ⟨x, hx, e⟩ => ?_⟩
      by_cases hn : x = n
      · subst hn
        obtain ⟨y, hy, e2⟩ := (mem_fnd f x (f x)).1 h
        exact ⟨y, hy, e2.trans e⟩
      · exact ⟨x, by omega, e⟩
    · rw [if_neg h, List.mem_append, ih, List.mem_singleton]
      constructor
      · rintro (⟨x, hx, e⟩ | e)
        · exact ⟨x, by omega, e⟩
        · exact ⟨n, by omega, e.symm⟩
      · rintro ⟨x, hx, e⟩
        by_cases hn : x = n
        · subst hn; exact .inr e.symm
        · exact .inl ⟨x, by omega, e⟩
theorem nodup_fnd (f : Nat → σ) : ∀ n, (fnd f n).Nodup
  | 0 => by simp [fnd]
  | n + 1 => by
    unfold fnd
    by_cases h : f n ∈ fnd f n
    · rw [if_pos h]; exact nodup_fnd f n
    · rw [if_neg h, List.nodup_append]
      refine ⟨nodup_fnd f n, by simp, fun a ha b hb e => ?_⟩
      rw [List.mem_singleton] at hb
      subst hb; subst e; exact h ha
theorem fnd_len (f : Nat → σ) : ∀ n, (fnd f n).length ≤ n
  | 0 => by simp [fnd]
  | n + 1 => by
    have := fnd_len f n
    unfold fnd
    split
    · omega
    · rw [List.length_append, List.length_singleton]; omega
theorem fnd_pre (f : Nat → σ) (n : Nat) : ∀ k, ∃ t, fnd f (n + k) = fnd f n ++ t
  | 0 => ⟨[], by simp⟩
  | k + 1 => by
    obtain ⟨t, ht⟩ := fnd_pre f n k
    rw [← Nat.add_assoc, fnd]
    split
    · exact ⟨t, ht⟩
    · exact ⟨t ++ [f (n + k)], by rw [ht, List.append_assoc]⟩
/-- A finer sign finds no fewer; and where it finds as many, it is no finer. -/
theorem fnd_fine (f : Nat → σ) (g : Nat → τ) : ∀ n, (∀ x y, x < n → y < n → f x = f y → g x = g y) → (fnd g n).length ≤ (fnd f n).length ∧ ((fnd g n).length = (fnd f n).length → ∀ x y, x < n → y < n → g x = g y → f x = f y)
  | 0, _ => ⟨by simp [fnd], fun _ x y hx => by omega⟩
  | n + 1, h => by
    obtain ⟨ih1, ih2⟩ := fnd_fine f g n (fun x y hx hy => h x y (by omega) (by omega))
    unfold fnd
    by_cases hf : f n ∈ fnd f n
    · obtain ⟨z, hz, ez⟩ := (mem_fnd f n _).1 hf
      have egz := h z n (by omega) (by omega) ez
      have hg : g n ∈ fnd g n := (mem_fnd g n _).2 ⟨z, hz, egz⟩
      rw [if_pos hf, if_pos hg]
      refine ⟨ih1, fun hl => ?_⟩
      have key : ∀ x, x < n → g x = g n → f x = f n := fun x hx e => (ih2 hl x z hx hz (e.trans egz.symm)).trans ez
      intro x y hx hy e
      by_cases hxn : x = n
      · by_cases hyn : y = n
        · rw [hxn, hyn]
        · subst hxn; exact (key y (by omega) e.symm).symm
      · by_cases hyn : y = n
        · subst hyn; exact key x (by omega) e
        · exact ih2 hl x y (by omega) (by omega) e
    · rw [if_neg hf, List.length_append, List.length_singleton]
      by_cases hg : g n ∈ fnd g n
      · rw [if_pos hg]
        exact ⟨by omega, fun hl => by omega⟩
      · rw [if_neg hg, List.length_append, List.length_singleton]
        refine ⟨by omega, fun hl => ?_⟩
        have key : ∀ x, x < n → g x ≠ g n := fun x hx e => hg ((mem_fnd g n _).2 ⟨x, hx, e⟩)
        intro x y hx hy e
        by_cases hxn : x = n
        · by_cases hyn : y = n
          · rw [hxn, hyn]
          · subst hxn; exact absurd e.symm (key y (by omega))
        · by_cases hyn : y = n
          · subst hyn; exact absurd e (key x (by omega))
          · exact ih2 (by omega) x y (by omega) (by omega) e
/-- A thing's number among those found. -/
def cls (f : Nat → σ) (n x : Nat) : Nat := (fnd f n).idxOf (f x)
theorem cls_lt (f : Nat → σ) {n x : Nat} (hx : x < n) : cls f n x < (fnd f n).length := List.idxOf_lt_length_of_mem ((mem_fnd f n _).2 ⟨x, hx, rfl⟩)
theorem cls_at (f : Nat → σ) {n x : Nat} (hx : x < n) : (fnd f n)[cls f n x]? = some (f x) := by
  have h := cls_lt f hx
  rw [List.getElem?_eq_getElem h]
  exact congrArg some (List.getElem_idxOf h)
theorem cls_iff (f : Nat → σ) {n x y : Nat} (hx : x < n) (hy : y < n) : cls f n x = cls f n y ↔ f x = f y := by
  refine ⟨fun e => ?_, fun e => by unfold cls; rw [e]⟩
  have h1 := cls_at f hx
  rw [e, cls_at f hy] at h1
  exact (Option.some.inj h1).symm
/-- Numbers stay. -/
theorem cls_stays (f : Nat → σ) {n x : Nat} (hx : x < n) (k : Nat) : cls f (n + k) x = cls f n x := by
  obtain ⟨t, ht⟩ := fnd_pre f n k
  unfold cls
  rw [ht, List.idxOf_append, if_pos ((mem_fnd f n _).2 ⟨x, hx, rfl⟩)]
end

/-! Rounds. -/
/-- A state's sign: its class and its followers' classes. -/
def sgn (d : Mach) (c : Nat → Nat) (x : Nat) : Nat × List Nat := (c x, (List.range d.ev.toNat).map fun (e : Nat) => c (toI d.arrows (x : Int) (e : Int)).toNat)
/-- What a round's classes keep: ends are told, and nothing that no word tells. -/
structure SG (d : Mach) (c : Nat → Nat) : Prop where
  fin : ∀ x y : Nat, (x : Int) < d.st → (y : Int) < d.st → c x = c y → hasB d.ends x = hasB d.ends y
  snd : ∀ x y : Nat, (x : Int) < d.st → (y : Int) < d.st → langS d [(x : Int)] = langS d [(y : Int)] → c x = c y
section
variable {d : Mach}
theorem sgn_iff {c : Nat → Nat} {x y : Nat} : sgn d c x = sgn d c y ↔ c x = c y ∧ ∀ e : Nat, (e : Int) < d.ev → c (toI d.arrows (x : Int) (e : Int)).toNat = c (toI d.arrows (y : Int) (e : Int)).toNat := by
  unfold sgn
  rw [Prod.mk.injEq, List.map_inj_left]
  refine and_congr Iff.rfl ⟨fun h e he => h e (List.mem_range.2 (by omega)), fun h e he => h e (by have := List.mem_range.1 he; omega)⟩
/-- The first round: by the ends alone. -/
theorem sg_first {c : Nat → Nat} (h : ∀ x y : Nat, (x : Int) < d.st → (y : Int) < d.st → (c x = c y ↔ hasB d.ends x = hasB d.ends y)) : SG d c :=
  ⟨fun x y hx hy => (h x y hx hy).1, fun x y hx hy e => (h x y hx hy).2 (by rw [← langS_nil, ← langS_nil, e])⟩
/-- Another round, whatever numbers it gives. -/
theorem sg_next (hd : detB d = true) {c c' : Nat → Nat} (h : SG d c) (hc : ∀ x y : Nat, (x : Int) < d.st → (y : Int) < d.st → (c' x = c' y ↔ sgn d c x = sgn d c y)) : SG d c' := by
  refine ⟨fun x y hx hy e => h.fin x y hx hy (sgn_iff.1 ((hc x y hx hy).1 e)).1, fun x y hx hy e => (hc x y hx hy).2 (sgn_iff.2 ⟨h.snd x y hx hy e, fun ev hev => ?_⟩)⟩
  have q1 := toI_step hd (Int.natCast_nonneg x) hx (Int.natCast_nonneg ev) hev
  have q2 := toI_step hd (Int.natCast_nonneg y) hy (Int.natCast_nonneg ev) hev
  refine h.snd _ _ (by omega) (by omega) ?_
  rw [Int.toNat_of_nonneg q1.2.1, Int.toNat_of_nonneg q2.2.1, ← langS_step hd (Int.natCast_nonneg x) hx hev, ← langS_step hd (Int.natCast_nonneg y) hy hev, e]
/-- Where a round finds no more, the classes are the languages. -/
theorem sg_last (hd : detB d = true) {c : Nat → Nat} (h : SG d c) {n : Nat} (hn : (n : Int) = d.st) (hl : (fnd c n).length = (fnd (sgn d c) n).length) : ∀ s t : Int, 0 ≤ s → s < d.st → 0 ≤ t → t < d.st → (decide (c s.toNat ≠ c t.toNat) = true ↔ langS d [s] ≠ langS d [t]) := by
  have hst := (fnd_fine (sgn d c) c n (fun x y _ _ e => (sgn_iff.1 e).1)).2 hl
  refine apart_iff hd (ap := fun s t => decide (c s.toNat ≠ c t.toNat)) (fun s t s0 s1 t0 t1 he => decide_eq_true (fun e => he ?_)) (fun s t e s0 s1 t0 t1 hev ha => decide_eq_true (fun ec => ?_)) (fun s t s0 s1 t0 t1 ha e => of_decide_eq_true ha ?_)
  · have := h.fin s.toNat t.toNat (by omega) (by omega) e
    rwa [Int.toNat_of_nonneg s0, Int.toNat_of_nonneg t0] at this
  · have := (sgn_iff.1 (hst s.toNat t.toNat (by omega) (by omega) ec)).2 e hev
    rw [Int.toNat_of_nonneg s0, Int.toNat_of_nonneg t0] at this
    exact of_decide_eq_true ha this
  · exact h.snd _ _ (by omega) (by omega) (by rwa [Int.toNat_of_nonneg s0, Int.toNat_of_nonneg t0])
/-- Equal patterns find as many. -/
theorem fnd_same {σ τ : Type} [DecidableEq σ] [DecidableEq τ] (f : Nat → σ) (g : Nat → τ) (n : Nat) (h : ∀ x y, x < n → y < n → (f x = f y ↔ g x = g y)) : (fnd f n).length = (fnd g n).length :=
  Nat.le_antisymm (fnd_fine g f n (fun x y hx hy e => (h x y hx hy).2 e)).1 (fnd_fine f g n (fun x y hx hy e => (h x y hx hy).1 e)).1
theorem fnd_pos {σ : Type} [DecidableEq σ] (f : Nat → σ) {n : Nat} (hn : 0 < n) : 0 < (fnd f n).length := List.length_pos_of_mem ((mem_fnd f n (f 0)).2 ⟨0, hn, rfl⟩)
/-- As many rounds as there are states are enough. -/
theorem sg_rounds (hd : detB d = true) {n : Nat} (hn : (n : Int) = d.st) (hn0 : 0 < n) (C : Nat → Nat → Nat) (hC : ∀ (k x y : Nat), x < n → y < n → (C (k + 1) x = C (k + 1) y ↔ sgn d (C k) x = sgn d (C k) y)) : ∀ k, k + 1 ≤ (fnd (C k) n).length ∨ (fnd (C k) n).length = (fnd (sgn d (C k)) n).length
  | 0 => .inl (fnd_pos _ hn0)
  | k + 1 => by
    have hs := fnd_same _ _ n (hC k)
    have hf := fnd_fine (sgn d (C k)) (C k) n (fun x y _ _ e => (sgn_iff.1 e).1)
    by_cases hl : (fnd (C k) n).length = (fnd (sgn d (C k)) n).length
    · have hst := hf.2 hl
      have e1 : ∀ x y, x < n → y < n → (C (k + 1) x = C (k + 1) y ↔ C k x = C k y) := fun x y hx hy => (hC k x y hx hy).trans ⟨fun e => (sgn_iff.1 e).1, hst x y hx hy⟩
      refine .inr (fnd_same _ _ n fun x y hx hy => ⟨fun e => sgn_iff.2 ⟨e, fun ev hev => ?_⟩, fun e => (sgn_iff.1 e).1⟩)
      have q1 := toI_step hd (Int.natCast_nonneg x) (by omega) (Int.natCast_nonneg ev) hev
      have q2 := toI_step hd (Int.natCast_nonneg y) (by omega) (Int.natCast_nonneg ev) hev
      exact (e1 _ _ (by omega) (by omega)).2 ((sgn_iff.1 (hst x y hx hy ((e1 x y hx hy).1 e))).2 ev hev)
    · rcases sg_rounds hd hn hn0 C hC k with h | h
      · exact .inl (by omega)
      · exact absurd h hl
theorem sg_enough (hd : detB d = true) {n : Nat} (hn : (n : Int) = d.st) (hn0 : 0 < n) (C : Nat → Nat → Nat) (hC : ∀ (k x y : Nat), x < n → y < n → (C (k + 1) x = C (k + 1) y ↔ sgn d (C k) x = sgn d (C k) y)) {k : Nat} (hk : n ≤ k + 1) : (fnd (C k) n).length = (fnd (sgn d (C k)) n).length := by
  rcases sg_rounds hd hn hn0 C hC k with h | h
  · have h1 := fnd_len (C k) n
    have h2 := (fnd_fine (sgn d (C k)) (C k) n (fun x y _ _ e => (sgn_iff.1 e).1)).1
    have h3 := fnd_len (sgn d (C k)) n
    omega
  · exact h
end

end Go.Proofs.YtkkkacmccndinaaDoor
