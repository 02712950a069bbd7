/-
  Rows that are asked for, and held against each other: what is left.
  What control.Keep leaves.
  Plain: how the program finds what is lost: what can't be forbidden leads to it. No program, no model.
  The walk of control.all.
  The walk of control.forced: of each state, where events lead to that can't be forbidden.
-/
import Derived.Test.YtmlkpdeidpcidaaDoorJ05
import Derived.Test.YtmlkpdeidpcidaaDoorJ10
import Derived.Test.YtmlkpdeidpcidaaDoorJ20
import Derived.Test.YtmlkpdeidpcidaaDoorJ16
import Derived.Deep.RegionHeld3
import Derived.Test.YtmlkpdeidpcidaaDoorJ12
import Derived.Test.YtmlkpdeidpcidaaDoorFSetOps
import Derived.Test.YtmlkpdeidpcidaaDoorJ14
import Derived.Test.YtmlkpdeidpcidaaDoorJ08
namespace Go.Proofs.YtmlkpdeidpcidaaDoor
open Go.RowKit
set_option linter.unusedVariables false

theorem isB_any (a : Option Addr) (cap : Nat) (xs : List Int) (n : Int) (w : World) (hs : At w a xs) (hl : xs.length ≤ maxLen) :
    Calls Tryd.prog 17 #[.slice a xs.length cap, .int .i64 n] w fun e w' => e = .returned (.bool (rowB n xs)) ∧ Below w.heap.size w w' := by
  refine (refIs_any a cap xs n w hs hl).mono ?_
  rintro e w' ⟨h1, q, rfl⟩
  exact ⟨h1, below_drewN (Below.refl _ _) q⟩
theorem sameS_any (a b : Option Addr) (ca cb : Nat) (xs : List Int) (w : World) (hs : At w a xs) (ht : At w b xs) (hl : xs.length ≤ maxLen) :
    Calls Tryd.prog 19 #[.slice a xs.length ca, .slice b xs.length cb] w fun e w' => e = .returned (.bool true) ∧ Below w.heap.size w w' := by
  refine (same_any a b ca cb xs xs w hs ht hl hl).mono ?_
  rintro e w' ⟨h1, q, rfl⟩
  refine ⟨?_, below_drewN (Below.refl _ _) q⟩
  rw [h1]; unfold sameB; simp

end Go.Proofs.YtmlkpdeidpcidaaDoor
namespace Go.Proofs.YtmlkpdeidpcidaaDoor
open Go.RowKit
set_option linter.unusedVariables false

/-- What is left by a call that hands back a list and an error. -/
def CtlPost (w : World) (r : List Int × Int) (e : Ending) (w' : World) : Prop := ∃ va vc, e = .returned (.tuple #[.slice va r.1.length vc, .int .i64 r.2]) ∧ At w' va r.1 ∧ r.1.length ≤ maxLen ∧ Below w.heap.size w w'

end Go.Proofs.YtmlkpdeidpcidaaDoor
namespace Go.Proofs.YtmlkpdeidpcidaaDoor
open Go.RowKit
set_option linter.unusedVariables false

/-- The first states. -/
def firF : Nat → Nat → Nat
  | 0 => zeroS
  | n + 1 => withS (firF n) n
theorem ok_firF : ∀ n, okS (firF n)
  | 0 => okS_zero
  | n + 1 => okS_with (ok_firF n) n
theorem has_firF (k : Nat) : ∀ n, hasS (firF n) k = decide (k < n)
  | 0 => by simp [firF, hasS_zero]
  | n + 1 => by
    rw [firF, hasS_with, has_firF k n]
    by_cases h : k < n
    · simp [h, Nat.lt_succ_of_lt h]
    · by_cases e : k = n
      · simp [e]
      · have : ¬ k < n + 1 := by omega
        simp [h, e, this]

theorem repC_rowS {S : Nat → Nat} (h : okS S) : Rep S (rowS S) := ⟨h, fun x hx => by have := (mem_rowS S x).1 hx; omega, fun n hn => by
  rw [mem_rowS, Int.toNat_natCast]
  exact ⟨fun h => ⟨by omega, by omega, h⟩, fun h => h.2.2⟩⟩
theorem meetC_has {S T : Nat → Nat} (h : okS S) (h' : okS T) : meetB S T = true ↔ ∃ n, n < 256 ∧ hasS S n = true ∧ hasS T n = true := by
  rw [meet_iff (repC_rowS h) (repC_rowS h'), decide_eq_true_eq, List.length_pos_iff_exists_mem]
  constructor
  · rintro ⟨x, hx⟩
    obtain ⟨h1, h2⟩ := List.mem_filter.1 hx
    have h2 : hasB (rowS T) x = true := by simpa using h2
    have k1 := (mem_rowS S x).1 h1
    have k2 := (mem_rowS T x).1 ((hasB_iff _ _).1 h2)
    exact ⟨x.toNat, by omega, k1.2.2, k2.2.2⟩
  · rintro ⟨n, hn, h1, h2⟩
    refine ⟨(n : Int), List.mem_filter.2 ⟨(mem_rowS S _).2 ⟨by omega, by omega, by rwa [Int.toNat_natCast]⟩, ?_⟩⟩
    rw [(hasB_iff _ _).2 ((mem_rowS T _).2 ⟨by omega, by omega, by rwa [Int.toNat_natCast]⟩)]; rfl

/-- Where each state leads to at events that can't be forbidden. -/
def fcT (free : List Int) (ars : List Arr) : Nat → Nat → Nat := tabK (·.f) (·.t) (ars.filter fun a => !hasB free a.e)
theorem fcT_take {free : List Int} {ars : List Arr} {k : Nat} {a : Arr} (h : k < ars.length) (ha : Hid (a = ars[k]?.getD arr0)) :
    fcT free (ars.take (k + 1)) = if hasB free a.e = true then fcT free (ars.take k) else tabKStep (·.f) (·.t) (fcT free (ars.take k)) a := by
  have ha := ha.out
  rw [List.getElem?_eq_getElem h, Option.getD_some] at ha
  unfold fcT
  rw [List.take_add_one, List.getElem?_eq_getElem h, ← ha, List.filter_append]
  by_cases hh : hasB free a.e = true
  · rw [if_pos hh]; simp [hh]
  · rw [if_neg hh]
    have hf : hasB free a.e = false := by simpa using hh
    simp [hf, tabK, List.foldl_append]
theorem ok_fcT (free : List Int) (ars : List Arr) (p : Nat) : okS (fcT free ars p) := okS_tabK _ _ _ p
theorem has_fcT (free : List Int) (ars : List Arr) (p n : Nat) : hasS (fcT free ars p) n = true ↔ ∃ a ∈ ars, hasB free a.e = false ∧ p = a.f.toNat ∧ n = a.t.toNat := by
  unfold fcT
  rw [has_tabK]
  constructor
  · rintro ⟨a, ha, h⟩
    obtain ⟨h1, h2⟩ := List.mem_filter.1 ha
    exact ⟨a, h1, by simpa using h2, h⟩
  · rintro ⟨a, ha, h1, h⟩
    exact ⟨a, List.mem_filter.2 ⟨ha, by simp [h1]⟩, h⟩

/-- What is lost: it has what is bad, and nothing but what must lead there. -/
structure SpIC (N : Nat) (T : Nat → Nat → Nat) (L0 L : Nat → Nat) : Prop where
  ok : okS L
  sub : ∀ n, n < 256 → hasS L0 n = true → hasS L n = true
  only : ∀ P : Nat → Prop, (∀ n, n < 256 → hasS L0 n = true → P n) → (∀ n t, n < N → t < 256 → hasS (T n) t = true → P t → P n) → ∀ n, n < 256 → hasS L n = true → P n
theorem SpIC.start {N : Nat} {T : Nat → Nat → Nat} {L0 : Nat → Nat} (h : okS L0) : SpIC N T L0 L0 := ⟨h, fun _ _ h => h, fun P h0 _ n hn h => h0 n hn h⟩
theorem SpIC.more {N : Nat} {T : Nat → Nat → Nat} {L0 L : Nat → Nat} (h : SpIC N T L0 L) (hT : ∀ n, okS (T n)) {n : Nat} (hn : n < N) (hm : meetB (T n) L = true) : SpIC N T L0 (withS L n) := by
  refine ⟨okS_with h.ok n, fun k hk h0 => by rw [hasS_with, h.sub k hk h0]; rfl, fun P h0 h1 k hk hh => ?_⟩
  rw [hasS_with, Bool.or_eq_true, decide_eq_true_eq] at hh
  rcases hh with hh | rfl
  · exact h.only P h0 h1 k hk hh
  · obtain ⟨t, ht, a, b⟩ := (meetC_has (hT k) h.ok).1 hm
    exact h1 k t hn ht a (h.only P h0 h1 t ht b)
/-- How many are not lost yet. -/
def cntF (N : Nat) (L : Nat → Nat) : Nat := ((List.range N).filter fun n => !hasS L n).length
theorem cnt_lt {N : Nat} {L : Nat → Nat} {n : Nat} (hn : n < N) (h : hasS L n = false) : cntF N (withS L n) < cntF N L := by
  unfold cntF
  have e : ((List.range N).filter fun k => !hasS (withS L n) k) = (((List.range N).filter fun k => !hasS L k).filter fun k => decide (k ≠ n)) := by
    rw [List.filter_filter]
    refine List.filter_congr fun k _ => ?_
    rw [hasS_with]
    by_cases e : k = n <;> cases hasS L k <;> simp [e]
  rw [e]
  refine List.length_filter_lt_length_iff_exists.2 ⟨n, List.mem_filter.2 ⟨List.mem_range.2 hn, by simp [h]⟩, by simp⟩
/-- A set with one more is the same where it had it. -/
theorem with_same {L : Nat → Nat} {n : Nat} (hn : n < 256) : (withS L n 0 = L 0 ∧ withS L n 1 = L 1 ∧ withS L n 2 = L 2 ∧ withS L n 3 = L 3) ↔ hasS L n = true := by
  have key : L (n / 64) ||| 2 ^ (n % 64) = L (n / 64) ↔ hasS L n = true := by
    unfold hasS
    constructor
    · intro h
      rw [← h, Nat.testBit_or]; simp
    · intro h
      refine Nat.eq_of_testBit_eq fun i => ?_
      rw [Nat.testBit_or, Nat.testBit_two_pow]
      by_cases e : n % 64 = i
      · subst e; simp [h]
      · simp [e]
  have : n / 64 = 0 ∨ n / 64 = 1 ∨ n / 64 = 2 ∨ n / 64 = 3 := by omega
  rcases this with h | h | h | h <;> (rw [← key, h]; simp [withS, h])
def sameC (S T : Nat → Nat) : Bool := decide (S 0 = T 0 ∧ S 1 = T 1 ∧ S 2 = T 2 ∧ S 3 = T 3)
theorem same_with {L : Nat → Nat} {n : Nat} (hn : n < 256) : sameC (withS L n) L = hasS L n := by
  unfold sameC
  cases h : hasS L n with
  | true => exact decide_eq_true ((with_same hn).2 h)
  | false => exact decide_eq_false fun hh => by rw [(with_same hn).1 hh] at h; cases h
/-- What is left of all states is what to keep to. -/
theorem spoil_keep {m : Mach} {free bad : List Int} {L : Nat → Nat} (hm : mayB m = true) (hb : rowB m.st bad = true) (h : SpIC m.st.toNat (fcT free m.arrows) (ofS bad) L)
    (he : ∀ n, n < m.st.toNat → hasS L n = false → meetB (fcT free m.arrows n) L = false) : rowS (lessS (firF m.st.toNat) L) = keepL m free bad := by
  have hz := mayB_size hm
  unfold sizeOk at hz
  have hbb := ((rowB_iff _ (by omega) _).1 hb).2
  have hR : Rep (ofS bad) bad := by
    have := rep_of (l := bad) (fun x hx => by have := hbb x hx; omega) bad.length
    rwa [List.take_of_length_le (Nat.le_refl _)] at this
  have hmem : ∀ x : Int, x ∈ rowS (lessS (firF m.st.toNat) L) ↔ (0 ≤ x ∧ x < m.st) ∧ hasS L x.toNat = false := fun x => by
    rw [mem_rowS, hasS_less h.ok, has_firF]
    by_cases e : hasS L x.toNat = true
    · simp [e]
    · have e' : hasS L x.toNat = false := by simpa using e
      simp [e']
      omega
  refine keep_is hm (inc_rowS _) (fun x hx => ((hmem x).1 hx).1) ((safeB_iff _ _ _ _).2 ⟨fun x hx hbad => ?_, fun a ha hf hfree => ?_⟩) fun x hx => ?_
  · obtain ⟨h1, h2⟩ := (hmem x).1 hx
    have h3 := h.sub x.toNat (by omega) ((hR.mem x.toNat (by omega)).2 (by rw [Int.toNat_of_nonneg h1.1]; exact hbad))
    rw [h2] at h3; cases h3
  · obtain ⟨h1, h2⟩ := (hmem _).1 hf
    have hin := may_arrs hm a ha
    refine (hmem _).2 ⟨⟨hin.2.2.1, hin.2.2.2.1⟩, ?_⟩
    cases ht : hasS L a.t.toNat with
    | false => rfl
    | true =>
      have h3 := he a.f.toNat (by omega) h2
      have h4 : meetB (fcT free m.arrows a.f.toNat) L = true := (meetC_has (ok_fcT _ _ _) h.ok).2 ⟨a.t.toNat, by have := hin.2.2.2.1; have := hin.2.2.1; omega, (has_fcT _ _ _ _).2 ⟨a, ha, by unfold hasB; simpa using hfree, rfl, rfl⟩, ht⟩
      rw [h3] at h4; cases h4
  · have hbd := keep_bd hm free bad x hx
    refine (hmem x).2 ⟨hbd, ?_⟩
    cases ht : hasS L x.toNat with
    | false => rfl
    | true =>
      have := h.only (fun n => ((n : Nat) : Int) ∉ keepL m free bad) (fun n hn h0 => keep_bad hm ((hR.mem n hn).1 h0)) (fun n t hn ht hh hp => ?_) x.toNat (by omega) ht
      · rw [Int.toNat_of_nonneg hbd.1] at this
        exact absurd hx this
      · obtain ⟨a, ha, h1, rfl, rfl⟩ := (has_fcT _ _ _ _).1 hh
        have hin := may_arrs hm a ha
        rw [Int.toNat_of_nonneg hin.1]
        rw [Int.toNat_of_nonneg hin.2.2.1] at hp
        exact fun hk => hp (((safeB_iff _ _ _ _).1 (keep_safe hm free bad)).2 a ha hk (by unfold hasB at h1; simpa using h1))

end Go.Proofs.YtmlkpdeidpcidaaDoor
namespace Go.Proofs.YtmlkpdeidpcidaaDoor
open Go.RowKit
set_option linter.unusedVariables false

abbrev zs4c : Array Value := #[.int .u64 0, .int .u64 0, .int .u64 0, .int .u64 0]
set_option maxRecDepth 100000 in
set_option maxHeartbeats 4000000 in
theorem call_all (m : Mach) (l : ML) (N : Nat) (hN : Hid (m.st = (N : Int))) (h256 : N ≤ 256) (w : World) :
    Calls Tryd.prog 197 #[mval m l] w fun e w' => e = .returned (sval (firF N)) ∧ Below w.heap.size w w' := by
  have B : Hid (Below w.heap.size w (((w.alloc (.cells (mcells m l) 25)).alloc (.cells zs4c 85)).alloc (.cells zs4c 85))) := (((Below.refl _ _).alloc (Nat.le_refl _) _).alloc (by simp) _).alloc (by simp; omega) _
  have KP : Hid (Blk (((w.alloc (.cells (mcells m l) 25)).alloc (.cells zs4c 85)).alloc (.cells zs4c 85)) w.heap.size 25 (mcells m l)) := ((Blk.new w _ _).alloc _).alloc _
  have KR : Hid (SB (((w.alloc (.cells (mcells m l) 25)).alloc (.cells zs4c 85)).alloc (.cells zs4c 85)) (w.heap.size + 1) zeroS) := by
    have := (Blk.new (w.alloc (.cells (mcells m l) 25)) 85 zs4c).alloc (.cells zs4c 85)
    rwa [World.size_alloc] at this
  have KS : Hid (SB (((w.alloc (.cells (mcells m l) 25)).alloc (.cells zs4c 85)).alloc (.cells zs4c 85)) (w.heap.size + 1 + 1) (firF 0)) := by
    have := Blk.new ((w.alloc (.cells (mcells m l) 25)).alloc (.cells zs4c 85)) 85 zs4c
    rwa [World.size_alloc, World.size_alloc] at this
  go_enter Tryd.func197, Tryd.ntmps197
  have x0 : (((w.alloc (.cells (mcells m l) 25)).alloc (.cells zs4c 85)).alloc (.cells zs4c 85)).cell? ⟨w.heap.size, 0, none⟩ = some (.int .i64 (N : Int)) := by rw [← hN.out]; exact KP.out.cell 0 rfl
  go_wp2_with fail
  clear x0
  revert B KP KR KS
  generalize (((w.alloc (.cells (mcells m l) 25)).alloc (.cells zs4c 85)).alloc (.cells zs4c 85)) = V0
  intro B KP KR KS
  go_loopw [7] (fun i wr => ∃ k : Nat, k ≤ N ∧ i = .int .i64 k ∧ Hid (SB wr (w.heap.size + 1 + 1) (firF k)) ∧ Hid (Below (w.heap.size + 1 + 1) V0 wr)) (fun i _ => N - (intOf i).toNat)
  case atStart => exact ⟨0, Nat.zero_le _, rfl, KS, Below.refl _ _⟩
  case round =>
    clear KS
    obtain ⟨k, hk, rfl, LS, LB⟩ := hrel
    obtain ⟨Q, HQ⟩ : ∃ Q, Hid (Q = firF k) := ⟨_, rfl⟩
    have hok : Hid (okS Q) := by show okS Q; rw [HQ.out]; exact ok_firF k
    rw [← HQ.out] at LS
    by_cases hlt : k < N
    · obtain ⟨s0, s1, s2, s3⟩ := SB.cells LS.out
      go_wp2_with fail
      refine (with_any Q (k : Int) _ hok.out (by omega) (by omega)).mono ?_
      rintro e w1 ⟨rfl, hb⟩
      rw [Int.toNat_natCast]
      have L1 := Hid.of (LS.out.below hb LS.out.lt)
      have B1 := Hid.of (LB.out.trans (hb.mono (Nat.le_trans (Nat.le_of_lt LS.out.lt) (Nat.le_refl _))))
      clear s0 s1 s2 s3 hb
      have fz := L1.out.frozen
      obtain ⟨s0, s1, s2, s3⟩ := SB.cells L1.out
      have L2 := Hid.of (SB.set4 L1.out (withS Q k))
      have B2 := Hid.of (below_set4 B1.out (b' := w.heap.size + 1 + 1) (Nat.le_refl _) (.int .u64 (withS Q k 0)) (.int .u64 (withS Q k 1)) (.int .u64 (withS Q k 2)) (.int .u64 (withS Q k 3)))
      go_wp2_with fail
      go_roundw
      case rel => exact ⟨k + 1, by omega, by go_num, by rw [firF, ← HQ.out]; exact L2, B2⟩
      case measure => simp [intOf]; omega
    · have hk2 : N ≤ k := by omega
      have HK : Hid (k = N) := by show k = N; omega
      clear hlt
      have BW := Hid.of (B.out.trans (LB.out.mono (by omega)))
      have RW := Hid.of (KR.out.below LB.out (by omega))
      obtain ⟨s0, s1, s2, s3⟩ := SB.cells LS.out
      obtain ⟨r0, r1, r2, r3⟩ := SB.cells RW.out
      have rz := RW.out.frozen
      have RR := Hid.of (SB.set4 RW.out Q)
      have BB := Hid.of (below_set4 BW.out (b' := w.heap.size + 1) (by omega) (.int .u64 (Q 0)) (.int .u64 (Q 1)) (.int .u64 (Q 2)) (.int .u64 (Q 3)))
      go_wp2_with fail
      clear r0 r1 r2 r3 s0 s1 s2 s3
      obtain ⟨r0, r1, r2, r3⟩ := SB.cells RR.out
      refine bodyPost_ret (v := sval Q) ?_ rfl ⟨by rw [HQ.out, HK.out], BB.out⟩
      simp [results, go_sem, r0, r1, r2, r3]

end Go.Proofs.YtmlkpdeidpcidaaDoor
namespace Go.Proofs.YtmlkpdeidpcidaaDoor
open Go.RowKit
set_option linter.unusedVariables false

/-- What forced knows of the memory: the machine, the table, and that nothing else has turned. -/
structure FCI (w W : World) (m : Mach) (l : ML) (N : Nat) (T : Nat → Nat → Nat) : Prop where
  blk : Blk W w.heap.size 25 (mcells m l)
  tb : TB W (w.heap.size + 1) N T
  bel : Below w.heap.size w W
theorem FCI.below {w W W' : World} {m : Mach} {l : ML} {N : Nat} {T : Nat → Nat → Nat} (h : FCI w W m l N T) (hb : Below W.heap.size W W') : FCI w W' m l N T :=
  ⟨h.blk.below hb h.blk.lt, h.tb.below hb h.tb.lt, h.bel.trans (hb.mono h.bel.size)⟩
theorem FCI.drew {w W : World} {m : Mach} {l : ML} {N : Nat} {T : Nat → Nat → Nat} (h : FCI w W m l N T) : FCI w W.drew m l N T := ⟨h.blk, h.tb, h.bel.drew⟩
theorem FCI.alloc {w W : World} {m : Mach} {l : ML} {N : Nat} {T : Nat → Nat → Nat} (h : FCI w W m l N T) (o : Obj) : FCI w (W.alloc o) m l N T := h.below ((Below.refl _ _).alloc (Nat.le_refl _) o)
theorem FCI.store {w W : World} {m : Mach} {l : ML} {N p : Nat} {T : Nat → Nat → Nat} (h : FCI w W m l N T) (hp : p < N) (U : Nat → Nat) :
    FCI w ((((W.setCell ⟨w.heap.size + 1, p * 4, none⟩ (.int .u64 (U 0))).setCell ⟨w.heap.size + 1, p * 4 + 1, none⟩ (.int .u64 (U 1))).setCell ⟨w.heap.size + 1, p * 4 + 2, none⟩ (.int .u64 (U 2))).setCell ⟨w.heap.size + 1, p * 4 + 3, none⟩ (.int .u64 (U 3))) m l N (fun q => if q = p then U else T q) :=
  ⟨Blk.other4' h.blk (p * 4) (by omega) _ _ _ _, TB.store h.tb hp U, below_set4' h.bel (p * 4) (by omega) _ _ _ _⟩
theorem FCI.lt {w W : World} {m : Mach} {l : ML} {N : Nat} {T : Nat → Nat → Nat} (h : FCI w W m l N T) : w.heap.size < W.heap.size ∧ w.heap.size + 1 < W.heap.size := ⟨h.blk.lt, h.tb.lt⟩
set_option maxRecDepth 100000 in
set_option maxHeartbeats 4000000 in
theorem forced_any (st : Nat) (ev : Int) (starts : List Int) (ars : List Arr) (ends : List Int) (a1 : Option Addr) (c1 : Nat) (a2 : Option Addr) (c2 : Nat) (a3 : Option Addr) (c3 : Nat) (sa : Option Addr) (sc : Nat) (free : List Int) (w : World) (hst : st ≤ 256) (hlen : ars.length ≤ 4096) (hA : Hid (AtA w a2 ars)) (hin : Hid (∀ a ∈ ars, (0 ≤ a.f ∧ a.f < st) ∧ 0 ≤ a.t ∧ a.t < st)) (hs : Hid (At w sa free)) (hsl : Hid (free.length ≤ maxLen)) :
    Calls Tryd.prog 196 #[mval ⟨st, ev, starts, ars, ends⟩ ⟨a1, c1, a2, c2, a3, c3⟩, .slice sa free.length sc] w fun e w' => e = .returned (.slice (some ⟨w.heap.size + 1, 0, none⟩) st st) ∧ TB w' (w.heap.size + 1) st (fcT free ars) ∧ Below w.heap.size w w' := by
  obtain ⟨i0, hi, hz0, hz1, hz2⟩ := info_parts Tryd.infoSet
  have hmk : ∀ w : World, (Instr.makeSlice 100 (.int .i64 st) (.int .i64 st)).run Tryd.prog w = .ok (.slice (some ⟨w.heap.size, 0, none⟩) st st) (w.alloc (.cells (madeCells #[.int .u64 0, .int .u64 0, .int .u64 0, .int .u64 0] (st * 4)) 85)) := fun w => by
    have := run_make (P := Tryd.prog) w 100 85 i0 (sval zeroS) Tryd.underlying100 hi hz0 .i64 .i64 st st (by omega) (by omega) (by rw [hz2]; omega) (by omega)
    rw [hz1, Int.toNat_natCast] at this
    exact this
  clear hi hz0 hz1 hz2
  have Q0 : Hid (FCI w ((w.alloc (.cells (mcells ⟨st, ev, starts, ars, ends⟩ ⟨a1, c1, a2, c2, a3, c3⟩) 25)).alloc (.cells (madeCells #[.int .u64 0, .int .u64 0, .int .u64 0, .int .u64 0] (st * 4)) 85)) ⟨st, ev, starts, ars, ends⟩ ⟨a1, c1, a2, c2, a3, c3⟩ st (fcT free (ars.take 0))) := by
    refine ⟨(Blk.new w _ _).alloc _, ?_, ((Below.refl _ _).alloc (Nat.le_refl _) _).alloc (by simp) _⟩
    refine TB.made ?_
    have := Blk.new (w.alloc (.cells (mcells ⟨st, ev, starts, ars, ends⟩ ⟨a1, c1, a2, c2, a3, c3⟩) 25)) 85 (madeCells #[.int .u64 0, .int .u64 0, .int .u64 0, .int .u64 0] (st * 4))
    rwa [World.size_alloc] at this
  go_enter Tryd.func196, Tryd.ntmps196
  go_wp2
  revert Q0
  generalize (w.alloc (.cells (mcells ⟨st, ev, starts, ars, ends⟩ ⟨a1, c1, a2, c2, a3, c3⟩) 25)).alloc (.cells (madeCells #[.int .u64 0, .int .u64 0, .int .u64 0, .int .u64 0] (st * 4)) 85) = W0
  intro Q0
  go_loopw [14] (fun i wr => ∃ j : Nat, j ≤ ars.length ∧ i = .int .i64 j ∧ Hid (FCI w wr ⟨st, ev, starts, ars, ends⟩ ⟨a1, c1, a2, c2, a3, c3⟩ st (fcT free (ars.take j)))) (fun i _ => ars.length - (intOf i).toNat)
  case atStart => exact ⟨0, by omega, rfl, Q0⟩
  case round =>
    obtain ⟨j, hj, rfl, QQ⟩ := hrel
    by_cases hlt : j < ars.length
    · rcases hA.out with h0 | ⟨b, off, rfl, hb, hca⟩
      · rw [h0] at hlt; simp at hlt
      obtain ⟨a, HA, y1, y2, y3⟩ := hca.at hlt
      have hia : (0 ≤ a.f ∧ a.f < st) ∧ 0 ≤ a.t ∧ a.t < st := by
        have h := HA.out
        rw [List.getElem?_eq_getElem hlt, Option.getD_some] at h
        rw [h]; exact hin.out _ (List.getElem_mem hlt)
      obtain ⟨f, ef⟩ : ∃ f : Nat, a.f = (f : Int) := ⟨a.f.toNat, by omega⟩
      obtain ⟨e, ee⟩ : ∃ e : Int, a.e = e := ⟨_, rfl⟩
      obtain ⟨t, et⟩ : ∃ t : Nat, a.t = (t : Int) := ⟨a.t.toNat, by omega⟩
      rw [ef] at y1
      rw [ee] at y2
      rw [et] at y3
      have hf : f < st := by omega
      have ht : t < st := by omega
      have HN1 : hasB free e = true → Hid (fcT free (ars.take (j + 1)) = fcT free (ars.take j)) := fun h => by
        show _ = _
        rw [fcT_take hlt HA, ee, if_pos h]
      have HN2 : hasB free e = false → Hid (fcT free (ars.take (j + 1)) = fun r => if r = f then withS (fcT free (ars.take j) f) t else fcT free (ars.take j) r) := fun h => by
        show _ = _
        rw [fcT_take hlt HA, ee, if_neg (by rw [h]; simp)]
        funext r
        simp only [tabKStep, ef, et, Int.toNat_natCast]
        by_cases e : r = f
        · subst e; simp only [if_true]
        · rw [if_neg e, if_neg e]
      have hp0 : (0 : Int) ≤ (f : Int) := by omega
      have hpI : (f : Int) < (st : Int) := by omega
      clear hia ef ee et HA
      have z1 := (QQ.out.bel.cell (p := ⟨b, off + j * 3, none⟩) hb).trans y1
      have z2 := (QQ.out.bel.cell (p := ⟨b, off + j * 3 + 1, none⟩) hb).trans y2
      have z3 := (QQ.out.bel.cell (p := ⟨b, off + j * 3 + 2, none⟩) hb).trans y3
      have QV := Hid.of (QQ.out.alloc (.cells #[.int .i64 f, .int .i64 e, .int .i64 t] 81))
      have HAV := Hid.of (Blk.new wr 81 #[.int .i64 f, .int .i64 e, .int .i64 t])
      have HSZ : Hid ((wr.alloc (.cells #[.int .i64 f, .int .i64 e, .int .i64 t] 81)).heap.size = wr.heap.size + 1) := World.size_alloc _ _
      have l1 := QQ.out.lt
      clear y1 y2 y3 hca QQ
      try clear x0 x1 x2 x3 x4
      go_wp2_with fail
      revert QV HAV HSZ
      generalize wr.alloc (.cells #[.int .i64 f, .int .i64 e, .int .i64 t] 81) = V
      intro QV HAV HSZ
      refine (rowHas_any sa sc free e _ (hs.out.below QV.out.bel (Nat.le_refl _)) hsl.out).mono ?_
      rintro e' V ⟨rfl, rfl⟩
      clear z1 z2 z3
      cases hh : hasB free e with
      | true =>
        have HN := HN1 hh
        clear HN1 HN2 HAV HSZ hh
        go_wp2
        go_roundw
        case rel =>
          refine ⟨j + 1, by omega, by go_num, ?_⟩
          rw [HN.out]; exact QV
        case measure => simp [intOf]; omega
      | false =>
        have HN := HN2 hh
        clear HN1 HN2 hh
        obtain ⟨t0, t1, t2, t3⟩ := QV.out.tb.cells hf
        have d1 : V.cell? ⟨wr.heap.size, 0, none⟩ = some (.int .i64 f) := HAV.out.cell 0 rfl
        have d2 : V.cell? ⟨wr.heap.size, 2, none⟩ = some (.int .i64 t) := HAV.out.cell 2 rfl
        have hsz := HSZ.out
        obtain ⟨R, HR⟩ : ∃ R, Hid (R = fcT free (ars.take j) f) := ⟨_, rfl⟩
        have hok : Hid (okS R) := by show okS R; rw [HR.out]; exact ok_fcT _ _ _
        rw [← HR.out] at t0 t1 t2 t3
        have QVd := Hid.of QV.out.drew
        have HAd : Hid (Blk V.drew wr.heap.size 81 #[.int .i64 f, .int .i64 e, .int .i64 t]) := HAV.out
        have hne1 : ¬ w.heap.size + 1 = wr.heap.size := by omega
        have hne2 : ¬ wr.heap.size = w.heap.size + 1 := by omega
        clear QV
        go_wp2
        go_region_with (go_at_call 118; refine (with_any R t _ hok.out (by omega) (by omega)).mono ?_; rintro e' w1 ⟨rfl, hb1⟩; have QW := Hid.of (QVd.out.below hb1); obtain ⟨v0, v1, v2, v3⟩ := QW.out.tb.cells hf; rw [← HR.out] at v0 v1 v2 v3; have fz := QW.out.tb.frozen; have d3 : w1.cell? ⟨wr.heap.size, 0, none⟩ = some (.int .i64 f) := (Blk.below HAd.out hb1 (show _ < V.heap.size by omega)).cell 0 rfl; have d4 : w1.cell? ⟨wr.heap.size, 2, none⟩ = some (.int .i64 t) := (Blk.below HAd.out hb1 (show _ < V.heap.size by omega)).cell 2 rfl)
        all_goals
          have Q4 := Hid.of (QW.out.store hf (withS R t))
          clear v0 v1 v2 v3 d1 d2 d3 d4 fz hb1 QW QVd HAd t0 t1 t2 t3
          revert Q4
          generalize ((((w1.setCell ⟨w.heap.size + 1, f * 4, none⟩ (.int .u64 (withS R t 0))).setCell ⟨w.heap.size + 1, f * 4 + 1, none⟩ (.int .u64 (withS R t 1))).setCell ⟨w.heap.size + 1, f * 4 + 2, none⟩ (.int .u64 (withS R t 2))).setCell ⟨w.heap.size + 1, f * 4 + 3, none⟩ (.int .u64 (withS R t 3))) = X
          intro Q4
          go_wp2
          go_roundw
          case rel =>
            refine ⟨j + 1, by omega, by go_num, ?_⟩
            rw [HN.out, ← HR.out]; exact Q4
          case measure => simp [intOf]; omega
    · have hj2 : ars.length = j := by omega
      subst hj2
      rw [List.take_of_length_le (Nat.le_refl _)] at QQ
      go_wp2
      go_ret
      exact ⟨rfl, QQ.out.tb, QQ.out.bel⟩

end Go.Proofs.YtmlkpdeidpcidaaDoor
