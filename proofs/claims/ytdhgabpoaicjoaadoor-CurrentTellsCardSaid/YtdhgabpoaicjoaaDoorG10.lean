/-
  Plain mathematics of what a set of states leads to, in any number of steps. No program, no model.
  The walks of Set.Meet and Set.Less.
  The walk of machine.Of: a set of a list's numbers.
  The walks of math/bits.TrailingZeros64 (where its table lies as laid), of Set.All and of the iterator that it answers.
-/
import Derived.Test.YtdhgabpoaicjoaaDoorG05
import Derived.Test.YtdhgabpoaicjoaaDoorG06
import Derived.Test.YtdhgabpoaicjoaaDoorCSetOps
import Derived.Laws.BitsAllLaws
import Derived.Shelf.Spec.TrailingZeros
import Derived.RangeFuncNested
import Derived.RangeFuncBound
import Derived.RangeFuncCalls
import Derived.RangeFuncLeaves
import Derived.Shelf.Abstract
import Derived.Shelf.RegionOpen
import Derived.OwnWalkIn
import Derived.TacticsInMore
import Derived.LoopNIn
import Derived.LoopIn
import Derived.Maps.AppendAt
namespace Go.Proofs.YtdhgabpoaicjoaaDoor
open Go.RowKit
set_option linter.unusedVariables false

/-- What both have; what the first one alone has. -/
def meetS (S T : Nat → Nat) : Nat → Nat := fun k => S k &&& T k
def lessS (S T : Nat → Nat) : Nat → Nat := fun k => S k &&& (18446744073709551615 - T k)
theorem okS_meet {S T : Nat → Nat} (h : okS S) : okS (meetS S T) := fun k => Nat.lt_of_le_of_lt Nat.and_le_left (h k)
theorem okS_less {S T : Nat → Nat} (h : okS S) : okS (lessS S T) := fun k => Nat.lt_of_le_of_lt Nat.and_le_left (h k)
theorem hasS_meet (S T : Nat → Nat) (n : Nat) : hasS (meetS S T) n = (hasS S n && hasS T n) := by simp [hasS, meetS]
theorem hasS_less {S T : Nat → Nat} (h : okS T) (n : Nat) : hasS (lessS S T) n = (hasS S n && !hasS T n) := by
  unfold hasS lessS
  rw [Nat.testBit_and]
  have e : 18446744073709551615 - T (n / 64) = 2 ^ 64 - (T (n / 64) + 1) := by
    show _ = 18446744073709551616 - _
    omega
  rw [e, Nat.testBit_two_pow_sub_succ (h _)]
  have : n % 64 < 64 := by omega
  simp [this]

/-- The table: where each state leads in one step. -/
def tabKStep (fr to : Arr → Int) (T : Nat → Nat → Nat) (a : Arr) : Nat → Nat → Nat := fun p => if p = (fr a).toNat then withS (T p) (to a).toNat else T p
def tabK (fr to : Arr → Int) (ars : List Arr) : Nat → Nat → Nat := ars.foldl (tabKStep fr to) (fun _ => zeroS)
theorem tabK_take {fr to : Arr → Int} {ars : List Arr} {k : Nat} {a : Arr} (h : k < ars.length) (ha : Hid (a = ars[k]?.getD arr0)) : tabK fr to (ars.take (k + 1)) = tabKStep fr to (tabK fr to (ars.take k)) a := by
  have ha := ha.out
  rw [List.getElem?_eq_getElem h, Option.getD_some] at ha
  unfold tabK
  rw [List.take_add_one, List.getElem?_eq_getElem h, ← ha]
  simp [List.foldl_append]
theorem okS_tabKStep {fr to : Arr → Int} {T : Nat → Nat → Nat} (h : ∀ p, okS (T p)) (a : Arr) : ∀ p, okS (tabKStep fr to T a p) := fun p => by
  unfold tabKStep; split
  · exact okS_with (h p) _
  · exact h p
theorem okS_foldTabK {fr to : Arr → Int} : ∀ (ars : List Arr) (T : Nat → Nat → Nat), (∀ p, okS (T p)) → ∀ p, okS (ars.foldl (tabKStep fr to) T p)
  | [], _, h => h
  | a :: r, T, h => okS_foldTabK r _ (okS_tabKStep h a)
theorem okS_tabK (fr to : Arr → Int) (ars : List Arr) (p : Nat) : okS (tabK fr to ars p) := okS_foldTabK ars _ (fun _ => okS_zero) p
theorem has_foldTabK {fr to : Arr → Int} {p n : Nat} : ∀ (ars : List Arr) (T : Nat → Nat → Nat), hasS (ars.foldl (tabKStep fr to) T p) n = true ↔ hasS (T p) n = true ∨ ∃ a ∈ ars, p = (fr a).toNat ∧ n = (to a).toNat
  | [], T => by simp
  | a :: r, T => by
    rw [List.foldl_cons, has_foldTabK r]
    have e : hasS (tabKStep fr to T a p) n = true ↔ hasS (T p) n = true ∨ (p = (fr a).toNat ∧ n = (to a).toNat) := by
      unfold tabKStep
      by_cases h : p = (fr a).toNat
      · rw [if_pos h, hasS_with, Bool.or_eq_true, decide_eq_true_eq]; simp [h]
      · rw [if_neg h]; simp [h]
    rw [e]
    simp only [List.mem_cons, exists_eq_or_imp]
    rw [or_assoc]
theorem has_tabK (fr to : Arr → Int) (p n : Nat) (ars : List Arr) : hasS (tabK fr to ars p) n = true ↔ ∃ a ∈ ars, p = (fr a).toNat ∧ n = (to a).toNat := by
  unfold tabK; rw [has_foldTabK]; simp [hasS_zero]

/-- Where states lead to, by a table. -/
def toF (T : Nat → Nat → Nat) (ns : List Nat) : Nat → Nat := ns.foldl (fun o n => joinS o (T n)) zeroS
theorem toF_snoc (T : Nat → Nat → Nat) (ns : List Nat) (n : Nat) : toF T (ns ++ [n]) = joinS (toF T ns) (T n) := by simp [toF, List.foldl_append]
theorem ok_toG {T : Nat → Nat → Nat} (h : ∀ p, okS (T p)) : ∀ (ns : List Nat) (o : Nat → Nat), okS o → okS (ns.foldl (fun o n => joinS o (T n)) o)
  | [], _, ho => ho
  | n :: r, o, ho => ok_toG h r _ (okS_join ho (h _))
theorem ok_toF {T : Nat → Nat → Nat} (h : ∀ p, okS (T p)) (ns : List Nat) : okS (toF T ns) := ok_toG h ns _ okS_zero
theorem has_toG {T : Nat → Nat → Nat} {k : Nat} : ∀ (ns : List Nat) (o : Nat → Nat), hasS (ns.foldl (fun o n => joinS o (T n)) o) k = true ↔ hasS o k = true ∨ ∃ n ∈ ns, hasS (T n) k = true
  | [], o => by simp
  | n :: r, o => by
    rw [List.foldl_cons, has_toG r, hasS_join, Bool.or_eq_true]
    simp only [List.mem_cons, exists_eq_or_imp]
    rw [or_assoc]
theorem has_toF (T : Nat → Nat → Nat) (k : Nat) (ns : List Nat) : hasS (toF T ns) k = true ↔ ∃ n ∈ ns, hasS (T n) k = true := by
  unfold toF; rw [has_toG]; simp [hasS_zero]

/-- What holds from round to round: F is found, R of it is fresh. -/
structure Spr (fr to : Arr → Int) (ars : List Arr) (l : List Int) (F R : Nat → Nat) : Prop where
  okF : okS F
  okR : okS R
  sub : ∀ n, n < 256 → hasS R n = true → hasS F n = true
  rch : ∀ n : Nat, n < 256 → hasS F n = true → Rch fr to ars l (n : Int)
  start : ∀ x ∈ l, hasS F x.toNat = true
  shut : ∀ a ∈ ars, hasS F (fr a).toNat = true → hasS R (fr a).toNat = false → hasS F (to a).toNat = true

theorem spr_start {fr to : Arr → Int} {ars : List Arr} {l : List Int} (hl : ∀ x ∈ l, 0 ≤ x ∧ x < 256) : Spr fr to ars l (ofS l) (ofS l) := by
  have hr : Rep (ofS l) l := by
    have := rep_of hl l.length
    rwa [List.take_of_length_le (Nat.le_refl _)] at this
  refine ⟨hr.ok, hr.ok, fun _ _ h => h, fun n hn h => rch_start ((hr.mem n hn).1 h), fun x hx => ?_, fun a _ h1 h2 => by rw [h1] at h2; cases h2⟩
  have := hl x hx
  exact (hr.mem x.toNat (by omega)).2 (by rwa [Int.toNat_of_nonneg this.1])
/-- What comes in one round. -/
def frS (fr to : Arr → Int) (ars : List Arr) (F R : Nat → Nat) : Nat → Nat := lessS (toF (tabK fr to ars) (allS R)) F
theorem spr_step {fr to : Arr → Int} {ars : List Arr} {l : List Int} {F R : Nat → Nat} (hin : ∀ a ∈ ars, (0 ≤ fr a ∧ fr a < 256) ∧ 0 ≤ to a ∧ to a < 256) (h : Spr fr to ars l F R) : Spr fr to ars l (joinS F (frS fr to ars F R)) (frS fr to ars F R) := by
  have o1 : okS (frS fr to ars F R) := okS_less (ok_toF (okS_tabK fr to ars) _)
  have hf : ∀ n, hasS (frS fr to ars F R) n = (hasS (toF (tabK fr to ars) (allS R)) n && !hasS F n) := fun n => hasS_less h.okF n
  have hr : ∀ n, n < 256 → hasS (frS fr to ars F R) n = true → Rch fr to ars l (n : Int) := fun n hn hx => by
    rw [hf, Bool.and_eq_true, has_toF] at hx
    obtain ⟨⟨k, hk, ht⟩, -⟩ := hx
    obtain ⟨a, ha, e1, e2⟩ := (has_tabK _ _ _ _ _).1 ht
    obtain ⟨k1, k2⟩ := (mem_allS _ _).1 hk
    have hb := hin a ha
    have := h.rch k k1 (h.sub k k1 k2)
    rw [show (k : Int) = fr a by omega] at this
    rw [show (n : Int) = to a by omega]
    exact rch_step ha this
  refine ⟨okS_join h.okF o1, o1, fun n _ hx => by rw [hasS_join, hx]; simp, fun n hn hx => ?_, fun x hx => by rw [hasS_join, h.start x hx]; rfl, fun a ha h1 h2 => ?_⟩
  · rw [hasS_join, Bool.or_eq_true] at hx
    rcases hx with hx | hx
    · exact h.rch n hn hx
    · exact hr n hn hx
  · rw [hasS_join, h2, Bool.or_false] at h1
    have hb := hin a ha
    rw [hasS_join]
    cases hR : hasS R (fr a).toNat with
    | false => rw [h.shut a ha h1 hR]; rfl
    | true =>
      have ht : hasS (toF (tabK fr to ars) (allS R)) (to a).toNat = true := (has_toF _ _ _).2 ⟨(fr a).toNat, (mem_allS _ _).2 ⟨by omega, hR⟩, (has_tabK _ _ _ _ _).2 ⟨a, ha, rfl, rfl⟩⟩
      rw [hf, ht]
      cases hasS F (to a).toNat <;> rfl
theorem empty_has {S : Nat → Nat} (he : emptyB S = true) (n : Nat) (hn : n < 256) : hasS S n = false := by
  obtain ⟨e0, e1, e2, e3⟩ := of_decide_eq_true he
  unfold hasS
  have hk : n / 64 = 0 ∨ n / 64 = 1 ∨ n / 64 = 2 ∨ n / 64 = 3 := by omega
  rcases hk with hk | hk | hk | hk <;> rw [hk] <;> simp [e0, e1, e2, e3]
theorem empty_not {S : Nat → Nat} (ho : okS S) (he : emptyB S = false) : ∃ n, n < 256 ∧ hasS S n = true := by
  apply Classical.byContradiction
  intro hn
  have hw : ∀ i, i < 4 → S i = 0 := fun i hi => word_zero (ho i) fun j hj => by
    cases hb : (S i).testBit j with
    | false => rfl
    | true =>
      exfalso
      apply hn
      refine ⟨64 * i + j, by omega, ?_⟩
      unfold hasS
      rw [show (64 * i + j) / 64 = i by omega, show (64 * i + j) % 64 = j by omega]
      exact hb
  have : emptyB S = true := decide_eq_true ⟨hw 0 (by omega), hw 1 (by omega), hw 2 (by omega), hw 3 (by omega)⟩
  rw [this] at he; cases he
theorem spr_end {fr to : Arr → Int} {ars : List Arr} {l : List Int} {F R : Nat → Nat} (hl : ∀ x ∈ l, 0 ≤ x ∧ x < 256) (hin : ∀ a ∈ ars, (0 ≤ fr a ∧ fr a < 256) ∧ 0 ≤ to a ∧ to a < 256) (h : Spr fr to ars l F R) (he : emptyB R = true) (x : Int) : x ∈ rowS F ↔ Rch fr to ars l x := by
  rw [mem_rowS]
  constructor
  · rintro ⟨h0, h1, h2⟩
    have := h.rch x.toNat (by omega) h2
    rwa [Int.toNat_of_nonneg h0] at this
  · intro hx
    refine hx (fun x => 0 ≤ x ∧ x < 256 ∧ hasS F x.toNat = true) ⟨fun y hy => ⟨(hl y hy).1, (hl y hy).2, h.start y hy⟩, fun a ha ⟨h1, h2, h3⟩ => ?_⟩
    have hb := hin a ha
    exact ⟨hb.2.1, hb.2.2, h.shut a ha h3 (empty_has he _ (by omega))⟩
/-- What falls from round to round. -/
def msr (F R : Nat → Nat) : Nat := 2 * (256 - (allS F).length) + (emptyB R == false).toNat
theorem allS_filter {F G : Nat → Nat} (h : ∀ n, n < 256 → hasS F n = true → hasS G n = true) : allS F = (allS G).filter fun n => hasS F n := by
  apply natInc_ext (inc_fromS F 4 0) ((inc_fromS G 4 0).filter _)
  intro x
  show x ∈ allS F ↔ x ∈ (allS G).filter _
  rw [List.mem_filter, mem_allS, mem_allS]
  constructor
  · rintro ⟨h1, h2⟩; exact ⟨⟨h1, h x h1 h2⟩, h2⟩
  · rintro ⟨⟨h1, _⟩, h2⟩; exact ⟨h1, h2⟩
theorem msr_lt {fr to : Arr → Int} {ars : List Arr} {l : List Int} {F R : Nat → Nat} (h : Spr fr to ars l F R) (he : emptyB R = false) : msr (joinS F (frS fr to ars F R)) (frS fr to ars F R) < msr F R := by
  have o1 : okS (frS fr to ars F R) := okS_less (ok_toF (okS_tabK fr to ars) _)
  have hf := allS_filter (F := F) (G := joinS F (frS fr to ars F R)) (fun n _ hx => by rw [hasS_join, hx]; rfl)
  have hl2 := allS_len (joinS F (frS fr to ars F R))
  unfold msr
  rw [he]
  cases hE : emptyB (frS fr to ars F R) with
  | true =>
    have : (allS F).length ≤ (allS (joinS F (frS fr to ars F R))).length := by rw [hf]; exact List.length_filter_le _ _
    simp
    omega
  | false =>
    obtain ⟨n, hn, hx⟩ := empty_not o1 hE
    have : (allS F).length < (allS (joinS F (frS fr to ars F R))).length := by
      rw [hf]
      apply List.length_filter_lt_length_iff_exists.2
      refine ⟨n, (mem_allS _ _).2 ⟨hn, by rw [hasS_join, hx]; simp⟩, ?_⟩
      have := hx
      unfold frS at this
      rw [hasS_less h.okF, Bool.and_eq_true] at this
      have h2 : hasS F n = false := by simpa using this.2
      rw [h2]; simp
    simp
    omega

theorem inc_reach (m : Mach) : Inc (reachL m) := inc_srt _
theorem inc_live (m : Mach) : Inc (liveL m) := inc_srt _
theorem row_reach {m : Mach} (hm : mayB m = true) {F : Nat → Nat} (h : ∀ x, x ∈ rowS F ↔ Rch (·.f) (·.t) m.arrows m.starts x) : rowS F = reachL m :=
  inc_ext (inc_rowS F) (inc_reach m) (fun x => (h x).trans (mem_reach hm x).symm)
theorem row_live {m : Mach} (hm : mayB m = true) {F : Nat → Nat} (h : ∀ x, x ∈ rowS F ↔ Rch (·.t) (·.f) m.arrows m.ends x) : rowS F = liveL m :=
  inc_ext (inc_rowS F) (inc_live m) (fun x => (h x).trans (mem_live hm x).symm)
theorem row_trim {m : Mach} {F G : Nat → Nat} (hF : rowS F = reachL m) (hG : rowS G = liveL m) : rowS (meetS F G) = trimL m := by
  refine inc_ext (inc_rowS _) (inc_trim m) (fun x => ?_)
  rw [mem_trim, ← hF, ← hG, mem_rowS, mem_rowS, mem_rowS, hasS_meet, Bool.and_eq_true]
  constructor
  · rintro ⟨h0, h1, h2, h3⟩; exact ⟨⟨h0, h1, h2⟩, h0, h1, h3⟩
  · rintro ⟨⟨h0, h1, h2⟩, -, -, h3⟩; exact ⟨h0, h1, h2, h3⟩

end Go.Proofs.YtdhgabpoaicjoaaDoor
namespace Go.Proofs.YtdhgabpoaicjoaaDoor
open Go.RowKit
set_option linter.unusedVariables false

theorem andw_words {S T : Nat → Nat} (h : okS S) (h' : okS T) (k : Nat) : bits .and .u64 (S k : Int) (T k : Int) = ((S k &&& T k : Nat) : Int) := bits_and_u64_nat _ _ (h k) (h' k)
theorem less_words {S T : Nat → Nat} (h : okS S) (h' : okS T) (k : Nat) : bits .andNot .u64 (S k : Int) (T k : Int) = ((S k &&& (18446744073709551615 - T k) : Nat) : Int) := u64_andNot_nat _ _ (h k) (h' k)

/-- The first k words met. -/
def mixM (k : Nat) (S T : Nat → Nat) : Nat → Nat := fun j => if j < k then S j &&& T j else S j

theorem mixM_step0 {S T : Nat → Nat} (h : okS S) (h' : okS T) : (scells (mixM 0 S T)).setIfInBounds 0 (.int .u64 (bits .and .u64 (mixM 0 S T 0) (T 0))) = scells (mixM 1 S T) := by
  show (#[.int .u64 (bits .and .u64 (S 0) (T 0)), .int .u64 (S 1), .int .u64 (S 2), .int .u64 (S 3)] : Array Value) = _
  rw [andw_words h h']; rfl
theorem mixM_step1 {S T : Nat → Nat} (h : okS S) (h' : okS T) : (scells (mixM 1 S T)).setIfInBounds 1 (.int .u64 (bits .and .u64 (mixM 1 S T 1) (T 1))) = scells (mixM 2 S T) := by
  show (#[.int .u64 (mixM 1 S T 0), .int .u64 (bits .and .u64 (S 1) (T 1)), .int .u64 (S 2), .int .u64 (S 3)] : Array Value) = _
  rw [andw_words h h']; rfl
theorem mixM_step2 {S T : Nat → Nat} (h : okS S) (h' : okS T) : (scells (mixM 2 S T)).setIfInBounds 2 (.int .u64 (bits .and .u64 (mixM 2 S T 2) (T 2))) = scells (mixM 3 S T) := by
  show (#[.int .u64 (mixM 2 S T 0), .int .u64 (mixM 2 S T 1), .int .u64 (bits .and .u64 (S 2) (T 2)), .int .u64 (S 3)] : Array Value) = _
  rw [andw_words h h']; rfl
theorem mixM_step3 {S T : Nat → Nat} (h : okS S) (h' : okS T) : (scells (mixM 3 S T)).setIfInBounds 3 (.int .u64 (bits .and .u64 (mixM 3 S T 3) (T 3))) = scells (mixM 4 S T) := by
  show (#[.int .u64 (mixM 3 S T 0), .int .u64 (mixM 3 S T 1), .int .u64 (mixM 3 S T 2), .int .u64 (bits .and .u64 (S 3) (T 3))] : Array Value) = _
  rw [andw_words h h']; rfl

set_option maxHeartbeats 2000000 in
theorem meet_any (S T : Nat → Nat) (w : World) (h : okS S) (h' : okS T) :
    Calls Tryd.prog 60 #[sval S, sval T] w fun e w' => e = .returned (sval (meetS S T)) ∧ Below w.heap.size w w' := by
  go_enter Tryd.func60, Tryd.ntmps60
  go_wp2
  go_loopw [6] (fun i wr => ∃ k : Nat, k ≤ 4 ∧ i = .int .i64 k ∧ SB wr w.heap.size (mixM k S T) ∧ SB wr (w.heap.size + 1) T ∧ SB wr (w.heap.size + 2) zeroS ∧ Below w.heap.size w wr) (fun i _ => 4 - (intOf i).toNat)
  case atStart =>
    refine ⟨0, by omega, rfl, ((Blk.new w _ _).alloc _).alloc _, ?_, ?_, (((Below.refl _ _).alloc (Nat.le_refl _) _).alloc (by simp) _).alloc (by simp; omega) _⟩
    · have := (Blk.new (w.alloc (.cells (scells S) 65)) 65 (scells T)).alloc (.cells (scells zeroS) 65)
      rwa [World.size_alloc] at this
    · have := (Blk.new ((w.alloc (.cells (scells S) 65)).alloc (.cells (scells T) 65)) 65 (scells zeroS))
      rwa [World.size_alloc, World.size_alloc] at this
  case round =>
    obtain ⟨k, hk, rfl, s1, s2, s3, hB⟩ := hrel
    have hk' : k = 4 ∨ k = 0 ∨ k = 1 ∨ k = 2 ∨ k = 3 := by omega
    obtain ⟨p0, p1, p2, p3⟩ := s1.cells
    obtain ⟨q0, q1, q2, q3⟩ := s2.cells
    have fz := s1.frozen
    rcases hk' with rfl | rfl | rfl | rfl | rfl
    · obtain ⟨r0, r1, r2, r3⟩ := s3.cells
      have fz3 := s3.frozen
      have e4 : Hid (scells (mixM 4 S T) = scells (meetS S T)) := rfl
      have k1 := (((s3.set 0 (.int .u64 (mixM 4 S T 0))).set 1 (.int .u64 (mixM 4 S T 1))).set 2 (.int .u64 (mixM 4 S T 2))).set 3 (.int .u64 (mixM 4 S T 3))
      have k2 := Hid.of k1
      clear k1
      go_wp2
      have k1 := k2.out
      refine bodyPost_ret (v := sval (meetS S T)) ?_ rfl ⟨rfl, (((hB.setCell (p := ⟨w.heap.size + 1 + 1, 0, none⟩) (by simp; omega) _).setCell (p := ⟨w.heap.size + 1 + 1, 1, none⟩) (by simp; omega) _).setCell (p := ⟨w.heap.size + 1 + 1, 2, none⟩) (by simp; omega) _).setCell (p := ⟨w.heap.size + 1 + 1, 3, none⟩) (by simp; omega) _⟩
      exact results_cell_row (g := w.heap.size + 2) (p := 4) rfl _ _ _ _ _ _ rfl k1 Tryd.underlying65 rfl (by kernel_rfl)
    · go_wp2
      go_region
      go_wp2
      exact ⟨⟨1, by omega, rfl, (by have := s1.set 0 (.int .u64 (bits .and .u64 (mixM 0 S T 0) (T 0))); rwa [mixM_step0 h h'] at this), s2.other (by omega) _, s3.other (by omega) _, (hB.setCell (p := ⟨w.heap.size, 0, none⟩) (by simp) _).drew⟩, by simp [intOf]⟩
    · go_wp2
      go_region
      go_wp2
      exact ⟨⟨2, by omega, rfl, (by have := s1.set 1 (.int .u64 (bits .and .u64 (mixM 1 S T 1) (T 1))); rwa [mixM_step1 h h'] at this), s2.other (by omega) _, s3.other (by omega) _, (hB.setCell (p := ⟨w.heap.size, 1, none⟩) (by simp) _).drew⟩, by simp [intOf]⟩
    · go_wp2
      go_region
      go_wp2
      exact ⟨⟨3, by omega, rfl, (by have := s1.set 2 (.int .u64 (bits .and .u64 (mixM 2 S T 2) (T 2))); rwa [mixM_step2 h h'] at this), s2.other (by omega) _, s3.other (by omega) _, (hB.setCell (p := ⟨w.heap.size, 2, none⟩) (by simp) _).drew⟩, by simp [intOf]⟩
    · go_wp2
      go_region
      go_wp2
      exact ⟨⟨4, by omega, rfl, (by have := s1.set 3 (.int .u64 (bits .and .u64 (mixM 3 S T 3) (T 3))); rwa [mixM_step3 h h'] at this), s2.other (by omega) _, s3.other (by omega) _, (hB.setCell (p := ⟨w.heap.size, 3, none⟩) (by simp) _).drew⟩, by simp [intOf]⟩

/-- The first k words less. -/
def mixL (k : Nat) (S T : Nat → Nat) : Nat → Nat := fun j => if j < k then S j &&& (18446744073709551615 - T j) else S j

theorem mixL_step0 {S T : Nat → Nat} (h : okS S) (h' : okS T) : (scells (mixL 0 S T)).setIfInBounds 0 (.int .u64 (bits .andNot .u64 (mixL 0 S T 0) (T 0))) = scells (mixL 1 S T) := by
  show (#[.int .u64 (bits .andNot .u64 (S 0) (T 0)), .int .u64 (S 1), .int .u64 (S 2), .int .u64 (S 3)] : Array Value) = _
  rw [less_words h h']; rfl
theorem mixL_step1 {S T : Nat → Nat} (h : okS S) (h' : okS T) : (scells (mixL 1 S T)).setIfInBounds 1 (.int .u64 (bits .andNot .u64 (mixL 1 S T 1) (T 1))) = scells (mixL 2 S T) := by
  show (#[.int .u64 (mixL 1 S T 0), .int .u64 (bits .andNot .u64 (S 1) (T 1)), .int .u64 (S 2), .int .u64 (S 3)] : Array Value) = _
  rw [less_words h h']; rfl
theorem mixL_step2 {S T : Nat → Nat} (h : okS S) (h' : okS T) : (scells (mixL 2 S T)).setIfInBounds 2 (.int .u64 (bits .andNot .u64 (mixL 2 S T 2) (T 2))) = scells (mixL 3 S T) := by
  show (#[.int .u64 (mixL 2 S T 0), .int .u64 (mixL 2 S T 1), .int .u64 (bits .andNot .u64 (S 2) (T 2)), .int .u64 (S 3)] : Array Value) = _
  rw [less_words h h']; rfl
theorem mixL_step3 {S T : Nat → Nat} (h : okS S) (h' : okS T) : (scells (mixL 3 S T)).setIfInBounds 3 (.int .u64 (bits .andNot .u64 (mixL 3 S T 3) (T 3))) = scells (mixL 4 S T) := by
  show (#[.int .u64 (mixL 3 S T 0), .int .u64 (mixL 3 S T 1), .int .u64 (mixL 3 S T 2), .int .u64 (bits .andNot .u64 (S 3) (T 3))] : Array Value) = _
  rw [less_words h h']; rfl

set_option maxHeartbeats 2000000 in
theorem less_any (S T : Nat → Nat) (w : World) (h : okS S) (h' : okS T) :
    Calls Tryd.prog 130 #[sval S, sval T] w fun e w' => e = .returned (sval (lessS S T)) ∧ Below w.heap.size w w' := by
  go_enter Tryd.func130, Tryd.ntmps130
  go_wp2
  go_loopw [6] (fun i wr => ∃ k : Nat, k ≤ 4 ∧ i = .int .i64 k ∧ SB wr w.heap.size (mixL k S T) ∧ SB wr (w.heap.size + 1) T ∧ SB wr (w.heap.size + 2) zeroS ∧ Below w.heap.size w wr) (fun i _ => 4 - (intOf i).toNat)
  case atStart =>
    refine ⟨0, by omega, rfl, ((Blk.new w _ _).alloc _).alloc _, ?_, ?_, (((Below.refl _ _).alloc (Nat.le_refl _) _).alloc (by simp) _).alloc (by simp; omega) _⟩
    · have := (Blk.new (w.alloc (.cells (scells S) 65)) 65 (scells T)).alloc (.cells (scells zeroS) 65)
      rwa [World.size_alloc] at this
    · have := (Blk.new ((w.alloc (.cells (scells S) 65)).alloc (.cells (scells T) 65)) 65 (scells zeroS))
      rwa [World.size_alloc, World.size_alloc] at this
  case round =>
    obtain ⟨k, hk, rfl, s1, s2, s3, hB⟩ := hrel
    have hk' : k = 4 ∨ k = 0 ∨ k = 1 ∨ k = 2 ∨ k = 3 := by omega
    obtain ⟨p0, p1, p2, p3⟩ := s1.cells
    obtain ⟨q0, q1, q2, q3⟩ := s2.cells
    have fz := s1.frozen
    rcases hk' with rfl | rfl | rfl | rfl | rfl
    · obtain ⟨r0, r1, r2, r3⟩ := s3.cells
      have fz3 := s3.frozen
      have e4 : Hid (scells (mixL 4 S T) = scells (lessS S T)) := rfl
      have k1 := (((s3.set 0 (.int .u64 (mixL 4 S T 0))).set 1 (.int .u64 (mixL 4 S T 1))).set 2 (.int .u64 (mixL 4 S T 2))).set 3 (.int .u64 (mixL 4 S T 3))
      have k2 := Hid.of k1
      clear k1
      go_wp2
      have k1 := k2.out
      refine bodyPost_ret (v := sval (lessS S T)) ?_ rfl ⟨rfl, (((hB.setCell (p := ⟨w.heap.size + 1 + 1, 0, none⟩) (by simp; omega) _).setCell (p := ⟨w.heap.size + 1 + 1, 1, none⟩) (by simp; omega) _).setCell (p := ⟨w.heap.size + 1 + 1, 2, none⟩) (by simp; omega) _).setCell (p := ⟨w.heap.size + 1 + 1, 3, none⟩) (by simp; omega) _⟩
      exact results_cell_row (g := w.heap.size + 2) (p := 4) rfl _ _ _ _ _ _ rfl k1 Tryd.underlying65 rfl (by kernel_rfl)
    · go_wp2
      go_region
      go_wp2
      exact ⟨⟨1, by omega, rfl, (by have := s1.set 0 (.int .u64 (bits .andNot .u64 (mixL 0 S T 0) (T 0))); rwa [mixL_step0 h h'] at this), s2.other (by omega) _, s3.other (by omega) _, (hB.setCell (p := ⟨w.heap.size, 0, none⟩) (by simp) _).drew⟩, by simp [intOf]⟩
    · go_wp2
      go_region
      go_wp2
      exact ⟨⟨2, by omega, rfl, (by have := s1.set 1 (.int .u64 (bits .andNot .u64 (mixL 1 S T 1) (T 1))); rwa [mixL_step1 h h'] at this), s2.other (by omega) _, s3.other (by omega) _, (hB.setCell (p := ⟨w.heap.size, 1, none⟩) (by simp) _).drew⟩, by simp [intOf]⟩
    · go_wp2
      go_region
      go_wp2
      exact ⟨⟨3, by omega, rfl, (by have := s1.set 2 (.int .u64 (bits .andNot .u64 (mixL 2 S T 2) (T 2))); rwa [mixL_step2 h h'] at this), s2.other (by omega) _, s3.other (by omega) _, (hB.setCell (p := ⟨w.heap.size, 2, none⟩) (by simp) _).drew⟩, by simp [intOf]⟩
    · go_wp2
      go_region
      go_wp2
      exact ⟨⟨4, by omega, rfl, (by have := s1.set 3 (.int .u64 (bits .andNot .u64 (mixL 3 S T 3) (T 3))); rwa [mixL_step3 h h'] at this), s2.other (by omega) _, s3.other (by omega) _, (hB.setCell (p := ⟨w.heap.size, 3, none⟩) (by simp) _).drew⟩, by simp [intOf]⟩

end Go.Proofs.YtdhgabpoaicjoaaDoor
namespace Go.Proofs.YtdhgabpoaicjoaaDoor
open Go.RowKit
set_option linter.unusedVariables false

theorem ofS_take {xs : List Int} {k : Nat} {x : Int} (h : k < xs.length) (hx : Hid (x = xs[k]?.getD 0)) : ofS (xs.take (k + 1)) = withS (ofS (xs.take k)) x.toNat := by
  have hx := hx.out
  rw [List.getElem?_eq_getElem h, Option.getD_some] at hx
  rw [List.take_add_one, List.getElem?_eq_getElem h, ← hx]
  exact ofS_snoc _ _

theorem SB.set4 {W : World} {b : Nat} {S : Nat → Nat} (h : SB W b S) (T : Nat → Nat) : SB ((((W.setCell ⟨b, 0, none⟩ (.int .u64 (T 0))).setCell ⟨b, 1, none⟩ (.int .u64 (T 1))).setCell ⟨b, 2, none⟩ (.int .u64 (T 2))).setCell ⟨b, 3, none⟩ (.int .u64 (T 3))) b T :=
  (((h.set 0 (.int .u64 (T 0))).set 1 (.int .u64 (T 1))).set 2 (.int .u64 (T 2))).set 3 (.int .u64 (T 3))
theorem Blk.other4 {W : World} {b b' : Nat} {t : TypeId} {cs : Array Value} (h : Blk W b t cs) (hne : b ≠ b') (v0 v1 v2 v3 : Value) : Blk ((((W.setCell ⟨b', 0, none⟩ v0).setCell ⟨b', 1, none⟩ v1).setCell ⟨b', 2, none⟩ v2).setCell ⟨b', 3, none⟩ v3) b t cs :=
  (((h.other hne v0).other hne v1).other hne v2).other hne v3
theorem below_set4 {W V : World} {B b' : Nat} (h : Below B V W) (hb : B ≤ b') (v0 v1 v2 v3 : Value) : Below B V ((((W.setCell ⟨b', 0, none⟩ v0).setCell ⟨b', 1, none⟩ v1).setCell ⟨b', 2, none⟩ v2).setCell ⟨b', 3, none⟩ v3) :=
  (((h.setCell (p := ⟨b', 0, none⟩) hb v0).setCell (p := ⟨b', 1, none⟩) hb v1).setCell (p := ⟨b', 2, none⟩) hb v2).setCell (p := ⟨b', 3, none⟩) hb v3

set_option maxHeartbeats 2000000 in
theorem of_some (b off cap : Nat) (xs : List Int) (w : World) (hl : xs.length ≤ 9223372036854775807) (hb : b < w.heap.size) (hc : Cells w b off xs) (hbd : ∀ x ∈ xs, 0 ≤ x ∧ x < 256) :
    Calls Tryd.prog 56 #[.slice (some ⟨b, off, none⟩) xs.length cap] w fun e w' => e = .returned (sval (ofS xs)) ∧ Below w.heap.size w w' := by
  have HR : Hid (∀ k, Rep (ofS (xs.take k)) (xs.take k)) := fun k => rep_of hbd k
  have HB := Hid.of hbd
  clear hbd
  go_enter Tryd.func56, Tryd.ntmps56
  go_wp2
  go_loopw [8] (fun i wr => ∃ k : Nat, k ≤ xs.length ∧ i = .int .i64 k ∧ SB wr (w.heap.size + 1) (ofS (xs.take k)) ∧ SB wr w.heap.size zeroS ∧ Below w.heap.size w wr) (fun i _ => xs.length - (intOf i).toNat)
  case atStart =>
    refine ⟨0, by omega, rfl, ?_, (Blk.new w _ _).alloc _, ((Below.refl _ _).alloc (Nat.le_refl _) _).alloc (by simp) _⟩
    have := (Blk.new (w.alloc (.cells (scells zeroS) 65)) 65 (scells zeroS))
    rwa [World.size_alloc] at this
  case round =>
    obtain ⟨k, hk, rfl, s1, s2, hB⟩ := hrel
    by_cases hlt : k < xs.length
    · obtain ⟨x, HX, hcx0⟩ := hc.at hlt
      have hcx := (hB.cell (p := ⟨b, off + k, none⟩) hb).trans hcx0
      clear hcx0
      have hx2 : 0 ≤ x ∧ x < 256 := by
        have hx := HX.out
        rw [List.getElem?_eq_getElem hlt, Option.getD_some] at hx
        rw [hx]; exact HB.out _ (List.getElem_mem hlt)
      have hok := Hid.of (HR.out k).ok
      obtain ⟨T, hT⟩ : ∃ T, T = ofS (xs.take k) := ⟨_, rfl⟩
      have HT := Hid.of hT
      rw [← hT] at s1 hok
      clear hT
      obtain ⟨p0, p1, p2, p3⟩ := s1.cells
      have hl1 := s1.lt
      go_wp2_with (go_at_call 101; refine (with_any T x _ hok.out hx2.1 hx2.2).mono ?_; rintro e w1 ⟨rfl, hb1⟩; have s3 := s1.below hb1 s1.lt; have s4 := s2.below hb1 s2.lt; have fz := s3.frozen; obtain ⟨q0, q1, q2, q3⟩ := SB.cells s3)
      go_roundw
      case rel =>
        refine ⟨k + 1, by omega, by go_num, ?_, s4.other4 (by omega) _ _ _ _, below_set4 (hB.trans (hb1.mono hB.size)) (by omega) _ _ _ _⟩
        rw [ofS_take hlt HX, ← HT.out]
        exact SB.set4 s3 _
      case measure => simp [intOf]; omega
    · rw [List.take_of_length_le (by omega)] at s1
      obtain ⟨p0, p1, p2, p3⟩ := s1.cells
      obtain ⟨r0, r1, r2, r3⟩ := s2.cells
      have fz := s2.frozen
      have k2 := Hid.of (SB.set4 s2 (ofS xs))
      go_wp2
      refine bodyPost_ret (v := sval (ofS xs)) ?_ rfl ⟨rfl, below_set4 hB (by omega) _ _ _ _⟩
      exact results_cell_row (g := w.heap.size) (p := 2) rfl _ _ _ _ _ _ rfl k2.out Tryd.underlying65 rfl (by kernel_rfl)

set_option maxHeartbeats 400000 in
theorem of_nil (a : Option Addr) (cap : Nat) (w : World) :
    Calls Tryd.prog 56 #[.slice a 0 cap] w fun e w' => e = .returned (sval (ofS [])) ∧ Below w.heap.size w w' := by
  go_enter Tryd.func56, Tryd.ntmps56
  go_wp2
  refine wp_loop_rounds 1 ?_
  rw [rounds_succ]
  have s1 : SB ((w.alloc (.cells (scells zeroS) 65)).alloc (.cells (scells zeroS) 65)) w.heap.size zeroS := (Blk.new w _ _).alloc _
  have s2 : SB ((w.alloc (.cells (scells zeroS) 65)).alloc (.cells (scells zeroS) 65)) (w.heap.size + 1) zeroS := by
    have := (Blk.new (w.alloc (.cells (scells zeroS) 65)) 65 (scells zeroS))
    rwa [World.size_alloc] at this
  have hB : Below w.heap.size w ((w.alloc (.cells (scells zeroS) 65)).alloc (.cells (scells zeroS) 65)) := ((Below.refl _ _).alloc (Nat.le_refl _) _).alloc (by simp) _
  revert s1 s2 hB
  show SB ((w.alloc (.cells #[.int .u64 0, .int .u64 0, .int .u64 0, .int .u64 0] 65)).alloc (.cells #[.int .u64 0, .int .u64 0, .int .u64 0, .int .u64 0] 65)) w.heap.size zeroS → SB ((w.alloc (.cells #[.int .u64 0, .int .u64 0, .int .u64 0, .int .u64 0] 65)).alloc (.cells #[.int .u64 0, .int .u64 0, .int .u64 0, .int .u64 0] 65)) (w.heap.size + 1) zeroS → Below w.heap.size w ((w.alloc (.cells #[.int .u64 0, .int .u64 0, .int .u64 0, .int .u64 0] 65)).alloc (.cells #[.int .u64 0, .int .u64 0, .int .u64 0, .int .u64 0] 65)) → _
  generalize (w.alloc (.cells #[.int .u64 0, .int .u64 0, .int .u64 0, .int .u64 0] 65)).alloc (.cells #[.int .u64 0, .int .u64 0, .int .u64 0, .int .u64 0] 65) = W
  intro s2 s1 hB
  obtain ⟨p0, p1, p2, p3⟩ := s1.cells
  obtain ⟨r0, r1, r2, r3⟩ := s2.cells
  have fz := s2.frozen
  have k2 := Hid.of (SB.set4 s2 zeroS)
  go_wp2
  refine bodyPost_ret (v := sval (ofS [])) ?_ rfl ⟨rfl, below_set4 hB (by omega) _ _ _ _⟩
  exact results_cell_row (g := w.heap.size) (p := 2) rfl _ _ _ _ _ _ rfl k2.out Tryd.underlying65 rfl (by kernel_rfl)

theorem of_any (a : Option Addr) (cap : Nat) (xs : List Int) (w : World) (hs : At w a xs) (hl : xs.length ≤ maxLen) (hbd : ∀ x ∈ xs, 0 ≤ x ∧ x < 256) :
    Calls Tryd.prog 56 #[.slice a xs.length cap] w fun e w' => e = .returned (sval (ofS xs)) ∧ Below w.heap.size w w' := by
  rcases hs with rfl | ⟨b, off, rfl, hb, hc⟩
  · exact of_nil a cap w
  · exact of_some b off cap xs w hl hb hc hbd

end Go.Proofs.YtdhgabpoaicjoaaDoor
namespace Go.Proofs.YtdhgabpoaicjoaaDoor
open Go.RowKit Go.Shelf
set_option linter.unusedVariables false
attribute [local go_sem] Oper.semAt_some

/-- The table of math/bits lies in its variable. -/
structure Tab (w : World) : Prop where
  lt : 0 < w.heap.size
  at' : ∀ j, j < 64 → w.cell? ⟨0, j, none⟩ = some (.int .u8 (Lib.deBruijn64tab.getD j 0))

theorem Tab.below {w w' : World} {B : Nat} (h : Tab w) (hb : Below B w w') (hB : 0 < B) : Tab w' :=
  ⟨Nat.lt_of_lt_of_le h.lt hb.size, fun j hj => (hb.cell (p := ⟨0, j, none⟩) hB).trans (h.at' j hj)⟩

set_option maxHeartbeats 1000000 in
theorem tz_core (x k idx : Nat) (w : World) (hx0 : ((x : Int) == 0) = false)
    (key : IntKind.u64.wrap (bits BinOp.and IntKind.u64 (x : Int) (IntKind.u64.wrap (-(x : Int))) * 285870213051353865) / 288230376151711744 = (idx : Int))
    (hi : idx < 64) (hk : k < 64) (hcell : w.cell? ⟨0, idx, none⟩ = some (.int .u8 k)) :
    Calls Tryd.prog 136 #[.int .u64 x] w fun e w' => e = .returned (.int .i64 k) ∧ w' = w := by
  go_enter Tryd.func136, Tryd.ntmps136
  go_wp2_with (simp only [key])
  go_ret
  exact ⟨rfl, rfl⟩

theorem tz_any (x : Nat) (w : World) (hx0 : x ≠ 0) (hx : x < 18446744073709551616) (hT : Tab w) :
    Calls Tryd.prog 136 #[.int .u64 x] w fun e w' => e = .returned (.int .i64 (Lib.ctz 64 x)) ∧ w' = w := by
  obtain ⟨hlow, hk⟩ := Lib.lowest_bit 64 x hx0 hx
  obtain ⟨hi, htab⟩ := Lib.deBruijn64_at _ hk
  have hcell := hT.at' _ hi
  rw [htab] at hcell
  exact tz_core x _ _ w (by simp; omega) (tz64_key x _ hx hx0 hlow) hi hk hcell

set_option maxHeartbeats 400000 in
theorem all_any (S : Nat → Nat) (w : World) :
    Calls Tryd.prog 100 #[sval S] w fun e w' => e = .returned (.func (.func 135) #[] #[.pointer (some ⟨w.heap.size, 0, none⟩)]) ∧ w' = w.alloc (.cells (scells S) 65) := by
  have hmf : ∀ (fn : Fn) (first cap : Array Value) (w : World), (Instr.makeFunc fn first cap).run Tryd.prog w = .ok (.func fn first cap) w := fun _ _ _ _ => rfl
  go_enter Tryd.func100, Tryd.ntmps100
  go_wp2
  go_ret
  exact ⟨rfl, rfl⟩

/-- Numbers below N. -/
abbrev NB (N : Nat) : Type := { n : Nat // n < N }
abbrev nbval {N : Nat} (x : NB N) : Array Value := #[.int .i64 (x.1 : Int)]

end Go.Proofs.YtdhgabpoaicjoaaDoor
