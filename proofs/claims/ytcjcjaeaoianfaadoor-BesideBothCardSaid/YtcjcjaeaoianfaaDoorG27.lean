/-
  machine.Leader, of whatever machine may be.
  Plain mathematics of what a set of states leads to, in any number of steps. No program, no model.
  The walks of Set.Meet and Set.Less.
  '==' of two sets, as the model runs it.
-/
import Derived.Test.YtcjcjaeaoianfaaDoorCLead
import Derived.Test.YtcjcjaeaoianfaaDoorG07
import Derived.Test.YtcjcjaeaoianfaaDoorCSetOps
import Derived.Laws.BitsAllLaws
import Derived.Test.YtcjcjaeaoianfaaDoorG21
import Derived.Laws.StructEq
import Derived.ChangeKeysEq
namespace Go.Proofs.YtcjcjaeaoianfaaDoor
open Go.RowKit
set_option linter.unusedVariables false

/-- What machine.Leader answers, of what may be. -/
theorem leader_any (m : Mach) (l : ML) (w : World) (hm : mayB m = true) (h : MAt w m l) :
    Calls Tryd.prog 66 #[mval m l] w fun e w' => ∃ L, e = .returned (leadV L) ∧ LD w' L m.ev.toNat (m.st.toNat * m.ev.toNat) (tabS m.ev.toNat m.arrows) ∧ L.all (w.heap.size ≤ ·) ∧ Below w.heap.size w w' := by
  have hz := mayB_size hm
  have ha := arrsFrom_in (mayB_arrs hm)
  obtain ⟨st, ev, starts, arrows, ends⟩ := m
  obtain ⟨z1, z2, z3, z4, z5⟩ := hz
  simp only at z1 z2 z3 z4 z5 ha
  obtain ⟨s, rfl⟩ : ∃ s : Nat, st = (s : Int) := ⟨st.toNat, by omega⟩
  obtain ⟨e, rfl⟩ : ∃ e : Nat, ev = (e : Int) := ⟨ev.toNat, by omega⟩
  obtain ⟨a1, c1, a2, c2, a3, c3⟩ := l
  simp only [Int.toNat_natCast]
  exact leader_go s e starts arrows ends a1 c1 a2 c2 a3 c3 w (Hid.of h) (Hid.of hm) (by omega) (by omega) z5 (Hid.of ha)

theorem LD.other4 {W : World} {L : LB} {b' ev N : Nat} {T : Nat → Nat → Nat} (h : LD W L ev N T) (hn : L.all (· ≠ b')) (v0 v1 v2 v3 : Value) : LD ((((W.setCell ⟨b', 0, none⟩ v0).setCell ⟨b', 1, none⟩ v1).setCell ⟨b', 2, none⟩ v2).setCell ⟨b', 3, none⟩ v3) L ev N T := by
  obtain ⟨cs, c1, c2, c3⟩ := h.tab
  exact ⟨Blk.other4' h.is 0 hn.1 v0 v1 v2 v3, Blk.other4' h.evb 0 hn.2.1 v0 v1 v2 v3, Blk.other4' h.to 0 hn.2.2.1 v0 v1 v2 v3, ⟨cs, Blk.other4' c1 0 hn.2.2.2.1 v0 v1 v2 v3, c2, c3⟩, Blk.other4' h.bd 0 hn.2.2.2.2 v0 v1 v2 v3⟩
theorem LD.alloc {W : World} {L : LB} {ev N : Nat} {T : Nat → Nat → Nat} (h : LD W L ev N T) (o : Obj) : LD (W.alloc o) L ev N T := h.kept ((Below.refl _ _).alloc (Nat.le_refl _) o)
theorem LD.drew {W : World} {L : LB} {ev N : Nat} {T : Nat → Nat → Nat} (h : LD W L ev N T) : LD W.drew L ev N T := ⟨h.is, h.evb, h.to, h.tab, h.bd⟩

end Go.Proofs.YtcjcjaeaoianfaaDoor
namespace Go.Proofs.YtcjcjaeaoianfaaDoor
open Go.RowKit
set_option linter.unusedVariables false

/-- What both have; what the first one alone has. -/
def meetS (S T : Nat → Nat) : Nat → Nat := fun k => S k &&& T k
def lessS (S T : Nat → Nat) : Nat → Nat := fun k => S k &&& (18446744073709551615 - T k)
theorem okS_meet {S T : Nat → Nat} (h : okS S) : okS (meetS S T) := fun k => Nat.lt_of_le_of_lt Nat.and_le_left (h k)
theorem okS_less {S T : Nat → Nat} (h : okS S) : okS (lessS S T) := fun k => Nat.lt_of_le_of_lt Nat.and_le_left (h k)
theorem hasS_meet (S T : Nat → Nat) (n : Nat) : hasS (meetS S T) n = (hasS S n && hasS T n) := by simp [hasS, meetS]
theorem hasS_less {S T : Nat → Nat} (h : okS T) (n : Nat) : hasS (lessS S T) n = (hasS S n && !hasS T n) := by
  unfold hasS lessS
  rw [Nat.testBit_and]
  have e : 18446744073709551615 - T (n / 64) = 2 ^ 64 - (T (n / 64) + 1) := by
    show _ = 18446744073709551616 - _
    omega
  rw [e, Nat.testBit_two_pow_sub_succ (h _)]
  have : n % 64 < 64 := by omega
  simp [this]

/-- The table: where each state leads in one step. -/
def tabKStep (fr to : Arr → Int) (T : Nat → Nat → Nat) (a : Arr) : Nat → Nat → Nat := fun p => if p = (fr a).toNat then withS (T p) (to a).toNat else T p
def tabK (fr to : Arr → Int) (ars : List Arr) : Nat → Nat → Nat := ars.foldl (tabKStep fr to) (fun _ => zeroS)
theorem tabK_take {fr to : Arr → Int} {ars : List Arr} {k : Nat} {a : Arr} (h : k < ars.length) (ha : Hid (a = ars[k]?.getD arr0)) : tabK fr to (ars.take (k + 1)) = tabKStep fr to (tabK fr to (ars.take k)) a := by
  have ha := ha.out
  rw [List.getElem?_eq_getElem h, Option.getD_some] at ha
  unfold tabK
  rw [List.take_add_one, List.getElem?_eq_getElem h, ← ha]
  simp [List.foldl_append]
theorem okS_tabKStep {fr to : Arr → Int} {T : Nat → Nat → Nat} (h : ∀ p, okS (T p)) (a : Arr) : ∀ p, okS (tabKStep fr to T a p) := fun p => by
  unfold tabKStep; split
  · exact okS_with (h p) _
  · exact h p
theorem okS_foldTabK {fr to : Arr → Int} : ∀ (ars : List Arr) (T : Nat → Nat → Nat), (∀ p, okS (T p)) → ∀ p, okS (ars.foldl (tabKStep fr to) T p)
  | [], _, h => h
  | a :: r, T, h => okS_foldTabK r _ (okS_tabKStep h a)
theorem okS_tabK (fr to : Arr → Int) (ars : List Arr) (p : Nat) : okS (tabK fr to ars p) := okS_foldTabK ars _ (fun _ => okS_zero) p
theorem has_foldTabK {fr to : Arr → Int} {p n : Nat} : ∀ (ars : List Arr) (T : Nat → Nat → Nat), hasS (ars.foldl (tabKStep fr to) T p) n = true ↔ hasS (T p) n = true ∨ ∃ a ∈ ars, p = (fr a).toNat ∧ n = (to a).toNat
  | [], T => by simp
  | a :: r, T => by
    rw [List.foldl_cons, has_foldTabK r]
    have e : hasS (tabKStep fr to T a p) n = true ↔ hasS (T p) n = true ∨ (p = (fr a).toNat ∧ n = (to a).toNat) := by
      unfold tabKStep
      by_cases h : p = (fr a).toNat
      · rw [if_pos h, hasS_with, Bool.or_eq_true, decide_eq_true_eq]; simp [h]
      · rw [if_neg h]; simp [h]
    rw [e]
    simp only [List.mem_cons, exists_eq_or_imp]
    rw [or_assoc]
theorem has_tabK (fr to : Arr → Int) (p n : Nat) (ars : List Arr) : hasS (tabK fr to ars p) n = true ↔ ∃ a ∈ ars, p = (fr a).toNat ∧ n = (to a).toNat := by
  unfold tabK; rw [has_foldTabK]; simp [hasS_zero]

/-- Where states lead to, by a table. -/
def toF (T : Nat → Nat → Nat) (ns : List Nat) : Nat → Nat := ns.foldl (fun o n => joinS o (T n)) zeroS
theorem toF_snoc (T : Nat → Nat → Nat) (ns : List Nat) (n : Nat) : toF T (ns ++ [n]) = joinS (toF T ns) (T n) := by simp [toF, List.foldl_append]
theorem ok_toG {T : Nat → Nat → Nat} (h : ∀ p, okS (T p)) : ∀ (ns : List Nat) (o : Nat → Nat), okS o → okS (ns.foldl (fun o n => joinS o (T n)) o)
  | [], _, ho => ho
  | n :: r, o, ho => ok_toG h r _ (okS_join ho (h _))
theorem ok_toF {T : Nat → Nat → Nat} (h : ∀ p, okS (T p)) (ns : List Nat) : okS (toF T ns) := ok_toG h ns _ okS_zero
theorem has_toG {T : Nat → Nat → Nat} {k : Nat} : ∀ (ns : List Nat) (o : Nat → Nat), hasS (ns.foldl (fun o n => joinS o (T n)) o) k = true ↔ hasS o k = true ∨ ∃ n ∈ ns, hasS (T n) k = true
  | [], o => by simp
  | n :: r, o => by
    rw [List.foldl_cons, has_toG r, hasS_join, Bool.or_eq_true]
    simp only [List.mem_cons, exists_eq_or_imp]
    rw [or_assoc]
theorem has_toF (T : Nat → Nat → Nat) (k : Nat) (ns : List Nat) : hasS (toF T ns) k = true ↔ ∃ n ∈ ns, hasS (T n) k = true := by
  unfold toF; rw [has_toG]; simp [hasS_zero]

/-- What holds from round to round: F is found, R of it is fresh. -/
structure Spr (fr to : Arr → Int) (ars : List Arr) (l : List Int) (F R : Nat → Nat) : Prop where
  okF : okS F
  okR : okS R
  sub : ∀ n, n < 256 → hasS R n = true → hasS F n = true
  rch : ∀ n : Nat, n < 256 → hasS F n = true → Rch fr to ars l (n : Int)
  start : ∀ x ∈ l, hasS F x.toNat = true
  shut : ∀ a ∈ ars, hasS F (fr a).toNat = true → hasS R (fr a).toNat = false → hasS F (to a).toNat = true

theorem spr_start {fr to : Arr → Int} {ars : List Arr} {l : List Int} (hl : ∀ x ∈ l, 0 ≤ x ∧ x < 256) : Spr fr to ars l (ofS l) (ofS l) := by
  have hr : Rep (ofS l) l := by
    have := rep_of hl l.length
    rwa [List.take_of_length_le (Nat.le_refl _)] at this
  refine ⟨hr.ok, hr.ok, fun _ _ h => h, fun n hn h => rch_start ((hr.mem n hn).1 h), fun x hx => ?_, fun a _ h1 h2 => by rw [h1] at h2; cases h2⟩
  have := hl x hx
  exact (hr.mem x.toNat (by omega)).2 (by rwa [Int.toNat_of_nonneg this.1])
/-- What comes in one round. -/
def frS (fr to : Arr → Int) (ars : List Arr) (F R : Nat → Nat) : Nat → Nat := lessS (toF (tabK fr to ars) (allS R)) F
theorem spr_step {fr to : Arr → Int} {ars : List Arr} {l : List Int} {F R : Nat → Nat} (hin : ∀ a ∈ ars, (0 ≤ fr a ∧ fr a < 256) ∧ 0 ≤ to a ∧ to a < 256) (h : Spr fr to ars l F R) : Spr fr to ars l (joinS F (frS fr to ars F R)) (frS fr to ars F R) := by
  have o1 : okS (frS fr to ars F R) := okS_less (ok_toF (okS_tabK fr to ars) _)
  have hf : ∀ n, hasS (frS fr to ars F R) n = (hasS (toF (tabK fr to ars) (allS R)) n && !hasS F n) := fun n => hasS_less h.okF n
  have hr : ∀ n, n < 256 → hasS (frS fr to ars F R) n = true → Rch fr to ars l (n : Int) := fun n hn hx => by
    rw [hf, Bool.and_eq_true, has_toF] at hx
    obtain ⟨⟨k, hk, ht⟩, -⟩ := hx
    obtain ⟨a, ha, e1, e2⟩ := (has_tabK _ _ _ _ _).1 ht
    obtain ⟨k1, k2⟩ := (mem_allS _ _).1 hk
    have hb := hin a ha
    have := h.rch k k1 (h.sub k k1 k2)
    rw [show (k : Int) = fr a by omega] at this
    rw [show (n : Int) = to a by omega]
    exact rch_step ha this
  refine ⟨okS_join h.okF o1, o1, fun n _ hx => by rw [hasS_join, hx]; simp, fun n hn hx => ?_, fun x hx => by rw [hasS_join, h.start x hx]; rfl, fun a ha h1 h2 => ?_⟩
  · rw [hasS_join, Bool.or_eq_true] at hx
    rcases hx with hx | hx
    · exact h.rch n hn hx
    · exact hr n hn hx
  · rw [hasS_join, h2, Bool.or_false] at h1
    have hb := hin a ha
    rw [hasS_join]
    cases hR : hasS R (fr a).toNat with
    | false => rw [h.shut a ha h1 hR]; rfl
    | true =>
      have ht : hasS (toF (tabK fr to ars) (allS R)) (to a).toNat = true := (has_toF _ _ _).2 ⟨(fr a).toNat, (mem_allS _ _).2 ⟨by omega, hR⟩, (has_tabK _ _ _ _ _).2 ⟨a, ha, rfl, rfl⟩⟩
      rw [hf, ht]
      cases hasS F (to a).toNat <;> rfl
theorem empty_has {S : Nat → Nat} (he : emptyB S = true) (n : Nat) (hn : n < 256) : hasS S n = false := by
  obtain ⟨e0, e1, e2, e3⟩ := of_decide_eq_true he
  unfold hasS
  have hk : n / 64 = 0 ∨ n / 64 = 1 ∨ n / 64 = 2 ∨ n / 64 = 3 := by omega
  rcases hk with hk | hk | hk | hk <;> rw [hk] <;> simp [e0, e1, e2, e3]
theorem empty_not {S : Nat → Nat} (ho : okS S) (he : emptyB S = false) : ∃ n, n < 256 ∧ hasS S n = true := by
  apply Classical.byContradiction
  intro hn
  have hw : ∀ i, i < 4 → S i = 0 := fun i hi => word_zero (ho i) fun j hj => by
    cases hb : (S i).testBit j with
    | false => rfl
    | true =>
      exfalso
      apply hn
      refine ⟨64 * i + j, by omega, ?_⟩
      unfold hasS
      rw [show (64 * i + j) / 64 = i by omega, show (64 * i + j) % 64 = j by omega]
      exact hb
  have : emptyB S = true := decide_eq_true ⟨hw 0 (by omega), hw 1 (by omega), hw 2 (by omega), hw 3 (by omega)⟩
  rw [this] at he; cases he
theorem spr_end {fr to : Arr → Int} {ars : List Arr} {l : List Int} {F R : Nat → Nat} (hl : ∀ x ∈ l, 0 ≤ x ∧ x < 256) (hin : ∀ a ∈ ars, (0 ≤ fr a ∧ fr a < 256) ∧ 0 ≤ to a ∧ to a < 256) (h : Spr fr to ars l F R) (he : emptyB R = true) (x : Int) : x ∈ rowS F ↔ Rch fr to ars l x := by
  rw [mem_rowS]
  constructor
  · rintro ⟨h0, h1, h2⟩
    have := h.rch x.toNat (by omega) h2
    rwa [Int.toNat_of_nonneg h0] at this
  · intro hx
    refine hx (fun x => 0 ≤ x ∧ x < 256 ∧ hasS F x.toNat = true) ⟨fun y hy => ⟨(hl y hy).1, (hl y hy).2, h.start y hy⟩, fun a ha ⟨h1, h2, h3⟩ => ?_⟩
    have hb := hin a ha
    exact ⟨hb.2.1, hb.2.2, h.shut a ha h3 (empty_has he _ (by omega))⟩
/-- What falls from round to round. -/
def msr (F R : Nat → Nat) : Nat := 2 * (256 - (allS F).length) + (emptyB R == false).toNat
theorem allS_filter {F G : Nat → Nat} (h : ∀ n, n < 256 → hasS F n = true → hasS G n = true) : allS F = (allS G).filter fun n => hasS F n := by
  apply natInc_ext (inc_fromS F 4 0) ((inc_fromS G 4 0).filter _)
  intro x
  show x ∈ allS F ↔ x ∈ (allS G).filter _
  rw [List.mem_filter, mem_allS, mem_allS]
  constructor
  · rintro ⟨h1, h2⟩; exact ⟨⟨h1, h x h1 h2⟩, h2⟩
  · rintro ⟨⟨h1, _⟩, h2⟩; exact ⟨h1, h2⟩
theorem msr_lt {fr to : Arr → Int} {ars : List Arr} {l : List Int} {F R : Nat → Nat} (h : Spr fr to ars l F R) (he : emptyB R = false) : msr (joinS F (frS fr to ars F R)) (frS fr to ars F R) < msr F R := by
  have o1 : okS (frS fr to ars F R) := okS_less (ok_toF (okS_tabK fr to ars) _)
  have hf := allS_filter (F := F) (G := joinS F (frS fr to ars F R)) (fun n _ hx => by rw [hasS_join, hx]; rfl)
  have hl2 := allS_len (joinS F (frS fr to ars F R))
  unfold msr
  rw [he]
  cases hE : emptyB (frS fr to ars F R) with
  | true =>
    have : (allS F).length ≤ (allS (joinS F (frS fr to ars F R))).length := by rw [hf]; exact List.length_filter_le _ _
    simp
    omega
  | false =>
    obtain ⟨n, hn, hx⟩ := empty_not o1 hE
    have : (allS F).length < (allS (joinS F (frS fr to ars F R))).length := by
      rw [hf]
      apply List.length_filter_lt_length_iff_exists.2
      refine ⟨n, (mem_allS _ _).2 ⟨hn, by rw [hasS_join, hx]; simp⟩, ?_⟩
      have := hx
      unfold frS at this
      rw [hasS_less h.okF, Bool.and_eq_true] at this
      have h2 : hasS F n = false := by simpa using this.2
      rw [h2]; simp
    simp
    omega

theorem inc_reach (m : Mach) : Inc (reachL m) := inc_srt _
theorem inc_live (m : Mach) : Inc (liveL m) := inc_srt _
theorem row_reach {m : Mach} (hm : mayB m = true) {F : Nat → Nat} (h : ∀ x, x ∈ rowS F ↔ Rch (·.f) (·.t) m.arrows m.starts x) : rowS F = reachL m :=
  inc_ext (inc_rowS F) (inc_reach m) (fun x => (h x).trans (mem_reach hm x).symm)
theorem row_live {m : Mach} (hm : mayB m = true) {F : Nat → Nat} (h : ∀ x, x ∈ rowS F ↔ Rch (·.t) (·.f) m.arrows m.ends x) : rowS F = liveL m :=
  inc_ext (inc_rowS F) (inc_live m) (fun x => (h x).trans (mem_live hm x).symm)
theorem row_trim {m : Mach} {F G : Nat → Nat} (hF : rowS F = reachL m) (hG : rowS G = liveL m) : rowS (meetS F G) = trimL m := by
  refine inc_ext (inc_rowS _) (inc_trim m) (fun x => ?_)
  rw [mem_trim, ← hF, ← hG, mem_rowS, mem_rowS, mem_rowS, hasS_meet, Bool.and_eq_true]
  constructor
  · rintro ⟨h0, h1, h2, h3⟩; exact ⟨⟨h0, h1, h2⟩, h0, h1, h3⟩
  · rintro ⟨⟨h0, h1, h2⟩, -, -, h3⟩; exact ⟨h0, h1, h2, h3⟩

end Go.Proofs.YtcjcjaeaoianfaaDoor
namespace Go.Proofs.YtcjcjaeaoianfaaDoor
open Go.RowKit
set_option linter.unusedVariables false

theorem andw_words {S T : Nat → Nat} (h : okS S) (h' : okS T) (k : Nat) : bits .and .u64 (S k : Int) (T k : Int) = ((S k &&& T k : Nat) : Int) := bits_and_u64_nat _ _ (h k) (h' k)
theorem less_words {S T : Nat → Nat} (h : okS S) (h' : okS T) (k : Nat) : bits .andNot .u64 (S k : Int) (T k : Int) = ((S k &&& (18446744073709551615 - T k) : Nat) : Int) := u64_andNot_nat _ _ (h k) (h' k)

/-- The first k words met. -/
def mixM (k : Nat) (S T : Nat → Nat) : Nat → Nat := fun j => if j < k then S j &&& T j else S j

theorem mixM_step0 {S T : Nat → Nat} (h : okS S) (h' : okS T) : (scells (mixM 0 S T)).setIfInBounds 0 (.int .u64 (bits .and .u64 (mixM 0 S T 0) (T 0))) = scells (mixM 1 S T) := by
  show (#[.int .u64 (bits .and .u64 (S 0) (T 0)), .int .u64 (S 1), .int .u64 (S 2), .int .u64 (S 3)] : Array Value) = _
  rw [andw_words h h']; rfl
theorem mixM_step1 {S T : Nat → Nat} (h : okS S) (h' : okS T) : (scells (mixM 1 S T)).setIfInBounds 1 (.int .u64 (bits .and .u64 (mixM 1 S T 1) (T 1))) = scells (mixM 2 S T) := by
  show (#[.int .u64 (mixM 1 S T 0), .int .u64 (bits .and .u64 (S 1) (T 1)), .int .u64 (S 2), .int .u64 (S 3)] : Array Value) = _
  rw [andw_words h h']; rfl
theorem mixM_step2 {S T : Nat → Nat} (h : okS S) (h' : okS T) : (scells (mixM 2 S T)).setIfInBounds 2 (.int .u64 (bits .and .u64 (mixM 2 S T 2) (T 2))) = scells (mixM 3 S T) := by
  show (#[.int .u64 (mixM 2 S T 0), .int .u64 (mixM 2 S T 1), .int .u64 (bits .and .u64 (S 2) (T 2)), .int .u64 (S 3)] : Array Value) = _
  rw [andw_words h h']; rfl
theorem mixM_step3 {S T : Nat → Nat} (h : okS S) (h' : okS T) : (scells (mixM 3 S T)).setIfInBounds 3 (.int .u64 (bits .and .u64 (mixM 3 S T 3) (T 3))) = scells (mixM 4 S T) := by
  show (#[.int .u64 (mixM 3 S T 0), .int .u64 (mixM 3 S T 1), .int .u64 (mixM 3 S T 2), .int .u64 (bits .and .u64 (S 3) (T 3))] : Array Value) = _
  rw [andw_words h h']; rfl

set_option maxHeartbeats 2000000 in
theorem meet_any (S T : Nat → Nat) (w : World) (h : okS S) (h' : okS T) :
    Calls Tryd.prog 45 #[sval S, sval T] w fun e w' => e = .returned (sval (meetS S T)) ∧ Below w.heap.size w w' := by
  go_enter Tryd.func45, Tryd.ntmps45
  go_wp2
  go_loopw [6] (fun i wr => ∃ k : Nat, k ≤ 4 ∧ i = .int .i64 k ∧ SB wr w.heap.size (mixM k S T) ∧ SB wr (w.heap.size + 1) T ∧ SB wr (w.heap.size + 2) zeroS ∧ Below w.heap.size w wr) (fun i _ => 4 - (intOf i).toNat)
  case atStart =>
    refine ⟨0, by omega, rfl, ((Blk.new w _ _).alloc _).alloc _, ?_, ?_, (((Below.refl _ _).alloc (Nat.le_refl _) _).alloc (by simp) _).alloc (by simp; omega) _⟩
    · have := (Blk.new (w.alloc (.cells (scells S) 55)) 55 (scells T)).alloc (.cells (scells zeroS) 55)
      rwa [World.size_alloc] at this
    · have := (Blk.new ((w.alloc (.cells (scells S) 55)).alloc (.cells (scells T) 55)) 55 (scells zeroS))
      rwa [World.size_alloc, World.size_alloc] at this
  case round =>
    obtain ⟨k, hk, rfl, s1, s2, s3, hB⟩ := hrel
    have hk' : k = 4 ∨ k = 0 ∨ k = 1 ∨ k = 2 ∨ k = 3 := by omega
    obtain ⟨p0, p1, p2, p3⟩ := s1.cells
    obtain ⟨q0, q1, q2, q3⟩ := s2.cells
    have fz := s1.frozen
    rcases hk' with rfl | rfl | rfl | rfl | rfl
    · obtain ⟨r0, r1, r2, r3⟩ := s3.cells
      have fz3 := s3.frozen
      have e4 : Hid (scells (mixM 4 S T) = scells (meetS S T)) := rfl
      have k1 := (((s3.set 0 (.int .u64 (mixM 4 S T 0))).set 1 (.int .u64 (mixM 4 S T 1))).set 2 (.int .u64 (mixM 4 S T 2))).set 3 (.int .u64 (mixM 4 S T 3))
      have k2 := Hid.of k1
      clear k1
      go_wp2
      have k1 := k2.out
      refine bodyPost_ret (v := sval (meetS S T)) ?_ rfl ⟨rfl, (((hB.setCell (p := ⟨w.heap.size + 1 + 1, 0, none⟩) (by simp; omega) _).setCell (p := ⟨w.heap.size + 1 + 1, 1, none⟩) (by simp; omega) _).setCell (p := ⟨w.heap.size + 1 + 1, 2, none⟩) (by simp; omega) _).setCell (p := ⟨w.heap.size + 1 + 1, 3, none⟩) (by simp; omega) _⟩
      exact results_cell_row (g := w.heap.size + 2) (p := 4) rfl _ _ _ _ _ _ rfl k1 Tryd.underlying55 rfl (by kernel_rfl)
    · go_wp2
      go_region
      go_wp2
      exact ⟨⟨1, by omega, rfl, (by have := s1.set 0 (.int .u64 (bits .and .u64 (mixM 0 S T 0) (T 0))); rwa [mixM_step0 h h'] at this), s2.other (by omega) _, s3.other (by omega) _, (hB.setCell (p := ⟨w.heap.size, 0, none⟩) (by simp) _).drew⟩, by simp [intOf]⟩
    · go_wp2
      go_region
      go_wp2
      exact ⟨⟨2, by omega, rfl, (by have := s1.set 1 (.int .u64 (bits .and .u64 (mixM 1 S T 1) (T 1))); rwa [mixM_step1 h h'] at this), s2.other (by omega) _, s3.other (by omega) _, (hB.setCell (p := ⟨w.heap.size, 1, none⟩) (by simp) _).drew⟩, by simp [intOf]⟩
    · go_wp2
      go_region
      go_wp2
      exact ⟨⟨3, by omega, rfl, (by have := s1.set 2 (.int .u64 (bits .and .u64 (mixM 2 S T 2) (T 2))); rwa [mixM_step2 h h'] at this), s2.other (by omega) _, s3.other (by omega) _, (hB.setCell (p := ⟨w.heap.size, 2, none⟩) (by simp) _).drew⟩, by simp [intOf]⟩
    · go_wp2
      go_region
      go_wp2
      exact ⟨⟨4, by omega, rfl, (by have := s1.set 3 (.int .u64 (bits .and .u64 (mixM 3 S T 3) (T 3))); rwa [mixM_step3 h h'] at this), s2.other (by omega) _, s3.other (by omega) _, (hB.setCell (p := ⟨w.heap.size, 3, none⟩) (by simp) _).drew⟩, by simp [intOf]⟩

/-- The first k words less. -/
def mixL (k : Nat) (S T : Nat → Nat) : Nat → Nat := fun j => if j < k then S j &&& (18446744073709551615 - T j) else S j

theorem mixL_step0 {S T : Nat → Nat} (h : okS S) (h' : okS T) : (scells (mixL 0 S T)).setIfInBounds 0 (.int .u64 (bits .andNot .u64 (mixL 0 S T 0) (T 0))) = scells (mixL 1 S T) := by
  show (#[.int .u64 (bits .andNot .u64 (S 0) (T 0)), .int .u64 (S 1), .int .u64 (S 2), .int .u64 (S 3)] : Array Value) = _
  rw [less_words h h']; rfl
theorem mixL_step1 {S T : Nat → Nat} (h : okS S) (h' : okS T) : (scells (mixL 1 S T)).setIfInBounds 1 (.int .u64 (bits .andNot .u64 (mixL 1 S T 1) (T 1))) = scells (mixL 2 S T) := by
  show (#[.int .u64 (mixL 1 S T 0), .int .u64 (bits .andNot .u64 (S 1) (T 1)), .int .u64 (S 2), .int .u64 (S 3)] : Array Value) = _
  rw [less_words h h']; rfl
theorem mixL_step2 {S T : Nat → Nat} (h : okS S) (h' : okS T) : (scells (mixL 2 S T)).setIfInBounds 2 (.int .u64 (bits .andNot .u64 (mixL 2 S T 2) (T 2))) = scells (mixL 3 S T) := by
  show (#[.int .u64 (mixL 2 S T 0), .int .u64 (mixL 2 S T 1), .int .u64 (bits .andNot .u64 (S 2) (T 2)), .int .u64 (S 3)] : Array Value) = _
  rw [less_words h h']; rfl
theorem mixL_step3 {S T : Nat → Nat} (h : okS S) (h' : okS T) : (scells (mixL 3 S T)).setIfInBounds 3 (.int .u64 (bits .andNot .u64 (mixL 3 S T 3) (T 3))) = scells (mixL 4 S T) := by
  show (#[.int .u64 (mixL 3 S T 0), .int .u64 (mixL 3 S T 1), .int .u64 (mixL 3 S T 2), .int .u64 (bits .andNot .u64 (S 3) (T 3))] : Array Value) = _
  rw [less_words h h']; rfl

set_option maxHeartbeats 2000000 in
theorem less_any (S T : Nat → Nat) (w : World) (h : okS S) (h' : okS T) :
    Calls Tryd.prog 101 #[sval S, sval T] w fun e w' => e = .returned (sval (lessS S T)) ∧ Below w.heap.size w w' := by
  go_enter Tryd.func101, Tryd.ntmps101
  go_wp2
  go_loopw [6] (fun i wr => ∃ k : Nat, k ≤ 4 ∧ i = .int .i64 k ∧ SB wr w.heap.size (mixL k S T) ∧ SB wr (w.heap.size + 1) T ∧ SB wr (w.heap.size + 2) zeroS ∧ Below w.heap.size w wr) (fun i _ => 4 - (intOf i).toNat)
  case atStart =>
    refine ⟨0, by omega, rfl, ((Blk.new w _ _).alloc _).alloc _, ?_, ?_, (((Below.refl _ _).alloc (Nat.le_refl _) _).alloc (by simp) _).alloc (by simp; omega) _⟩
    · have := (Blk.new (w.alloc (.cells (scells S) 55)) 55 (scells T)).alloc (.cells (scells zeroS) 55)
      rwa [World.size_alloc] at this
    · have := (Blk.new ((w.alloc (.cells (scells S) 55)).alloc (.cells (scells T) 55)) 55 (scells zeroS))
      rwa [World.size_alloc, World.size_alloc] at this
  case round =>
    obtain ⟨k, hk, rfl, s1, s2, s3, hB⟩ := hrel
    have hk' : k = 4 ∨ k = 0 ∨ k = 1 ∨ k = 2 ∨ k = 3 := by omega
    obtain ⟨p0, p1, p2, p3⟩ := s1.cells
    obtain ⟨q0, q1, q2, q3⟩ := s2.cells
    have fz := s1.frozen
    rcases hk' with rfl | rfl | rfl | rfl | rfl
    · obtain ⟨r0, r1, r2, r3⟩ := s3.cells
      have fz3 := s3.frozen
      have e4 : Hid (scells (mixL 4 S T) = scells (lessS S T)) := rfl
      have k1 := (((s3.set 0 (.int .u64 (mixL 4 S T 0))).set 1 (.int .u64 (mixL 4 S T 1))).set 2 (.int .u64 (mixL 4 S T 2))).set 3 (.int .u64 (mixL 4 S T 3))
      have k2 := Hid.of k1
      clear k1
      go_wp2
      have k1 := k2.out
      refine bodyPost_ret (v := sval (lessS S T)) ?_ rfl ⟨rfl, (((hB.setCell (p := ⟨w.heap.size + 1 + 1, 0, none⟩) (by simp; omega) _).setCell (p := ⟨w.heap.size + 1 + 1, 1, none⟩) (by simp; omega) _).setCell (p := ⟨w.heap.size + 1 + 1, 2, none⟩) (by simp; omega) _).setCell (p := ⟨w.heap.size + 1 + 1, 3, none⟩) (by simp; omega) _⟩
      exact results_cell_row (g := w.heap.size + 2) (p := 4) rfl _ _ _ _ _ _ rfl k1 Tryd.underlying55 rfl (by kernel_rfl)
    · go_wp2
      go_region
      go_wp2
      exact ⟨⟨1, by omega, rfl, (by have := s1.set 0 (.int .u64 (bits .andNot .u64 (mixL 0 S T 0) (T 0))); rwa [mixL_step0 h h'] at this), s2.other (by omega) _, s3.other (by omega) _, (hB.setCell (p := ⟨w.heap.size, 0, none⟩) (by simp) _).drew⟩, by simp [intOf]⟩
    · go_wp2
      go_region
      go_wp2
      exact ⟨⟨2, by omega, rfl, (by have := s1.set 1 (.int .u64 (bits .andNot .u64 (mixL 1 S T 1) (T 1))); rwa [mixL_step1 h h'] at this), s2.other (by omega) _, s3.other (by omega) _, (hB.setCell (p := ⟨w.heap.size, 1, none⟩) (by simp) _).drew⟩, by simp [intOf]⟩
    · go_wp2
      go_region
      go_wp2
      exact ⟨⟨3, by omega, rfl, (by have := s1.set 2 (.int .u64 (bits .andNot .u64 (mixL 2 S T 2) (T 2))); rwa [mixL_step2 h h'] at this), s2.other (by omega) _, s3.other (by omega) _, (hB.setCell (p := ⟨w.heap.size, 2, none⟩) (by simp) _).drew⟩, by simp [intOf]⟩
    · go_wp2
      go_region
      go_wp2
      exact ⟨⟨4, by omega, rfl, (by have := s1.set 3 (.int .u64 (bits .andNot .u64 (mixL 3 S T 3) (T 3))); rwa [mixL_step3 h h'] at this), s2.other (by omega) _, s3.other (by omega) _, (hB.setCell (p := ⟨w.heap.size, 3, none⟩) (by simp) _).drew⟩, by simp [intOf]⟩

end Go.Proofs.YtcjcjaeaoianfaaDoor
namespace Go.Proofs.YtcjcjaeaoianfaaDoor
open Go.RowKit
set_option linter.unusedVariables false

theorem Tryd.guardSet : Tryd.prog.eqGuardType Tryd.prog.depth 55 = false := by kernel_rfl
theorem Tryd.infoU64 : (Tryd.prog.info? 53).map (fun i => (i.zero, i.size, i.bytes)) = some (some (.int .u64 0), 1, 8) := by kernel_rfl

theorem run_guard_set (op : BinOp) (x y : Operand) (xs ys : Array Value) (w : World) : (eqGuard op 55 x y (.agg xs) (.agg ys)).run Tryd.prog w = .ok () w := run_eqGuard_agg w op 55 x y xs ys Tryd.guardSet

theorem run_equalIn_set (S : Nat → Nat) (w : World) : (Op.equalIn 10000 55 (sval S) (.agg #[.int .u64 0, .int .u64 0, .int .u64 0, .int .u64 0])).run Tryd.prog w = .ok (emptyB S) w := by
  obtain ⟨i0, hi, hz0, hz1, hz2⟩ := info_parts Tryd.infoU64
  rw [run_equalIn_array w 9999 _ _ Tryd.underlying55 hi]
  have hc : Tryd.prog.cellsOf 53 = 1 := by kernel_rfl
  have hl : List.range 4 = [0, 1, 2, 3] := rfl
  rw [hc, hl]
  unfold emptyB
  by_cases h0 : S 0 = 0 <;> by_cases h1 : S 1 = 0 <;> by_cases h2 : S 2 = 0 <;> by_cases h3 : S 3 = 0 <;> simp [Op.eqItems, go_sem, h0, h1, h2, h3]

end Go.Proofs.YtcjcjaeaoianfaaDoor
