/-
  The walk of Set.Less.
  What is said of a machine's block, and of slices that lie elsewhere.
  What the laws of machines share: 'great' walked.
  Plain: states, and where unseen events lead to from them, as the reference finds them. No program, no model.
  Plain: what unseen events come to, and the machine of what is seen. No program, no model.
  Plain: the machine of what is seen: it may be, and it accepts what is seen of the words that are accepted. No program, no model.
  Plain: safe rows of states, and what to keep to. No program, no model.
-/
import Derived.Laws.BitsAllLaws
import Derived.Test.YtkodmnooibpflaaDoorCSetOps
import Derived.Test.YtkodmnooibpflaaDoorG13
import Derived.Laws.ResultCell
import Derived.Deep.RegionLaw
import Derived.Laws.StructEq
import Derived.Test.YtkodmnooibpflaaDoorG04
import Derived.Test.YtkodmnooibpflaaDoorG03
import Derived.Test.YtkodmnooibpflaaDoorCRefMay
import Derived.Test.YtkodmnooibpflaaDoorG09
import Derived.Test.YtkodmnooibpflaaDoorG05
namespace Go.Proofs.YtkodmnooibpflaaDoor
open Go.RowKit
set_option linter.unusedVariables false

theorem lessc_words {S T : Nat → Nat} (h : okS S) (h' : okS T) (k : Nat) : bits .andNot .u64 (S k : Int) (T k : Int) = ((S k &&& (18446744073709551615 - T k) : Nat) : Int) := u64_andNot_nat _ _ (h k) (h' k)

/-- The first k words less. -/
def mixLc (k : Nat) (S T : Nat → Nat) : Nat → Nat := fun j => if j < k then S j &&& (18446744073709551615 - T j) else S j

theorem mixLc_step0 {S T : Nat → Nat} (h : okS S) (h' : okS T) : (scells (mixLc 0 S T)).setIfInBounds 0 (.int .u64 (bits .andNot .u64 (mixLc 0 S T 0) (T 0))) = scells (mixLc 1 S T) := by
  show (#[.int .u64 (bits .andNot .u64 (S 0) (T 0)), .int .u64 (S 1), .int .u64 (S 2), .int .u64 (S 3)] : Array Value) = _
  rw [lessc_words h h']; rfl
theorem mixLc_step1 {S T : Nat → Nat} (h : okS S) (h' : okS T) : (scells (mixLc 1 S T)).setIfInBounds 1 (.int .u64 (bits .andNot .u64 (mixLc 1 S T 1) (T 1))) = scells (mixLc 2 S T) := by
  show (#[.int .u64 (mixLc 1 S T 0), .int .u64 (bits .andNot .u64 (S 1) (T 1)), .int .u64 (S 2), .int .u64 (S 3)] : Array Value) = _
  rw [lessc_words h h']; rfl
theorem mixLc_step2 {S T : Nat → Nat} (h : okS S) (h' : okS T) : (scells (mixLc 2 S T)).setIfInBounds 2 (.int .u64 (bits .andNot .u64 (mixLc 2 S T 2) (T 2))) = scells (mixLc 3 S T) := by
  show (#[.int .u64 (mixLc 2 S T 0), .int .u64 (mixLc 2 S T 1), .int .u64 (bits .andNot .u64 (S 2) (T 2)), .int .u64 (S 3)] : Array Value) = _
  rw [lessc_words h h']; rfl
theorem mixLc_step3 {S T : Nat → Nat} (h : okS S) (h' : okS T) : (scells (mixLc 3 S T)).setIfInBounds 3 (.int .u64 (bits .andNot .u64 (mixLc 3 S T 3) (T 3))) = scells (mixLc 4 S T) := by
  show (#[.int .u64 (mixLc 3 S T 0), .int .u64 (mixLc 3 S T 1), .int .u64 (mixLc 3 S T 2), .int .u64 (bits .andNot .u64 (S 3) (T 3))] : Array Value) = _
  rw [lessc_words h h']; rfl

set_option maxHeartbeats 2000000 in
theorem lessc_any (S T : Nat → Nat) (w : World) (h : okS S) (h' : okS T) :
    Calls Tryd.prog 82 #[sval S, sval T] w fun e w' => e = .returned (sval (lessS S T)) ∧ Below w.heap.size w w' := by
  go_enter Tryd.func82, Tryd.ntmps82
  go_wp2
  go_loopw [6] (fun i wr => ∃ k : Nat, k ≤ 4 ∧ i = .int .i64 k ∧ SB wr w.heap.size (mixLc k S T) ∧ SB wr (w.heap.size + 1) T ∧ SB wr (w.heap.size + 2) zeroS ∧ Below w.heap.size w wr) (fun i _ => 4 - (intOf i).toNat)
  case atStart =>
    refine ⟨0, by omega, rfl, ((Blk.new w _ _).alloc _).alloc _, ?_, ?_, (((Below.refl _ _).alloc (Nat.le_refl _) _).alloc (by simp) _).alloc (by simp; omega) _⟩
    · have := (Blk.new (w.alloc (.cells (scells S) 79)) 79 (scells T)).alloc (.cells (scells zeroS) 79)
      rwa [World.size_alloc] at this
    · have := (Blk.new ((w.alloc (.cells (scells S) 79)).alloc (.cells (scells T) 79)) 79 (scells zeroS))
      rwa [World.size_alloc, World.size_alloc] at this
  case round =>
    obtain ⟨k, hk, rfl, s1, s2, s3, hB⟩ := hrel
    have hk' : k = 4 ∨ k = 0 ∨ k = 1 ∨ k = 2 ∨ k = 3 := by omega
    obtain ⟨p0, p1, p2, p3⟩ := s1.cells
    obtain ⟨q0, q1, q2, q3⟩ := s2.cells
    have fz := s1.frozen
    rcases hk' with rfl | rfl | rfl | rfl | rfl
    · obtain ⟨r0, r1, r2, r3⟩ := s3.cells
      have fz3 := s3.frozen
      have e4 : Hid (scells (mixLc 4 S T) = scells (lessS S T)) := rfl
      have k1 := (((s3.set 0 (.int .u64 (mixLc 4 S T 0))).set 1 (.int .u64 (mixLc 4 S T 1))).set 2 (.int .u64 (mixLc 4 S T 2))).set 3 (.int .u64 (mixLc 4 S T 3))
      have k2 := Hid.of k1
      clear k1
      go_wp2
      have k1 := k2.out
      refine bodyPost_ret (v := sval (lessS S T)) ?_ rfl ⟨rfl, (((hB.setCell (p := ⟨w.heap.size + 1 + 1, 0, none⟩) (by simp; omega) _).setCell (p := ⟨w.heap.size + 1 + 1, 1, none⟩) (by simp; omega) _).setCell (p := ⟨w.heap.size + 1 + 1, 2, none⟩) (by simp; omega) _).setCell (p := ⟨w.heap.size + 1 + 1, 3, none⟩) (by simp; omega) _⟩
      exact results_cell_row (g := w.heap.size + 2) (p := 4) rfl _ _ _ _ _ _ rfl k1 Tryd.underlying79 rfl (by kernel_rfl)
    · go_wp2
      go_region
      go_wp2
      exact ⟨⟨1, by omega, rfl, (by have := s1.set 0 (.int .u64 (bits .andNot .u64 (mixLc 0 S T 0) (T 0))); rwa [mixLc_step0 h h'] at this), s2.other (by omega) _, s3.other (by omega) _, (hB.setCell (p := ⟨w.heap.size, 0, none⟩) (by simp) _).drew⟩, by simp [intOf]⟩
    · go_wp2
      go_region
      go_wp2
      exact ⟨⟨2, by omega, rfl, (by have := s1.set 1 (.int .u64 (bits .andNot .u64 (mixLc 1 S T 1) (T 1))); rwa [mixLc_step1 h h'] at this), s2.other (by omega) _, s3.other (by omega) _, (hB.setCell (p := ⟨w.heap.size, 1, none⟩) (by simp) _).drew⟩, by simp [intOf]⟩
    · go_wp2
      go_region
      go_wp2
      exact ⟨⟨3, by omega, rfl, (by have := s1.set 2 (.int .u64 (bits .andNot .u64 (mixLc 2 S T 2) (T 2))); rwa [mixLc_step2 h h'] at this), s2.other (by omega) _, s3.other (by omega) _, (hB.setCell (p := ⟨w.heap.size, 2, none⟩) (by simp) _).drew⟩, by simp [intOf]⟩
    · go_wp2
      go_region
      go_wp2
      exact ⟨⟨4, by omega, rfl, (by have := s1.set 3 (.int .u64 (bits .andNot .u64 (mixLc 3 S T 3) (T 3))); rwa [mixLc_step3 h h'] at this), s2.other (by omega) _, s3.other (by omega) _, (hB.setCell (p := ⟨w.heap.size, 3, none⟩) (by simp) _).drew⟩, by simp [intOf]⟩

end Go.Proofs.YtkodmnooibpflaaDoor
namespace Go.Proofs.YtkodmnooibpflaaDoor
open Go.RowKit
set_option linter.unusedVariables false

theorem mcell_at {W : World} {b : Nat} {m : Mach} {l : ML} (h : Blk W b 25 (mcells m l)) : W.cell? ⟨b, 0, none⟩ = some (.int .i64 m.st) ∧ W.cell? ⟨b, 1, none⟩ = some (.int .i64 m.ev) ∧ W.cell? ⟨b, 2, none⟩ = some (.slice l.a1 m.starts.length l.c1) ∧ W.cell? ⟨b, 3, none⟩ = some (.slice l.a2 m.arrows.length l.c2) ∧ W.cell? ⟨b, 4, none⟩ = some (.slice l.a3 m.ends.length l.c3) :=
  ⟨h.cell 0 rfl, h.cell 1 rfl, h.cell 2 rfl, h.cell 3 rfl, h.cell 4 rfl⟩

end Go.Proofs.YtkodmnooibpflaaDoor
namespace Go.Proofs.YtkodmnooibpflaaDoor
open Go.RowKit
set_option linter.unusedVariables false

/-- A call has answered yes or no. -/
def IsBool (e : Ending) : Prop := ∃ bb, e = .returned (.bool bb)
theorem isBool (bb : Bool) : IsBool (.returned (.bool bb)) := ⟨bb, rfl⟩

set_option maxHeartbeats 1000000 in
theorem great_any (m : Mach) (l : ML) (w : World) :
    Calls Tryd.prog 24 #[mval m l] w fun e w' => IsBool e ∧ Below w.heap.size w w' := by
  have B0 : Hid (Below w.heap.size w (w.alloc (.cells (mcells m l) 25))) := (Below.refl _ _).alloc (Nat.le_refl _) _
  go_enter Tryd.func24, Tryd.ntmps24
  go_wp2
  all_goals
    go_ret
    exact ⟨isBool _, B0.out⟩

end Go.Proofs.YtkodmnooibpflaaDoor
namespace Go.Proofs.YtkodmnooibpflaaDoor
open Go.RowKit
set_option linter.unusedVariables false

/-- One arrow more. -/
def wAdd (seen : List Int) (x : Int) (l : List Int) (a : Arr) : List Int := if (decide (a.f = x) && (!hasB seen a.e && !hasB l a.t)) = true then l ++ [a.t] else l
def wRow (ars : List Arr) (seen : List Int) (x : Int) (l : List Int) : List Int := ars.foldl (wAdd seen x) l
def wGo (ars : List Arr) (seen : List Int) : Nat → Nat → List Int → List Int
  | 0, _, l => l
  | f + 1, k, l => if k < l.length then wGo ars seen f (k + 1) (wRow ars seen (l[k]?.getD 0) l) else l
def wideL (ars : List Arr) (seen ss : List Int) : List Int := srt (wGo ars seen (ss.length + 256) 0 ss)

/-- How a list has grown. -/
def WB (ss l : List Int) : Prop := ∃ t, l = ss ++ t ∧ t.Nodup ∧ ∀ x ∈ t, 0 ≤ x ∧ x < (256 : Nat)
theorem WB.refl (ss : List Int) : WB ss ss := ⟨[], by simp, by simp, by simp⟩
theorem WB.len {ss l : List Int} (h : WB ss l) : l.length ≤ ss.length + 256 := by
  obtain ⟨t, rfl, h1, h2⟩ := h
  have := nodup_len 256 t h1 h2
  rw [List.length_append]; omega
theorem WB.add {ss l : List Int} (h : WB ss l) {seen : List Int} {x : Int} {a : Arr} (ha : 0 ≤ a.t ∧ a.t < (256 : Nat)) : WB ss (wAdd seen x l a) := by
  unfold wAdd
  split
  · rename_i hc
    obtain ⟨t, rfl, h1, h2⟩ := h
    have hn : a.t ∉ ss ++ t := by
      intro hm
      rw [(hasB_iff _ _).2 hm] at hc
      simp at hc
    refine ⟨t ++ [a.t], by rw [List.append_assoc], ?_, ?_⟩
    · rw [List.nodup_append]
      exact ⟨h1, by simp, fun y hy z hz e => by simp at hz; subst hz; subst e; exact hn (by simp [hy])⟩
    · intro y hy
      rcases List.mem_append.1 hy with hy | hy
      · exact h2 y hy
      · have : y = a.t := by simpa using hy
        rw [this]; exact ha
  · exact h
theorem wAdd_pre (seen : List Int) (x : Int) (l : List Int) (a : Arr) : ∃ t, wAdd seen x l a = l ++ t := by
  unfold wAdd; split
  · exact ⟨_, rfl⟩
  · exact ⟨[], by simp⟩
theorem wRow_pre (seen : List Int) (x : Int) : ∀ (ars : List Arr) (l : List Int), ∃ t, wRow ars seen x l = l ++ t
  | [], l => ⟨[], by simp [wRow]⟩
  | a :: r, l => by
    obtain ⟨t, h⟩ := wAdd_pre seen x l a
    obtain ⟨u, h'⟩ := wRow_pre seen x r (wAdd seen x l a)
    exact ⟨t ++ u, by show wRow r seen x (wAdd seen x l a) = _; rw [h', h, List.append_assoc]⟩
theorem wRow_take {ars : List Arr} {seen : List Int} {x : Int} {l : List Int} {j : Nat} {a : Arr} (h : j < ars.length) (ha : Hid (a = ars[j]?.getD arr0)) : wRow (ars.take (j + 1)) seen x l = wAdd seen x (wRow (ars.take j) seen x l) a := by
  have ha := ha.out
  rw [List.getElem?_eq_getElem h, Option.getD_some] at ha
  unfold wRow
  rw [List.take_add_one, List.getElem?_eq_getElem h, List.foldl_append, ← ha]; rfl
theorem wRow_nth {ars : List Arr} {seen : List Int} {x : Int} {l : List Int} {k : Nat} (h : k < l.length) : k < (wRow ars seen x l).length ∧ (wRow ars seen x l)[k]?.getD 0 = l[k]?.getD 0 := by
  obtain ⟨t, e⟩ := wRow_pre seen x ars l
  rw [e, List.getElem?_append_left h, List.length_append]
  exact ⟨by omega, rfl⟩
theorem wGo_next {ars : List Arr} {seen : List Int} {f k : Nat} {l : List Int} (hk : k < l.length) (hf : 0 < f) : wGo ars seen f k l = wGo ars seen (f - 1) (k + 1) (wRow ars seen (l[k]?.getD 0) l) := by
  obtain ⟨g, rfl⟩ : ∃ g, f = g + 1 := ⟨f - 1, by omega⟩
  rw [wGo, if_pos hk]; rfl
theorem wGo_end {ars : List Arr} {seen : List Int} {f k : Nat} {l : List Int} (hk : ¬ k < l.length) : wGo ars seen f k l = l := by
  cases f with
  | zero => rfl
  | succ g => rw [wGo, if_neg hk]
end Go.Proofs.YtkodmnooibpflaaDoor
namespace Go.Proofs.YtkodmnooibpflaaDoor
open Go.RowKit
set_option linter.unusedVariables false

/-- The arrows that are not seen. -/
def unseenA (ars : List Arr) (seen : List Int) : List Arr := ars.filter fun a => !hasB seen a.e
theorem mem_unseen (ars : List Arr) (seen : List Int) (a : Arr) : a ∈ unseenA ars seen ↔ a ∈ ars ∧ hasB seen a.e = false := by
  unfold unseenA; rw [List.mem_filter]; simp
theorem wAdd_in {seen : List Int} {y x : Int} {l : List Int} {a : Arr} (h : x ∈ wAdd seen y l a) : x ∈ l ∨ (a.f = y ∧ hasB seen a.e = false ∧ x = a.t) := by
  unfold wAdd at h
  split at h
  · rename_i hc
    simp only [Bool.and_eq_true, decide_eq_true_eq, Bool.not_eq_true'] at hc
    rcases List.mem_append.1 h with h | h
    · exact .inl h
    · exact .inr ⟨hc.1, hc.2.1, by simpa using h⟩
  · exact .inl h
theorem wAdd_has {seen : List Int} {y : Int} {l : List Int} {a : Arr} (h1 : a.f = y) (h2 : hasB seen a.e = false) : a.t ∈ wAdd seen y l a := by
  unfold wAdd
  split
  · simp
  · rename_i hc
    cases h3 : hasB l a.t with
    | true => exact (hasB_iff _ _).1 h3
    | false => exact absurd (by simp [h1, h2, h3]) hc
theorem wRow_in {seen : List Int} {y x : Int} : ∀ {ars : List Arr} {l : List Int}, x ∈ wRow ars seen y l → x ∈ l ∨ ∃ a ∈ ars, a.f = y ∧ hasB seen a.e = false ∧ x = a.t
  | [], l, h => .inl h
  | a :: r, l, h => by
    rcases wRow_in (ars := r) (l := wAdd seen y l a) h with h | ⟨c, hc, h'⟩
    · rcases wAdd_in h with h | h
      · exact .inl h
      · exact .inr ⟨a, by simp, h⟩
    · exact .inr ⟨c, by simp [hc], h'⟩
theorem wRow_has {seen : List Int} {y : Int} : ∀ {ars : List Arr} {l : List Int} {a : Arr}, a ∈ ars → a.f = y → hasB seen a.e = false → a.t ∈ wRow ars seen y l
  | [], _, a, h, _, _ => by simp at h
  | c :: r, l, a, h, h1, h2 => by
    rcases List.mem_cons.1 h with rfl | h
    · obtain ⟨t, e⟩ := wRow_pre seen y r (wAdd seen y l a)
      show a.t ∈ wRow r seen y (wAdd seen y l a)
      rw [e]
      exact List.mem_append_left _ (wAdd_has h1 h2)
    · exact wRow_has (ars := r) h h1 h2
theorem wRow_wb {ss : List Int} {seen : List Int} {y : Int} : ∀ {ars : List Arr} {l : List Int}, (∀ a ∈ ars, 0 ≤ a.t ∧ a.t < (256 : Nat)) → WB ss l → WB ss (wRow ars seen y l)
  | [], _, _, h => h
  | a :: r, l, hin, h => wRow_wb (ars := r) (fun c hc => hin c (by simp [hc])) (h.add (hin a (by simp)))
/-- What is known when the first k have been gone on from. -/
structure WI (ars : List Arr) (seen ss : List Int) (k : Nat) (l : List Int) : Prop where
  wb : WB ss l
  rch : ∀ x ∈ l, Rch (·.f) (·.t) (unseenA ars seen) ss x
  cl : ∀ i, i < k → ∀ y, l[i]? = some y → ∀ a ∈ unseenA ars seen, a.f = y → a.t ∈ l
theorem wi_next {ars : List Arr} {seen ss : List Int} (hin : ∀ a ∈ ars, 0 ≤ a.t ∧ a.t < (256 : Nat)) {k : Nat} {l : List Int} (h : WI ars seen ss k l) (hk : k < l.length) : WI ars seen ss (k + 1) (wRow ars seen (l[k]?.getD 0) l) := by
  have hy : l[k]? = some l[k] := List.getElem?_eq_getElem hk
  rw [hy, Option.getD_some]
  obtain ⟨t, ht⟩ := wRow_pre seen l[k] ars l
  refine ⟨wRow_wb hin h.wb, fun x hx => ?_, fun i hi y hy' a ha hf => ?_⟩
  · rcases wRow_in hx with hx | ⟨a, ha, h1, h2, rfl⟩
    · exact h.rch x hx
    · exact rch_step (fr := (·.f)) (to := (·.t)) ((mem_unseen _ _ _).2 ⟨ha, h2⟩) (by rw [h1]; exact h.rch _ (List.getElem_mem _))
  · have hl : i < l.length := by omega
    rw [ht, List.getElem?_append_left hl] at hy'
    by_cases hik : i = k
    · subst hik
      rw [hy] at hy'
      have hy' := Option.some.inj hy'
      obtain ⟨h1, h2⟩ := (mem_unseen _ _ _).1 ha
      exact wRow_has h1 (by rw [hf, hy']) h2
    · rw [ht]
      exact List.mem_append_left _ (h.cl i (by omega) y hy' a ha hf)
theorem wi_go {ars : List Arr} {seen ss : List Int} (hin : ∀ a ∈ ars, 0 ≤ a.t ∧ a.t < (256 : Nat)) : ∀ (f k : Nat) (l : List Int), WI ars seen ss k l → ss.length + 256 ≤ f + k → k ≤ l.length → WI ars seen ss (wGo ars seen f k l).length (wGo ars seen f k l)
  | 0, k, l, h, hf, hk => by
    have := h.wb.len
    have e : k = l.length := by omega
    show WI ars seen ss l.length l
    rw [← e]; exact h
  | f + 1, k, l, h, hf, hk => by
    rw [wGo]
    split
    · rename_i hlt
      refine wi_go hin f (k + 1) _ (wi_next hin h hlt) (by omega) ?_
      obtain ⟨t, ht⟩ := wRow_pre seen (l[k]?.getD 0) ars l
      rw [ht, List.length_append]; omega
    · rename_i hlt
      have e : k = l.length := by omega
      rw [← e]; exact h
theorem mem_wide {ars : List Arr} {seen ss : List Int} (hin : ∀ a ∈ ars, 0 ≤ a.t ∧ a.t < (256 : Nat)) (x : Int) : x ∈ wideL ars seen ss ↔ Rch (·.f) (·.t) (unseenA ars seen) ss x := by
  have h := wi_go hin (ss.length + 256) 0 ss ⟨WB.refl _, fun x hx => rch_start hx, fun i hi => by omega⟩ (by omega) (by omega) (seen := seen)
  unfold wideL
  rw [mem_srt]
  constructor
  · exact h.rch x
  · intro hx
    refine hx (· ∈ wGo ars seen (ss.length + 256) 0 ss) ⟨fun y hy => ?_, fun a ha hf => ?_⟩
    · obtain ⟨t, ht, -⟩ := h.wb
      rw [ht]; exact List.mem_append_left _ hy
    · obtain ⟨i, hi⟩ := List.getElem?_of_mem hf
      exact h.cl i (List.getElem?_eq_some_iff.1 hi).1 _ hi a ha rfl
theorem wide_sub {ars : List Arr} {seen ss : List Int} (hin : ∀ a ∈ ars, 0 ≤ a.t ∧ a.t < (256 : Nat)) : ∀ x ∈ ss, x ∈ wideL ars seen ss := fun x hx => (mem_wide hin x).2 (rch_start hx)
end Go.Proofs.YtkodmnooibpflaaDoor
namespace Go.Proofs.YtkodmnooibpflaaDoor
open Go.RowKit
set_option linter.unusedVariables false

theorem may_to {m : Mach} (hm : mayB m = true) : ∀ a ∈ m.arrows, 0 ≤ a.t ∧ a.t < (256 : Nat) := fun a ha => by
  have h1 := may_arrs hm a ha
  have h2 := mayB_size hm
  unfold sizeOk at h2
  exact ⟨h1.2.2.1, by have := h1.2.2.2.1; omega⟩
/-! What is seen of a word that is accepted is accepted. -/
end Go.Proofs.YtkodmnooibpflaaDoor
namespace Go.Proofs.YtkodmnooibpflaaDoor
open Go.RowKit
set_option linter.unusedVariables false

/-- The states that what can't be forbidden comes to, from one, as the reference finds them. -/
def ctlGo (ars : List Arr) (free : List Int) (s : Int) : List Int := wGo ars free 257 0 [s]
theorem mem_ctlGo {ars : List Arr} {free : List Int} (s x : Int) : x ∈ ctlGo ars free s ↔ x ∈ wideL ars free [s] := by
  unfold wideL ctlGo
  rw [mem_srt]; rfl
/-- Is none of a list bad? -/
def noneB (bad l : List Int) : Bool := decide ((l.filter fun n => hasB bad n == true).length = 0)
theorem noneB_iff (bad l : List Int) : noneB bad l = true ↔ ∀ x ∈ l, x ∉ bad := by
  unfold noneB
  rw [decide_eq_true_eq, List.length_eq_zero_iff, List.filter_eq_nil_iff]
  refine forall_congr' fun x => imp_congr_right fun _ => ?_
  unfold hasB; simp
/-- What to keep to (N2). -/
def keepL (m : Mach) (free bad : List Int) : List Int := (rngI m.st.toNat).filter fun s => noneB bad (ctlGo m.arrows free s)
/-- Is a row safe (N1)? -/
def arrOk (free l : List Int) (a : Arr) : Bool := !(hasB l a.f && (!hasB free a.e && !hasB l a.t))
def safeB (m : Mach) (free bad l : List Int) : Bool := (l.all fun x => !hasB bad x) && m.arrows.all (arrOk free l)
theorem safeB_iff (m : Mach) (free bad l : List Int) : safeB m free bad l = true ↔ (∀ x ∈ l, x ∉ bad) ∧ ∀ a ∈ m.arrows, a.f ∈ l → a.e ∉ free → a.t ∈ l := by
  unfold safeB
  rw [Bool.and_eq_true, List.all_eq_true, List.all_eq_true]
  refine and_congr ?_ ?_
  · refine forall_congr' fun x => imp_congr_right fun _ => ?_
    unfold hasB; simp
  · refine forall_congr' fun a => imp_congr_right fun _ => ?_
    unfold arrOk hasB
    simp only [Bool.not_and, Bool.or_eq_true, Bool.not_eq_true', Bool.not_not, List.contains_eq_mem, decide_eq_true_eq, decide_eq_false_iff_not]
    by_cases h1 : a.f ∈ l <;> by_cases h2 : a.e ∈ free <;> by_cases h3 : a.t ∈ l <;> simp [h1, h2, h3]
theorem mem_keep {m : Mach} (free bad : List Int) (s : Int) : s ∈ keepL m free bad ↔ (0 ≤ s ∧ s < (m.st.toNat : Int)) ∧ ∀ x ∈ wideL m.arrows free [s], x ∉ bad := by
  unfold keepL
  rw [List.mem_filter, noneB_iff]
  refine and_congr ?_ (forall_congr' fun x => by rw [mem_ctlGo])
  unfold rngI
  rw [List.mem_map]
  constructor
  · rintro ⟨k, hk, rfl⟩
    have := List.mem_range.1 hk
    omega
  · rintro ⟨h0, h1⟩
    exact ⟨s.toNat, List.mem_range.2 (by omega), by omega⟩
theorem inc_keep (m : Mach) (free bad : List Int) : Inc (keepL m free bad) := by
  unfold keepL rngI Inc
  refine List.Pairwise.filter _ ?_
  rw [List.pairwise_map]
  exact List.Pairwise.imp (fun h => by omega) List.pairwise_lt_range
theorem keep_bd {m : Mach} (hm : mayB m = true) (free bad : List Int) : ∀ x ∈ keepL m free bad, 0 ≤ x ∧ x < m.st := fun x hx => by
  have hz := mayB_size hm
  unfold sizeOk at hz
  have := ((mem_keep free bad x).1 hx).1
  omega
theorem keep_row {m : Mach} (hm : mayB m = true) (free bad : List Int) : rowB m.st (keepL m free bad) = true := by
  have hz := mayB_size hm
  unfold sizeOk at hz
  exact (rowB_iff _ (by omega) _).2 ⟨inc_keep m free bad, keep_bd hm free bad⟩
/-- What to keep to is safe. -/
theorem keep_safe {m : Mach} (hm : mayB m = true) (free bad : List Int) : safeB m free bad (keepL m free bad) = true := by
  have hz := mayB_size hm
  unfold sizeOk at hz
  refine (safeB_iff _ _ _ _).2 ⟨fun x hx => ((mem_keep _ _ _).1 hx).2 x (wide_sub (may_to hm) _ (by simp)), fun a ha hf he => ?_⟩
  have hin := may_arrs hm a ha
  refine (mem_keep _ _ _).2 ⟨⟨hin.2.2.1, by have := hin.2.2.2.1; omega⟩, fun x hx => ?_⟩
  refine ((mem_keep _ _ _).1 hf).2 x ?_
  rw [mem_wide (may_to hm)] at hx ⊢
  refine hx _ ⟨fun y hy => ?_, fun b hb h => rch_step (fr := (·.f)) (to := (·.t)) hb h⟩
  have : y = a.t := by simpa using hy
  subst this
  exact rch_step (fr := (·.f)) (to := (·.t)) ((mem_unseen _ _ _).2 ⟨ha, by unfold hasB; simpa using he⟩) (rch_start (by simp))
/-- A safe row is part of it. -/
theorem keep_most {m : Mach} (hm : mayB m = true) {free bad l : List Int} (hl : ∀ x ∈ l, 0 ≤ x ∧ x < m.st) (hs : safeB m free bad l = true) : ∀ x ∈ l, x ∈ keepL m free bad := fun s hx => by
  have hz := mayB_size hm
  unfold sizeOk at hz
  obtain ⟨h1, h2⟩ := (safeB_iff _ _ _ _).1 hs
  have hb := hl s hx
  refine (mem_keep _ _ _).2 ⟨⟨hb.1, by omega⟩, fun x hw => ?_⟩
  refine h1 x ?_
  rw [mem_wide (may_to hm)] at hw
  refine hw (· ∈ l) ⟨fun y hy => ?_, fun a ha h => ?_⟩
  · have : y = s := by simpa using hy
    subst this; exact hx
  · obtain ⟨ha1, ha2⟩ := (mem_unseen _ _ _).1 ha
    exact h2 a ha1 h (by unfold hasB at ha2; simpa using ha2)
/-- A safe row that has all of it is it (for the program's own way). -/
theorem keep_is {m : Mach} (hm : mayB m = true) {free bad l : List Int} (hi : Inc l) (hl : ∀ x ∈ l, 0 ≤ x ∧ x < m.st) (hs : safeB m free bad l = true) (hk : ∀ x ∈ keepL m free bad, x ∈ l) : l = keepL m free bad :=
  inc_ext hi (inc_keep m free bad) fun x => ⟨fun h => keep_most hm hl hs x h, hk x⟩
theorem keep_bad {m : Mach} (hm : mayB m = true) {free bad : List Int} {x : Int} (h : x ∈ bad) : x ∉ keepL m free bad := fun hk => ((safeB_iff _ _ _ _).1 (keep_safe hm free bad)).1 x hk h
/-- What Keep answers. -/
def ctlOut (m : Mach) (free bad : List Int) : List Int × Int := if (mayB m && (rowB m.ev free && rowB m.st bad)) = true then (keepL m free bad, 0) else ([], 2)
theorem ctlOut_bad {m : Mach} {free bad : List Int} (h : (mayB m && (rowB m.ev free && rowB m.st bad)) = false) : ctlOut m free bad = ([], 2) := by unfold ctlOut; rw [if_neg (by rw [h]; simp)]
theorem ctlOut_ok {m : Mach} {free bad : List Int} (h : (mayB m && (rowB m.ev free && rowB m.st bad)) = true) : ctlOut m free bad = (keepL m free bad, 0) := by unfold ctlOut; rw [if_pos h]

end Go.Proofs.YtkodmnooibpflaaDoor
