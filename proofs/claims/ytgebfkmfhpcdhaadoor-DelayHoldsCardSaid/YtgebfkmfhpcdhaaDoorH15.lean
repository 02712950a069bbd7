/-
  A region that draws its order of evaluation, within a round of a range over a function.
  What is said of a machine's block, and of slices that lie elsewhere.
  A machine's block that is written whole; results with a machine.
  Plain: states, and where unseen events lead to from them, as the reference finds them. No program, no model.
  Plain: what unseen events come to, and the machine of what is seen. No program, no model.
  Plain: the machine of what is seen: it may be, and it accepts what is seen of the words that are accepted. No program, no model.
  The walk of jalousieref5.Wide: states, and where unseen events lead to from them.
-/
import Derived.OrdersIn
import Derived.Deep.RegionHeld3
import Derived.RangeFuncNested
import Derived.Test.YtgebfkmfhpcdhaaDoorDSpread
import Derived.Laws.ResultCell
import Derived.Test.YtgebfkmfhpcdhaaDoorH04
import Derived.Test.YtgebfkmfhpcdhaaDoorH05
import Derived.Test.YtgebfkmfhpcdhaaDoorH13
import Derived.Test.YtgebfkmfhpcdhaaDoorH03
import Derived.Deep.QuietTactic
import Derived.Deep.RegionWith
import Derived.BigQuiet
namespace Go.Proofs.YtgebfkmfhpcdhaaDoor
open Go.RowKit
set_option linter.unusedVariables false

section
variable {P : Program} {ops : Array Oper} {Q : Exit → Act → World → Prop} {md : Region.Mode} {l n : Nat}
theorem rowsIn_round {row : String} {args : Array Value} {w : World} {R : Value → World → Prop} (h : Rows P row args w R) : RowsIn (Fence.wide.inRound l) n P row args w R :=
  fun c cs _ => let ⟨v, w', r, s⟩ := h c cs; ⟨v, w', r, stepsIn_wide.2 s⟩
theorem operIn_round {o : Oper} (hd : ∀ c, o.op ≠ .defer c) {a : Act} {w : World} {K : Act → World → Prop} (h : o.wp P a w K Q) : o.wpIn (Fence.wide.inRound l) n P a w K Q := by
  refine ⟨fun f _ => trivial, ?_⟩
  rw [show (Fence.wide.inRound l).round = some l from rfl, Oper.semAt_some l _ _ hd]
  unfold Oper.wp at h
  generalize (execOp a.eval o).run P w = r at h
  cases r with
  | ok x w' =>
    cases x <;> simp only [Oper.upon, Oper.uponIn] at h ⊢ <;> first
      | exact h
      | exact ⟨fun hd => absurd hd (by simp [Fence.wide, Fence.inRound]), CallsIn.inRound l (callsIn_wide.2 h)⟩
      | exact ⟨fun hd => absurd hd (by simp [Fence.wide, Fence.inRound]), rowsIn_round h⟩
  | halt x w' =>
    cases x <;> simp only [Oper.upon, Oper.uponIn] at h ⊢ <;> exact h
theorem wpAnyIn_round (hd : ∀ (i : Nat) (o : Oper), ops[i]? = some o → ∀ c, o.op ≠ .defer c) (hQ : ¬ LetsOut Q) : ∀ (fuel : Nat) (listed : Array Bool) (a : Act) (w : World), wpAny P md ops Q fuel listed a w → wpAnyIn (Fence.wide.inRound l) n P md ops Q fuel listed a w := by
  intro fuel
  induction fuel with
  | zero => intro listed a w h; exact h
  | succ fuel ih =>
    intro listed a w h
    refine ⟨h.1, fun i hi => ?_⟩
    have h2 := h.2 i hi
    unfold wpOp at h2
    unfold wpOpIn
    cases ho : ops[i]? with
    | none => rw [ho] at h2; exact ih _ _ _ h2
    | some o =>
      rw [ho] at h2
      dsimp only at h2 ⊢
      split
      · rename_i hw
        rw [if_pos hw] at h2
        rcases h2 with h2 | ⟨-, h2⟩
        · exact Oper.wpIn_mono (fun a w h => ih _ a w h) (operIn_round (hd i o ho) h2)
        · exact absurd h2 hQ
      · rename_i hw
        rw [if_neg hw] at h2
        exact ⟨fun f _ => trivial, ih _ _ _ h2⟩
/-- No operation of it defers. -/
def noDefer (ops : Array Oper) : Bool := ops.toList.all fun o => match o.op with
  | .defer _ => false
  | _ => true
theorem noDefer_spec (h : noDefer ops = true) : ∀ (i : Nat) (o : Oper), ops[i]? = some o → ∀ c, o.op ≠ .defer c := fun i o hi c hc => by
  unfold noDefer at h
  rw [List.all_eq_true] at h
  have := h o (by rw [Array.mem_toList_iff]; exact Array.mem_of_getElem? hi)
  rw [hc] at this; cases this
/-- Its walk is that of the region outside of rounds. -/
theorem wpIn_region_round {S : World → Prop} {id : Nat} {a : Act} {w : World} (hm : P.follows .mixedOrders = true) (hd : ∀ (i : Nat) (o : Oper), ops[i]? = some o → ∀ c, o.op ≠ .defer c) (hQ : ¬ LetsOut Q) (hS : S w.drew)
    (h : S w.drew → wpAnyH P .any ops Q S ops.size (Array.replicate ops.size false) a w.drew) : (Code.region id ops true).wpIn (Fence.wide.inRound l) n P Q a w :=
  wpIn_region_any hm (wpAnyIn_round hd hQ _ _ _ _ (wpAny_of_held _ _ _ _ (h hS)))
end

end Go.Proofs.YtgebfkmfhpcdhaaDoor
namespace Go.Proofs.YtgebfkmfhpcdhaaDoor
open Go.RowKit
set_option linter.unusedVariables false

abbrev zcells : Array Value := #[.int .i64 0, .int .i64 0, .slice none 0 0, .slice none 0 0, .slice none 0 0]
theorem mcell_at {W : World} {b : Nat} {m : Mach} {l : ML} (h : Blk W b 25 (mcells m l)) : W.cell? ⟨b, 0, none⟩ = some (.int .i64 m.st) ∧ W.cell? ⟨b, 1, none⟩ = some (.int .i64 m.ev) ∧ W.cell? ⟨b, 2, none⟩ = some (.slice l.a1 m.starts.length l.c1) ∧ W.cell? ⟨b, 3, none⟩ = some (.slice l.a2 m.arrows.length l.c2) ∧ W.cell? ⟨b, 4, none⟩ = some (.slice l.a3 m.ends.length l.c3) :=
  ⟨h.cell 0 rfl, h.cell 1 rfl, h.cell 2 rfl, h.cell 3 rfl, h.cell 4 rfl⟩

end Go.Proofs.YtgebfkmfhpcdhaaDoor
namespace Go.Proofs.YtgebfkmfhpcdhaaDoor
open Go.RowKit
set_option linter.unusedVariables false

theorem Blk.set5 {W : World} {b : Nat} {t : TypeId} (h : Blk W b t zcells) (v0 v1 v2 v3 v4 : Value) : Blk (((((W.setCell ⟨b, 0, none⟩ v0).setCell ⟨b, 1, none⟩ v1).setCell ⟨b, 2, none⟩ v2).setCell ⟨b, 3, none⟩ v3).setCell ⟨b, 4, none⟩ v4) b t #[v0, v1, v2, v3, v4] :=
  ((((h.set 0 v0).set 1 v1).set 2 v2).set 3 v3).set 4 v4
theorem below_set5 {W V : World} {B b' : Nat} (h : Below B V W) (hb : B ≤ b') (v0 v1 v2 v3 v4 : Value) : Below B V (((((W.setCell ⟨b', 0, none⟩ v0).setCell ⟨b', 1, none⟩ v1).setCell ⟨b', 2, none⟩ v2).setCell ⟨b', 3, none⟩ v3).setCell ⟨b', 4, none⟩ v4) :=
  ((((h.setCell (p := ⟨b', 0, none⟩) hb v0).setCell (p := ⟨b', 1, none⟩) hb v1).setCell (p := ⟨b', 2, none⟩) hb v2).setCell (p := ⟨b', 3, none⟩) hb v3).setCell (p := ⟨b', 4, none⟩) hb v4
end Go.Proofs.YtgebfkmfhpcdhaaDoor
namespace Go.Proofs.YtgebfkmfhpcdhaaDoor
open Go.RowKit
set_option linter.unusedVariables false

/-- What is seen of a word. -/
def seenL (seen word : List Int) : List Int := word.filter fun n => hasB seen n == true

/-- One arrow more. -/
def wAdd (seen : List Int) (x : Int) (l : List Int) (a : Arr) : List Int := if (decide (a.f = x) && (!hasB seen a.e && !hasB l a.t)) = true then l ++ [a.t] else l
def wRow (ars : List Arr) (seen : List Int) (x : Int) (l : List Int) : List Int := ars.foldl (wAdd seen x) l
def wGo (ars : List Arr) (seen : List Int) : Nat → Nat → List Int → List Int
  | 0, _, l => l
  | f + 1, k, l => if k < l.length then wGo ars seen f (k + 1) (wRow ars seen (l[k]?.getD 0) l) else l
def wideL (ars : List Arr) (seen ss : List Int) : List Int := srt (wGo ars seen (ss.length + 256) 0 ss)

/-- How a list has grown. -/
def WB (ss l : List Int) : Prop := ∃ t, l = ss ++ t ∧ t.Nodup ∧ ∀ x ∈ t, 0 ≤ x ∧ x < (256 : Nat)
theorem WB.refl (ss : List Int) : WB ss ss := ⟨[], by simp, by simp, by simp⟩
theorem WB.len {ss l : List Int} (h : WB ss l) : l.length ≤ ss.length + 256 := by
  obtain ⟨t, rfl, h1, h2⟩ := h
  have := nodup_len 256 t h1 h2
  rw [List.length_append]; omega
theorem WB.add {ss l : List Int} (h : WB ss l) {seen : List Int} {x : Int} {a : Arr} (ha : 0 ≤ a.t ∧ a.t < (256 : Nat)) : WB ss (wAdd seen x l a) := by
  unfold wAdd
  split
  · rename_i hc
    obtain ⟨t, rfl, h1, h2⟩ := h
    have hn : a.t ∉ ss ++ t := by
      intro hm
      rw [(hasB_iff _ _).2 hm] at hc
      simp at hc
    refine ⟨t ++ [a.t], by rw [List.append_assoc], ?_, ?_⟩
    · rw [List.nodup_append]
      exact ⟨h1, by simp, fun y hy z hz e => by simp at hz; subst hz; subst e; exact hn (by simp [hy])⟩
    · intro y hy
      rcases List.mem_append.1 hy with hy | hy
      · exact h2 y hy
      · have : y = a.t := by simpa using hy
        rw [this]; exact ha
  · exact h
theorem wAdd_pre (seen : List Int) (x : Int) (l : List Int) (a : Arr) : ∃ t, wAdd seen x l a = l ++ t := by
  unfold wAdd; split
  · exact ⟨_, rfl⟩
  · exact ⟨[], by simp⟩
theorem wRow_pre (seen : List Int) (x : Int) : ∀ (ars : List Arr) (l : List Int), ∃ t, wRow ars seen x l = l ++ t
  | [], l => ⟨[], by simp [wRow]⟩
  | a :: r, l => by
    obtain ⟨t, h⟩ := wAdd_pre seen x l a
    obtain ⟨u, h'⟩ := wRow_pre seen x r (wAdd seen x l a)
    exact ⟨t ++ u, by show wRow r seen x (wAdd seen x l a) = _; rw [h', h, List.append_assoc]⟩
theorem wRow_take {ars : List Arr} {seen : List Int} {x : Int} {l : List Int} {j : Nat} {a : Arr} (h : j < ars.length) (ha : Hid (a = ars[j]?.getD arr0)) : wRow (ars.take (j + 1)) seen x l = wAdd seen x (wRow (ars.take j) seen x l) a := by
  have ha := ha.out
  rw [List.getElem?_eq_getElem h, Option.getD_some] at ha
  unfold wRow
  rw [List.take_add_one, List.getElem?_eq_getElem h, List.foldl_append, ← ha]; rfl
theorem wRow_nth {ars : List Arr} {seen : List Int} {x : Int} {l : List Int} {k : Nat} (h : k < l.length) : k < (wRow ars seen x l).length ∧ (wRow ars seen x l)[k]?.getD 0 = l[k]?.getD 0 := by
  obtain ⟨t, e⟩ := wRow_pre seen x ars l
  rw [e, List.getElem?_append_left h, List.length_append]
  exact ⟨by omega, rfl⟩
theorem wGo_next {ars : List Arr} {seen : List Int} {f k : Nat} {l : List Int} (hk : k < l.length) (hf : 0 < f) : wGo ars seen f k l = wGo ars seen (f - 1) (k + 1) (wRow ars seen (l[k]?.getD 0) l) := by
  obtain ⟨g, rfl⟩ : ∃ g, f = g + 1 := ⟨f - 1, by omega⟩
  rw [wGo, if_pos hk]; rfl
theorem wGo_end {ars : List Arr} {seen : List Int} {f k : Nat} {l : List Int} (hk : ¬ k < l.length) : wGo ars seen f k l = l := by
  cases f with
  | zero => rfl
  | succ g => rw [wGo, if_neg hk]
theorem wGo_none (seen : List Int) : ∀ (f k : Nat) (l : List Int), wGo [] seen f k l = l
  | 0, _, _ => rfl
  | f + 1, k, l => by
    rw [wGo]
    split
    · exact wGo_none seen f (k + 1) l
    · rfl
theorem wide_none (seen ss : List Int) : wideL [] seen ss = srt ss := by unfold wideL; rw [wGo_none]

end Go.Proofs.YtgebfkmfhpcdhaaDoor
namespace Go.Proofs.YtgebfkmfhpcdhaaDoor
open Go.RowKit
set_option linter.unusedVariables false

/-- The arrows that are not seen. -/
def unseenA (ars : List Arr) (seen : List Int) : List Arr := ars.filter fun a => !hasB seen a.e
theorem mem_unseen (ars : List Arr) (seen : List Int) (a : Arr) : a ∈ unseenA ars seen ↔ a ∈ ars ∧ hasB seen a.e = false := by
  unfold unseenA; rw [List.mem_filter]; simp
theorem wAdd_in {seen : List Int} {y x : Int} {l : List Int} {a : Arr} (h : x ∈ wAdd seen y l a) : x ∈ l ∨ (a.f = y ∧ hasB seen a.e = false ∧ x = a.t) := by
  unfold wAdd at h
  split at h
  · rename_i hc
    simp only [Bool.and_eq_true, decide_eq_true_eq, Bool.not_eq_true'] at hc
    rcases List.mem_append.1 h with h | h
    · exact .inl h
    · exact .inr ⟨hc.1, hc.2.1, by simpa using h⟩
  · exact .inl h
theorem wAdd_has {seen : List Int} {y : Int} {l : List Int} {a : Arr} (h1 : a.f = y) (h2 : hasB seen a.e = false) : a.t ∈ wAdd seen y l a := by
  unfold wAdd
  split
  · simp
  · rename_i hc
    cases h3 : hasB l a.t with
    | true => exact (hasB_iff _ _).1 h3
    | false => exact absurd (by simp [h1, h2, h3]) hc
theorem wRow_in {seen : List Int} {y x : Int} : ∀ {ars : List Arr} {l : List Int}, x ∈ wRow ars seen y l → x ∈ l ∨ ∃ a ∈ ars, a.f = y ∧ hasB seen a.e = false ∧ x = a.t
  | [], l, h => .inl h
  | a :: r, l, h => by
    rcases wRow_in (ars := r) (l := wAdd seen y l a) h with h | ⟨c, hc, h'⟩
    · rcases wAdd_in h with h | h
      · exact .inl h
      · exact .inr ⟨a, by simp, h⟩
    · exact .inr ⟨c, by simp [hc], h'⟩
theorem wRow_has {seen : List Int} {y : Int} : ∀ {ars : List Arr} {l : List Int} {a : Arr}, a ∈ ars → a.f = y → hasB seen a.e = false → a.t ∈ wRow ars seen y l
  | [], _, a, h, _, _ => by simp at h
  | c :: r, l, a, h, h1, h2 => by
    rcases List.mem_cons.1 h with rfl | h
    · obtain ⟨t, e⟩ := wRow_pre seen y r (wAdd seen y l a)
      show a.t ∈ wRow r seen y (wAdd seen y l a)
      rw [e]
      exact List.mem_append_left _ (wAdd_has h1 h2)
    · exact wRow_has (ars := r) h h1 h2
theorem wRow_wb {ss : List Int} {seen : List Int} {y : Int} : ∀ {ars : List Arr} {l : List Int}, (∀ a ∈ ars, 0 ≤ a.t ∧ a.t < (256 : Nat)) → WB ss l → WB ss (wRow ars seen y l)
  | [], _, _, h => h
  | a :: r, l, hin, h => wRow_wb (ars := r) (fun c hc => hin c (by simp [hc])) (h.add (hin a (by simp)))
/-- What is known when the first k have been gone on from. -/
structure WI (ars : List Arr) (seen ss : List Int) (k : Nat) (l : List Int) : Prop where
  wb : WB ss l
  rch : ∀ x ∈ l, Rch (·.f) (·.t) (unseenA ars seen) ss x
  cl : ∀ i, i < k → ∀ y, l[i]? = some y → ∀ a ∈ unseenA ars seen, a.f = y → a.t ∈ l
theorem wi_next {ars : List Arr} {seen ss : List Int} (hin : ∀ a ∈ ars, 0 ≤ a.t ∧ a.t < (256 : Nat)) {k : Nat} {l : List Int} (h : WI ars seen ss k l) (hk : k < l.length) : WI ars seen ss (k + 1) (wRow ars seen (l[k]?.getD 0) l) := by
  have hy : l[k]? = some l[k] := List.getElem?_eq_getElem hk
  rw [hy, Option.getD_some]
  obtain ⟨t, ht⟩ := wRow_pre seen l[k] ars l
  refine ⟨wRow_wb hin h.wb, fun x hx => ?_, fun i hi y hy' a ha hf => ?_⟩
  · rcases wRow_in hx with hx | ⟨a, ha, h1, h2, rfl⟩
    · exact h.rch x hx
    · exact rch_step (fr := (·.f)) (to := (·.t)) ((mem_unseen _ _ _).2 ⟨ha, h2⟩) (by rw [h1]; exact h.rch _ (List.getElem_mem _))
  · have hl : i < l.length := by omega
    rw [ht, List.getElem?_append_left hl] at hy'
    by_cases hik : i = k
    · subst hik
      rw [hy] at hy'
      have hy' := Option.some.inj hy'
      obtain ⟨h1, h2⟩ := (mem_unseen _ _ _).1 ha
      exact wRow_has h1 (by rw [hf, hy']) h2
    · rw [ht]
      exact List.mem_append_left _ (h.cl i (by omega) y hy' a ha hf)
theorem wi_go {ars : List Arr} {seen ss : List Int} (hin : ∀ a ∈ ars, 0 ≤ a.t ∧ a.t < (256 : Nat)) : ∀ (f k : Nat) (l : List Int), WI ars seen ss k l → ss.length + 256 ≤ f + k → k ≤ l.length → WI ars seen ss (wGo ars seen f k l).length (wGo ars seen f k l)
  | 0, k, l, h, hf, hk => by
    have := h.wb.len
    have e : k = l.length := by omega
    show WI ars seen ss l.length l
    rw [← e]; exact h
  | f + 1, k, l, h, hf, hk => by
    rw [wGo]
    split
    · rename_i hlt
      refine wi_go hin f (k + 1) _ (wi_next hin h hlt) (by omega) ?_
      obtain ⟨t, ht⟩ := wRow_pre seen (l[k]?.getD 0) ars l
      rw [ht, List.length_append]; omega
    · rename_i hlt
      have e : k = l.length := by omega
      rw [← e]; exact h
theorem mem_wide {ars : List Arr} {seen ss : List Int} (hin : ∀ a ∈ ars, 0 ≤ a.t ∧ a.t < (256 : Nat)) (x : Int) : x ∈ wideL ars seen ss ↔ Rch (·.f) (·.t) (unseenA ars seen) ss x := by
  have h := wi_go hin (ss.length + 256) 0 ss ⟨WB.refl _, fun x hx => rch_start hx, fun i hi => by omega⟩ (by omega) (by omega) (seen := seen)
  unfold wideL
  rw [mem_srt]
  constructor
  · exact h.rch x
  · intro hx
    refine hx (· ∈ wGo ars seen (ss.length + 256) 0 ss) ⟨fun y hy => ?_, fun a ha hf => ?_⟩
    · obtain ⟨t, ht, -⟩ := h.wb
      rw [ht]; exact List.mem_append_left _ hy
    · obtain ⟨i, hi⟩ := List.getElem?_of_mem hf
      exact h.cl i (List.getElem?_eq_some_iff.1 hi).1 _ hi a ha rfl
theorem wide_sub {ars : List Arr} {seen ss : List Int} (hin : ∀ a ∈ ars, 0 ≤ a.t ∧ a.t < (256 : Nat)) : ∀ x ∈ ss, x ∈ wideL ars seen ss := fun x hx => (mem_wide hin x).2 (rch_start hx)
theorem wide_cl {ars : List Arr} {seen ss : List Int} (hin : ∀ a ∈ ars, 0 ≤ a.t ∧ a.t < (256 : Nat)) {a : Arr} (ha : a ∈ ars) (hu : hasB seen a.e = false) (h : a.f ∈ wideL ars seen ss) : a.t ∈ wideL ars seen ss :=
  (mem_wide hin _).2 (rch_step (fr := (·.f)) (to := (·.t)) ((mem_unseen _ _ _).2 ⟨ha, hu⟩) ((mem_wide hin _).1 h))

end Go.Proofs.YtgebfkmfhpcdhaaDoor
namespace Go.Proofs.YtgebfkmfhpcdhaaDoor
open Go.RowKit
set_option linter.unusedVariables false

theorem may_to {m : Mach} (hm : mayB m = true) : ∀ a ∈ m.arrows, 0 ≤ a.t ∧ a.t < (256 : Nat) := fun a ha => by
  have h1 := may_arrs hm a ha
  have h2 := mayB_size hm
  unfold sizeOk at h2
  exact ⟨h1.2.2.1, by have := h1.2.2.2.1; omega⟩
theorem row_short {n : Int} {l : List Int} (hn : n ≤ 2147483648) (h0 : 0 ≤ n) (h : rowB n l = true) : (l.length : Int) ≤ n := by
  obtain ⟨h1, h2⟩ := (rowB_iff n hn l).1 h
  have := nodup_len n.toNat l (inc_nodup h1) (fun x hx => by have := h2 x hx; omega)
  omega
/-! What is seen of a word that is accepted is accepted. -/
end Go.Proofs.YtgebfkmfhpcdhaaDoor
namespace Go.Proofs.YtgebfkmfhpcdhaaDoor
open Go.RowKit
set_option linter.unusedVariables false

set_option maxHeartbeats 4000000 in
set_option maxRecDepth 100000 in
theorem refWide_some (st ev : Int) (starts : List Int) (ars : List Arr) (ends : List Int) (a1 : Option Addr) (c1 b off c2 : Nat) (a3 : Option Addr) (c3 : Nat) (sa na : Option Addr) (sc nc : Nat) (ss seen : List Int) (w : World) (hlen : ars.length ≤ 4096) (hb : b < w.heap.size) (hca : CellsA w b off ars) (hin : Hid (∀ a ∈ ars, 0 ≤ a.t ∧ a.t < (256 : Nat))) (hs : At w sa ss) (hsl : ss.length ≤ 4096) (hn : Hid (sa = none → sc = 0)) (hq : Hid (At w na seen)) (hql : Hid (seen.length ≤ maxLen)) :
    Calls Tryd.prog 76 #[mval ⟨st, ev, starts, ars, ends⟩ ⟨a1, c1, some ⟨b, off, none⟩, c2, a3, c3⟩, .slice sa ss.length sc, .slice na seen.length nc] w fun e w' => GivesO w (wideL ars seen ss) e w' := by
  obtain ⟨i0, hi, hz0, hz1, hz2⟩ := info_parts Tryd.infoInt
  have o0 : Own ((w.alloc (.cells (mcells ⟨st, ev, starts, ars, ends⟩ ⟨a1, c1, some ⟨b, off, none⟩, c2, a3, c3⟩) 25)).alloc (.cells #[] 3)) (w.heap.size + 1) (.slice (some ⟨w.heap.size + 1, 0, none⟩) 0 0) [] := by
    have := own_empty (w.alloc (.cells (mcells ⟨st, ev, starts, ars, ends⟩ ⟨a1, c1, some ⟨b, off, none⟩, c2, a3, c3⟩) 25))
    rwa [World.size_alloc] at this
  have b0 : Below w.heap.size w ((w.alloc (.cells (mcells ⟨st, ev, starts, ars, ends⟩ ⟨a1, c1, some ⟨b, off, none⟩, c2, a3, c3⟩) 25)).alloc (.cells #[] 3)) := ((Below.refl _ _).alloc (Nat.le_refl _) _).alloc (by simp) _
  have bb0 : Below (w.heap.size + 1) (w.alloc (.cells (mcells ⟨st, ev, starts, ars, ends⟩ ⟨a1, c1, some ⟨b, off, none⟩, c2, a3, c3⟩) 25)) ((w.alloc (.cells (mcells ⟨st, ev, starts, ars, ends⟩ ⟨a1, c1, some ⟨b, off, none⟩, c2, a3, c3⟩) 25)).alloc (.cells #[] 3)) := (Below.refl _ _).alloc (by simp) _
  have s0 := hs.below b0 (Nat.le_refl _)
  go_enter Tryd.func76, Tryd.ntmps76
  go_wp2_with (at_builtin; refine wpList_append_ints _ rfl _ _ 22 rfl (w.heap.size + 1) i0 Tryd.underlying22 hi hz0 hz1 hz2 _ [] rfl o0 sa sc ss rfl s0 hn.out (by simp only [List.length_nil]; omega) (by simp) ?_)
  intro v0 w0 o1 b1 z1
  have B1 : Hid (Below (w.heap.size + 1) (w.alloc (.cells (mcells ⟨st, ev, starts, ars, ends⟩ ⟨a1, c1, some ⟨b, off, none⟩, c2, a3, c3⟩) 25)) w0) := bb0.trans b1
  have O1 : Hid (Own w0 (w.heap.size + 1) v0 ss) := o1
  clear o0 b0 bb0 s0 o1 b1
  go_wp2
  go_loopw [7, 8] (fun v i wr => ∃ (k : Nat) (L : List Int), k ≤ L.length ∧ i = .int .i64 k ∧ Hid (Own wr (w.heap.size + 1) v L) ∧ Hid (Below (w.heap.size + 1) (w.alloc (.cells (mcells ⟨st, ev, starts, ars, ends⟩ ⟨a1, c1, some ⟨b, off, none⟩, c2, a3, c3⟩) 25)) wr) ∧ Hid (wGo ars seen (ss.length + 256) 0 ss = wGo ars seen (ss.length + 256 - k) k L) ∧ Hid (WB ss L)) (fun _ i _ => ss.length + 256 - (intOf i).toNat)
  case atStart => exact ⟨0, ss, by omega, rfl, O1, B1, rfl, WB.refl _⟩
  case round =>
    clear O1 B1
    obtain ⟨k, L, hk, rfl, hown, hbel, hc, hwb⟩ := hrel
    have hold := Hid.of (below_box hbel.out)
    have hsz := hbel.out.size
    rw [World.size_alloc] at hsz
    have hbx : w.heap.size < wr.heap.size := by omega
    obtain ⟨-, -, -, x3, -⟩ := box_cells hbel.out
    dsimp only at x3
    have hll := hwb.out.len
    obtain ⟨la, lc, rfl, hat, hln⟩ := hown.out.at
    by_cases hks : k < L.length
    · go_wp2
      obtain ⟨x, HX⟩ : ∃ x, Hid (x = L[k]?.getD 0) := ⟨_, rfl⟩
      go_loopw [7, 9] (fun v i wr' => ∃ (j : Nat), j ≤ ars.length ∧ i = .int .i64 j ∧ Hid (Own wr' (w.heap.size + 1) v (wRow (ars.take j) seen x L)) ∧ Hid (Below (w.heap.size + 1) (w.alloc (.cells (mcells ⟨st, ev, starts, ars, ends⟩ ⟨a1, c1, some ⟨b, off, none⟩, c2, a3, c3⟩) 25)) wr') ∧ Hid (WB ss (wRow (ars.take j) seen x L))) (fun _ i _ => ars.length - (intOf i).toNat)
      case atStart => exact ⟨0, Nat.zero_le _, rfl, hown, hbel, hwb⟩
      case round =>
        clear hown hbel hold hat x3 hsz hbx hln hwb
        obtain ⟨j, hj, rfl, hown, hbel, hwb⟩ := hrel
        have hold := Hid.of (below_box hbel.out)
        have hsz := hbel.out.size
        rw [World.size_alloc] at hsz
        have hbx : w.heap.size < wr.heap.size := by omega
        obtain ⟨-, -, -, x3, -⟩ := box_cells hbel.out
        dsimp only at x3
        by_cases hlt : j < ars.length
        · obtain ⟨a, HA, y0, y1, y2⟩ := hca.at hlt
          have y0' := (hold.out.cell (p := ⟨b, off + j * 3, none⟩) hb).trans y0
          have y1' := (hold.out.cell (p := ⟨b, off + j * 3 + 1, none⟩) hb).trans y1
          have y2' := (hold.out.cell (p := ⟨b, off + j * 3 + 2, none⟩) hb).trans y2
          clear y0 y1 y2
          have HN := Hid.of (wRow_take (seen := seen) (x := x) (l := L) hlt HA)
          have HK := Hid.of (wRow_nth (ars := ars.take j) (seen := seen) (x := x) hks)
          obtain ⟨T, hT⟩ : ∃ T, T = wRow (ars.take j) seen x L := ⟨_, rfl⟩
          rw [← hT] at hown hwb HN HK
          clear hT
          have hlT := hwb.out.len
          have hkT := HK.out.1
          have hmem : a ∈ ars := by have := HA.out; rw [List.getElem?_eq_getElem hlt, Option.getD_some] at this; rw [this]; exact List.getElem_mem _
          have hta := Hid.of (hin.out a hmem)
          have HW : Hid (WB ss (wAdd seen x T a)) := hwb.out.add hta.out
          clear hmem
          obtain ⟨la', lc', rfl, hat, hln⟩ := hown.out.at
          rcases hat with h0 | ⟨lb, lo, rfl, hlb, hcl⟩
          · exact absurd (by rw [h0]; rfl) (show ¬ T.length = 0 by omega)
          obtain ⟨x', HX', hcx⟩ := hcl.at hkT
          have hxx : Hid (x' = x) := by show _ = _; rw [HX'.out, HK.out.2, ← HX.out]
          have OV : Hid (Own (wr.alloc (Obj.cells #[.int .i64 a.f, .int .i64 a.e, .int .i64 a.t] 75)) (w.heap.size + 1) (.slice (some ⟨lb, lo, none⟩) T.length lc') T) := World.ownsRow.alloc hown.out _
          have BV : Hid (Below (w.heap.size + 1) (w.alloc (.cells (mcells ⟨st, ev, starts, ars, ends⟩ ⟨a1, c1, some ⟨b, off, none⟩, c2, a3, c3⟩) 25)) (wr.alloc (Obj.cells #[.int .i64 a.f, .int .i64 a.e, .int .i64 a.t] 75))) := hbel.out.alloc (by omega) _
          have B9 : Below w.heap.size w (wr.alloc (Obj.cells #[.int .i64 a.f, .int .i64 a.e, .int .i64 a.t] 75)) := hold.out.alloc (by omega) _
          have KV : Hid (Blk (wr.alloc (Obj.cells #[.int .i64 a.f, .int .i64 a.e, .int .i64 a.t] 75)) wr.heap.size 75 #[.int .i64 a.f, .int .i64 a.e, .int .i64 a.t]) := Blk.new wr _ _
          have cV : (wr.alloc (Obj.cells #[.int .i64 a.f, .int .i64 a.e, .int .i64 a.t] 75)).cell? ⟨lb, lo + k, none⟩ = some (.int .i64 x') := (((Below.refl wr.heap.size wr).alloc (Nat.le_refl _) _).cell (p := ⟨lb, lo + k, none⟩) hlb).trans hcx
          have qV : Hid (At (wr.alloc (Obj.cells #[.int .i64 a.f, .int .i64 a.e, .int .i64 a.t] 75)) na seen) := hq.out.below B9 (Nat.le_refl _)
          have f0 := KV.out.cell 0 rfl
          have f1 := KV.out.cell 1 rfl
          have f2 := KV.out.cell 2 rfl
          go_wp2_with fail
          clear B9 hcx hlb hcl y0' y1' y2' x3 hown hbel hold hsz
          have hVs : Hid (wr.heap.size < (wr.alloc (Obj.cells #[.int .i64 a.f, .int .i64 a.e, .int .i64 a.t] 75)).heap.size) := by show _ < _; rw [World.size_alloc]; omega
          revert OV BV KV cV qV f0 f1 f2 hVs
          generalize wr.alloc (Obj.cells #[.int .i64 a.f, .int .i64 a.e, .int .i64 a.t] 75) = V
          generalize wr.heap.size = N at *
          intro OV BV KV cV qV f0 f1 f2 hVs
          obtain ⟨la2, lc2, e2, aT, lT⟩ := OV.out.at
          cases e2
          have KEY1 : Hid (∀ n, Calls Tryd.prog 53 #[.slice na seen.length nc, .int .i64 a.e] (V.drewN n) fun e w' => e = .returned (.bool (hasB seen a.e)) ∧ w' = V.drewN n) := fun n => refHas_any na nc seen a.e _ (At.drewN qV.out n) hql.out
          have KEY2 : Hid (∀ n, Calls Tryd.prog 53 #[.slice (some ⟨lb, lo, none⟩) T.length lc', .int .i64 a.t] (V.drewN n) fun e w' => e = .returned (.bool (hasB T a.t)) ∧ w' = V.drewN n) := fun n => refHas_any _ lc' T a.t _ (At.drewN aT n) lT
          clear aT lT qV KV
          by_cases d1 : a.f = x'
          · have g1 : (a.f == x') = true := by simp [d1]
            have D1 : Hid (a.f = x) := by show _ = _; rw [d1, hxx.out]
            clear d1
            by_cases d2 : hasB seen a.e = true
            · rw [d2] at KEY1
              have HR : Hid (wAdd seen x T a = T) := by show _ = _; unfold wAdd; rw [if_neg (by rw [d2]; simp)]
              clear d2
              go_quiet (first | (go_at_call_of 53 (Value.slice na seen.length nc); exact Calls.quiet_of_same (KEY1.out _)) | (go_at_call_of 53 (Value.slice (some ⟨lb, lo, none⟩) T.length lc'); exact Calls.quiet_of_same (KEY2.out _)))
              obtain ⟨V2, HV2⟩ : ∃ V2, Hid (V2 = V.drewN nq) := ⟨_, rfl⟩
              have OV2 : Hid (Own V2 (w.heap.size + 1) (.slice (some ⟨lb, lo, none⟩) T.length lc') T) := by show Own _ _ _ _; rw [HV2.out]; exact OV.out
              have BV2 : Hid (Below (w.heap.size + 1) (w.alloc (.cells (mcells ⟨st, ev, starts, ars, ends⟩ ⟨a1, c1, some ⟨b, off, none⟩, c2, a3, c3⟩) 25)) V2) := by show Below _ _ _; rw [HV2.out]; exact below_drewN BV.out nq
              rw [← HV2.out]
              clear OV BV KEY1 KEY2 cV f0 f1 f2
              go_wp2
              go_roundw
              case rel => exact ⟨j + 1, by omega, by go_num, by rw [HN.out, HR.out]; exact OV2, BV2, by rw [HN.out]; exact HW⟩
              case measure => simp [intOf]; omega
            · have d2 : hasB seen a.e = false := by simpa using d2
              rw [d2] at KEY1
              by_cases d3 : hasB T a.t = true
              · rw [d3] at KEY2
                have HR : Hid (wAdd seen x T a = T) := by show _ = _; unfold wAdd; rw [if_neg (by rw [d3]; simp)]
                clear d2 d3
                go_quiet (first | (go_at_call_of 53 (Value.slice na seen.length nc); exact Calls.quiet_of_same (KEY1.out _)) | (go_at_call_of 53 (Value.slice (some ⟨lb, lo, none⟩) T.length lc'); exact Calls.quiet_of_same (KEY2.out _)))
                obtain ⟨V2, HV2⟩ : ∃ V2, Hid (V2 = V.drewN nq) := ⟨_, rfl⟩
                have OV2 : Hid (Own V2 (w.heap.size + 1) (.slice (some ⟨lb, lo, none⟩) T.length lc') T) := by show Own _ _ _ _; rw [HV2.out]; exact OV.out
                have BV2 : Hid (Below (w.heap.size + 1) (w.alloc (.cells (mcells ⟨st, ev, starts, ars, ends⟩ ⟨a1, c1, some ⟨b, off, none⟩, c2, a3, c3⟩) 25)) V2) := by show Below _ _ _; rw [HV2.out]; exact below_drewN BV.out nq
                rw [← HV2.out]
                clear OV BV KEY1 KEY2 cV f0 f1 f2
                go_wp2
                go_roundw
                case rel => exact ⟨j + 1, by omega, by go_num, by rw [HN.out, HR.out]; exact OV2, BV2, by rw [HN.out]; exact HW⟩
                case measure => simp [intOf]; omega
              · have d3 : hasB T a.t = false := by simpa using d3
                rw [d3] at KEY2
                have HR : Hid (wAdd seen x T a = T ++ [a.t]) := by show _ = _; unfold wAdd; rw [if_pos (by rw [D1.out, d2, d3]; simp)]
                clear d2 d3
                go_quiet (first | (go_at_call_of 53 (Value.slice na seen.length nc); exact Calls.quiet_of_same (KEY1.out _)) | (go_at_call_of 53 (Value.slice (some ⟨lb, lo, none⟩) T.length lc'); exact Calls.quiet_of_same (KEY2.out _)))
                obtain ⟨V2, HV2⟩ : ∃ V2, Hid (V2 = V.drewN nq) := ⟨_, rfl⟩
                have OV2 : Hid (Own V2 (w.heap.size + 1) (.slice (some ⟨lb, lo, none⟩) T.length lc') T) := by show Own _ _ _ _; rw [HV2.out]; exact OV.out
                have BV2 : Hid (Below (w.heap.size + 1) (w.alloc (.cells (mcells ⟨st, ev, starts, ars, ends⟩ ⟨a1, c1, some ⟨b, off, none⟩, c2, a3, c3⟩) 25)) V2) := by show Below _ _ _; rw [HV2.out]; exact below_drewN BV.out nq
                have f2' : V2.cell? ⟨N, 2, none⟩ = some (.int .i64 a.t) := by rw [HV2.out]; exact f2
                have hVs2 := BV2.out.size
                rw [World.size_alloc] at hVs2
                rw [← HV2.out]
                clear OV BV KEY1 KEY2 cV f0 f1 f2
                go_wp2_with (at_builtin; refine wpList_append_own _ rfl _ _ 22 rfl (w.heap.size + 1) 3 i0 (.int .i64 0) 1 8 Tryd.underlying22 hi hz0 hz1 hz2 rfl (by decide) _ _ _ rfl (World.ownsRow.alloc OV2.out _) ⟨V2.heap.size, 0, none⟩ 1 1 [.int .i64 a.t] rfl rfl (cell_one_new _ _ _) (by intro u hu; simp at hu; subst hu; rfl) (by unfold maxLen; omega) (by omega) (by simp; omega) ?_)
                intro v' w2 hown' hgrow _
                obtain ⟨r1, r2, -⟩ := own_snoc OV2.out BV2.out (by omega) hown' hgrow
                have R1 := Hid.of r1
                have R2 := Hid.of r2
                clear hown' hgrow r1 r2
                go_wp2
                go_roundw
                case rel => exact ⟨j + 1, by omega, by go_num, by rw [HN.out, HR.out]; exact R1, R2, by rw [HN.out]; exact HW⟩
                case measure => simp [intOf]; omega
          · have g1 : (a.f == x') = false := by simp [d1]
            have HR : Hid (wAdd seen x T a = T) := by show _ = _; unfold wAdd; rw [if_neg (by rw [← hxx.out]; simp [d1])]
            clear d1
            go_quiet (first | (go_at_call_of 53 (Value.slice na seen.length nc); exact Calls.quiet_of_same (KEY1.out _)) | (go_at_call_of 53 (Value.slice (some ⟨lb, lo, none⟩) T.length lc'); exact Calls.quiet_of_same (KEY2.out _)))
            obtain ⟨V2, HV2⟩ : ∃ V2, Hid (V2 = V.drewN nq) := ⟨_, rfl⟩
            have OV2 : Hid (Own V2 (w.heap.size + 1) (.slice (some ⟨lb, lo, none⟩) T.length lc') T) := by show Own _ _ _ _; rw [HV2.out]; exact OV.out
            have BV2 : Hid (Below (w.heap.size + 1) (w.alloc (.cells (mcells ⟨st, ev, starts, ars, ends⟩ ⟨a1, c1, some ⟨b, off, none⟩, c2, a3, c3⟩) 25)) V2) := by show Below _ _ _; rw [HV2.out]; exact below_drewN BV.out nq
            rw [← HV2.out]
            clear OV BV KEY1 KEY2 cV f0 f1 f2
            go_wp2
            go_roundw
            case rel => exact ⟨j + 1, by omega, by go_num, by rw [HN.out, HR.out]; exact OV2, BV2, by rw [HN.out]; exact HW⟩
            case measure => simp [intOf]; omega
        · have htk : ars.take j = ars := List.take_of_length_le (by omega)
          rw [htk] at hown hwb
          clear htk
          obtain ⟨T, hT⟩ : ∃ T, T = wRow ars seen x L := ⟨_, rfl⟩
          have HT := Hid.of hT
          have HK := Hid.of (wRow_nth (ars := ars) (seen := seen) (x := x) hks)
          rw [← hT] at hown hwb HK
          clear hT
          have HC : Hid (wGo ars seen (ss.length + 256) 0 ss = wGo ars seen (ss.length + 256 - (k + 1)) (k + 1) T) := by
            show _ = _
            rw [hc.out, wGo_next hks (by omega), ← HX.out, ← HT.out, Nat.sub_sub]
          have hkT := HK.out.1
          go_wp2
          exact ⟨⟨k + 1, T, by omega, by go_num, hown, hbel, HC, hwb⟩, by simp [intOf]; omega⟩
    · have HC : Hid (wGo ars seen (ss.length + 256) 0 ss = L) := by
        show _ = _
        rw [hc.out, wGo_end hks]
      have HAT := Hid.of hat
      clear hat
      go_wp2_with (go_at_call 103; refine (sorted_own la lc L _ HAT.out (by omega)).mono ?_; rintro e w1 ⟨v4, rfl, h4, b4⟩; have H4 := Hid.of h4; have B4 := Hid.of b4; clear h4 b4)
      go_ret
      exact ⟨v4, rfl, by unfold wideL; rw [HC.out]; exact H4.out.low (by omega), hold.out.trans (B4.out.mono (by omega))⟩

end Go.Proofs.YtgebfkmfhpcdhaaDoor
