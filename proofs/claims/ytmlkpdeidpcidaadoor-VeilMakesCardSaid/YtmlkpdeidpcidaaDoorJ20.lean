/-
  machine.Leader, of whatever machine may be.
  A machine's block that is written whole; results with a machine.
  What is said on the way through reach.part: what lies where.
  Plain: states, and where unseen events lead to from them, as the reference finds them. No program, no model.
  Plain: what unseen events come to, and the machine of what is seen. No program, no model.
  Plain: the machine of what is seen: it may be, and it accepts what is seen of the words that are accepted. No program, no model.
  Plain: safe rows of states, and what to keep to. No program, no model.
-/
import Derived.Test.YtmlkpdeidpcidaaDoorFLead
import Derived.Test.YtmlkpdeidpcidaaDoorJ18
import Derived.Deep.RegionHeld3
import Derived.RangeFuncBox
import Derived.Test.YtmlkpdeidpcidaaDoorJ15
import Derived.Test.YtmlkpdeidpcidaaDoorJ04
import Derived.Test.YtmlkpdeidpcidaaDoorJ03
import Derived.Test.YtmlkpdeidpcidaaDoorJ14
import Derived.Test.YtmlkpdeidpcidaaDoorJ06
namespace Go.Proofs.YtmlkpdeidpcidaaDoor
open Go.RowKit
set_option linter.unusedVariables false

/-- What machine.Leader answers, of what may be. -/
theorem leader_any (m : Mach) (l : ML) (w : World) (hm : mayB m = true) (h : MAt w m l) :
    Calls Tryd.prog 116 #[mval m l] w fun e w' => ∃ L, e = .returned (leadV L) ∧ LD w' L m.ev.toNat (m.st.toNat * m.ev.toNat) (tabS m.ev.toNat m.arrows) ∧ L.all (w.heap.size ≤ ·) ∧ Below w.heap.size w w' := by
  have hz := mayB_size hm
  have ha := arrsFrom_in (mayB_arrs hm)
  obtain ⟨st, ev, starts, arrows, ends⟩ := m
  obtain ⟨z1, z2, z3, z4, z5⟩ := hz
  simp only at z1 z2 z3 z4 z5 ha
  obtain ⟨s, rfl⟩ : ∃ s : Nat, st = (s : Int) := ⟨st.toNat, by omega⟩
  obtain ⟨e, rfl⟩ : ∃ e : Nat, ev = (e : Int) := ⟨ev.toNat, by omega⟩
  obtain ⟨a1, c1, a2, c2, a3, c3⟩ := l
  simp only [Int.toNat_natCast]
  exact leader_go s e starts arrows ends a1 c1 a2 c2 a3 c3 w (Hid.of h) (Hid.of hm) (by omega) (by omega) z5 (Hid.of ha)

theorem LD.other4 {W : World} {L : LB} {b' ev N : Nat} {T : Nat → Nat → Nat} (h : LD W L ev N T) (hn : L.all (· ≠ b')) (v0 v1 v2 v3 : Value) : LD ((((W.setCell ⟨b', 0, none⟩ v0).setCell ⟨b', 1, none⟩ v1).setCell ⟨b', 2, none⟩ v2).setCell ⟨b', 3, none⟩ v3) L ev N T := by
  obtain ⟨cs, c1, c2, c3⟩ := h.tab
  exact ⟨Blk.other4' h.is 0 hn.1 v0 v1 v2 v3, Blk.other4' h.evb 0 hn.2.1 v0 v1 v2 v3, Blk.other4' h.to 0 hn.2.2.1 v0 v1 v2 v3, ⟨cs, Blk.other4' c1 0 hn.2.2.2.1 v0 v1 v2 v3, c2, c3⟩, Blk.other4' h.bd 0 hn.2.2.2.2 v0 v1 v2 v3⟩
end Go.Proofs.YtmlkpdeidpcidaaDoor
namespace Go.Proofs.YtmlkpdeidpcidaaDoor
open Go.RowKit
set_option linter.unusedVariables false

theorem zcell_at {W : World} {b : Nat} {t : TypeId} (h : Blk W b t zcells) : W.cell? ⟨b, 0, none⟩ = some (.int .i64 0) ∧ W.cell? ⟨b, 1, none⟩ = some (.int .i64 0) ∧ W.cell? ⟨b, 2, none⟩ = some (.slice none 0 0) ∧ W.cell? ⟨b, 3, none⟩ = some (.slice none 0 0) ∧ W.cell? ⟨b, 4, none⟩ = some (.slice none 0 0) :=
  ⟨h.cell 0 rfl, h.cell 1 rfl, h.cell 2 rfl, h.cell 3 rfl, h.cell 4 rfl⟩
theorem Blk.set5 {W : World} {b : Nat} {t : TypeId} (h : Blk W b t zcells) (v0 v1 v2 v3 v4 : Value) : Blk (((((W.setCell ⟨b, 0, none⟩ v0).setCell ⟨b, 1, none⟩ v1).setCell ⟨b, 2, none⟩ v2).setCell ⟨b, 3, none⟩ v3).setCell ⟨b, 4, none⟩ v4) b t #[v0, v1, v2, v3, v4] :=
  ((((h.set 0 v0).set 1 v1).set 2 v2).set 3 v3).set 4 v4
theorem below_set5 {W V : World} {B b' : Nat} (h : Below B V W) (hb : B ≤ b') (v0 v1 v2 v3 v4 : Value) : Below B V (((((W.setCell ⟨b', 0, none⟩ v0).setCell ⟨b', 1, none⟩ v1).setCell ⟨b', 2, none⟩ v2).setCell ⟨b', 3, none⟩ v3).setCell ⟨b', 4, none⟩ v4) :=
  ((((h.setCell (p := ⟨b', 0, none⟩) hb v0).setCell (p := ⟨b', 1, none⟩) hb v1).setCell (p := ⟨b', 2, none⟩) hb v2).setCell (p := ⟨b', 3, none⟩) hb v3).setCell (p := ⟨b', 4, none⟩) hb v4
abbrev m0 : Mach := ⟨0, 0, [], [], []⟩
abbrev ml0 : ML := ⟨none, 0, none, 0, none, 0⟩

end Go.Proofs.YtmlkpdeidpcidaaDoor
namespace Go.Proofs.YtmlkpdeidpcidaaDoor
open Go.RowKit
set_option linter.unusedVariables false

/-- A machine's slices lie from block B on. -/
structure FrM (B : Nat) (m : Mach) (l : ML) : Prop where
  s : m.starts = [] ∨ ∃ b off, l.a1 = some ⟨b, off, none⟩ ∧ B ≤ b
  a : m.arrows = [] ∨ ∃ b off, l.a2 = some ⟨b, off, none⟩ ∧ B ≤ b
  e : m.ends = [] ∨ ∃ b off, l.a3 = some ⟨b, off, none⟩ ∧ B ≤ b
theorem At.set {w : World} {a : Option Addr} {xs : List Int} {B b j : Nat} (h : At w a xs) (hf : xs = [] ∨ ∃ b off, a = some ⟨b, off, none⟩ ∧ B ≤ b) (hb : b < B) (v : Value) : At (w.setCell ⟨b, j, none⟩ v) a xs := by
  rcases h with h | ⟨g, off, h1, h2, h3⟩
  · exact .inl h
  · rcases hf with hf | ⟨g', off', h1', h4⟩
    · exact .inl hf
    · rw [h1] at h1'; cases h1'
      exact .inr ⟨g, off, h1, by rw [size_set]; exact h2, fun i hi => (World.cell?_of_block (w := w) (Below.heap_setCell w ⟨b, j, none⟩ v g (by show g ≠ b; omega))).trans (h3 i hi)⟩
theorem AtA.set {w : World} {a : Option Addr} {xs : List Arr} {B b j : Nat} (h : AtA w a xs) (hf : xs = [] ∨ ∃ b off, a = some ⟨b, off, none⟩ ∧ B ≤ b) (hb : b < B) (v : Value) : AtA (w.setCell ⟨b, j, none⟩ v) a xs := by
  rcases h with h | ⟨g, off, h1, h2, h3⟩
  · exact .inl h
  · rcases hf with hf | ⟨g', off', h1', h4⟩
    · exact .inl hf
    · rw [h1] at h1'; cases h1'
      have e : ∀ q, (w.setCell ⟨b, j, none⟩ v).cell? ⟨g, q, none⟩ = w.cell? ⟨g, q, none⟩ := fun q => World.cell?_of_block (w := w) (Below.heap_setCell w ⟨b, j, none⟩ v g (by show g ≠ b; omega))
      exact .inr ⟨g, off, h1, by rw [size_set]; exact h2, fun i hi => by rw [e, e, e]; exact h3 i hi⟩
theorem MAt.set {w : World} {m : Mach} {l : ML} {B b j : Nat} (h : MAt w m l) (hf : FrM B m l) (hb : b < B) (v : Value) : MAt (w.setCell ⟨b, j, none⟩ v) m l :=
  ⟨h.s.set hf.s hb v, h.a.set hf.a hb v, h.e.set hf.e hb v, h.s1, h.s2, h.s3, h.a1, h.a2, h.a3, h.e1, h.e2, h.e3⟩
theorem MAt.set5 {w : World} {m : Mach} {l : ML} {B b : Nat} (h : MAt w m l) (hf : FrM B m l) (hb : b < B) (v0 v1 v2 v3 v4 : Value) : MAt (((((w.setCell ⟨b, 0, none⟩ v0).setCell ⟨b, 1, none⟩ v1).setCell ⟨b, 2, none⟩ v2).setCell ⟨b, 3, none⟩ v3).setCell ⟨b, 4, none⟩ v4) m l :=
  ((((h.set hf hb v0).set hf hb v1).set hf hb v2).set hf hb v3).set hf hb v4
theorem Own.fr {w : World} {B n c : Nat} {a : Option Addr} {xs : List Int} (h : Own w B (.slice a n c) xs) : xs = [] ∨ ∃ b off, a = some ⟨b, off, none⟩ ∧ B ≤ b := by
  rcases h.cells_of with ⟨-, h0⟩ | ⟨g, cap, h0, h5, -, -, -⟩
  · exact .inl h0
  · cases h0; exact .inr ⟨g, 0, rfl, h5⟩
theorem OwnA.fr {w : World} {B n c : Nat} {a : Option Addr} {xs : List Arr} (h : OwnA w B (.slice a n c) xs) : xs = [] ∨ ∃ b off, a = some ⟨b, off, none⟩ ∧ B ≤ b := by
  rcases h.forms with ⟨-, h0⟩ | ⟨g, cap, h0, h5, -⟩
  · exact .inl h0
  · cases h0; exact .inr ⟨g, 0, rfl, h5⟩
end Go.Proofs.YtmlkpdeidpcidaaDoor
namespace Go.Proofs.YtmlkpdeidpcidaaDoor
open Go.RowKit
set_option linter.unusedVariables false

/-- What is seen of a word. -/
def seenL (seen word : List Int) : List Int := word.filter fun n => hasB seen n == true

/-- One arrow more. -/
def wAdd (seen : List Int) (x : Int) (l : List Int) (a : Arr) : List Int := if (decide (a.f = x) && (!hasB seen a.e && !hasB l a.t)) = true then l ++ [a.t] else l
def wRow (ars : List Arr) (seen : List Int) (x : Int) (l : List Int) : List Int := ars.foldl (wAdd seen x) l
def wGo (ars : List Arr) (seen : List Int) : Nat → Nat → List Int → List Int
  | 0, _, l => l
  | f + 1, k, l => if k < l.length then wGo ars seen f (k + 1) (wRow ars seen (l[k]?.getD 0) l) else l
def wideL (ars : List Arr) (seen ss : List Int) : List Int := srt (wGo ars seen (ss.length + 256) 0 ss)

/-- How a list has grown. -/
def WB (ss l : List Int) : Prop := ∃ t, l = ss ++ t ∧ t.Nodup ∧ ∀ x ∈ t, 0 ≤ x ∧ x < (256 : Nat)
theorem WB.refl (ss : List Int) : WB ss ss := ⟨[], by simp, by simp, by simp⟩
theorem WB.len {ss l : List Int} (h : WB ss l) : l.length ≤ ss.length + 256 := by
  obtain ⟨t, rfl, h1, h2⟩ := h
  have := nodup_len 256 t h1 h2
  rw [List.length_append]; omega
theorem WB.add {ss l : List Int} (h : WB ss l) {seen : List Int} {x : Int} {a : Arr} (ha : 0 ≤ a.t ∧ a.t < (256 : Nat)) : WB ss (wAdd seen x l a) := by
  unfold wAdd
  split
  · rename_i hc
    obtain ⟨t, rfl, h1, h2⟩ := h
    have hn : a.t ∉ ss ++ t := by
      intro hm
      rw [(hasB_iff _ _).2 hm] at hc
      simp at hc
    refine ⟨t ++ [a.t], by rw [List.append_assoc], ?_, ?_⟩
    · rw [List.nodup_append]
      exact ⟨h1, by simp, fun y hy z hz e => by simp at hz; subst hz; subst e; exact hn (by simp [hy])⟩
    · intro y hy
      rcases List.mem_append.1 hy with hy | hy
      · exact h2 y hy
      · have : y = a.t := by simpa using hy
        rw [this]; exact ha
  · exact h
theorem wAdd_pre (seen : List Int) (x : Int) (l : List Int) (a : Arr) : ∃ t, wAdd seen x l a = l ++ t := by
  unfold wAdd; split
  · exact ⟨_, rfl⟩
  · exact ⟨[], by simp⟩
theorem wRow_pre (seen : List Int) (x : Int) : ∀ (ars : List Arr) (l : List Int), ∃ t, wRow ars seen x l = l ++ t
  | [], l => ⟨[], by simp [wRow]⟩
  | a :: r, l => by
    obtain ⟨t, h⟩ := wAdd_pre seen x l a
    obtain ⟨u, h'⟩ := wRow_pre seen x r (wAdd seen x l a)
    exact ⟨t ++ u, by show wRow r seen x (wAdd seen x l a) = _; rw [h', h, List.append_assoc]⟩
theorem wRow_take {ars : List Arr} {seen : List Int} {x : Int} {l : List Int} {j : Nat} {a : Arr} (h : j < ars.length) (ha : Hid (a = ars[j]?.getD arr0)) : wRow (ars.take (j + 1)) seen x l = wAdd seen x (wRow (ars.take j) seen x l) a := by
  have ha := ha.out
  rw [List.getElem?_eq_getElem h, Option.getD_some] at ha
  unfold wRow
  rw [List.take_add_one, List.getElem?_eq_getElem h, List.foldl_append, ← ha]; rfl
theorem wRow_nth {ars : List Arr} {seen : List Int} {x : Int} {l : List Int} {k : Nat} (h : k < l.length) : k < (wRow ars seen x l).length ∧ (wRow ars seen x l)[k]?.getD 0 = l[k]?.getD 0 := by
  obtain ⟨t, e⟩ := wRow_pre seen x ars l
  rw [e, List.getElem?_append_left h, List.length_append]
  exact ⟨by omega, rfl⟩
theorem wGo_next {ars : List Arr} {seen : List Int} {f k : Nat} {l : List Int} (hk : k < l.length) (hf : 0 < f) : wGo ars seen f k l = wGo ars seen (f - 1) (k + 1) (wRow ars seen (l[k]?.getD 0) l) := by
  obtain ⟨g, rfl⟩ : ∃ g, f = g + 1 := ⟨f - 1, by omega⟩
  rw [wGo, if_pos hk]; rfl
theorem wGo_end {ars : List Arr} {seen : List Int} {f k : Nat} {l : List Int} (hk : ¬ k < l.length) : wGo ars seen f k l = l := by
  cases f with
  | zero => rfl
  | succ g => rw [wGo, if_neg hk]
theorem wGo_none (seen : List Int) : ∀ (f k : Nat) (l : List Int), wGo [] seen f k l = l
  | 0, _, _ => rfl
  | f + 1, k, l => by
    rw [wGo]
    split
    · exact wGo_none seen f (k + 1) l
    · rfl
theorem wide_none (seen ss : List Int) : wideL [] seen ss = srt ss := by unfold wideL; rw [wGo_none]

end Go.Proofs.YtmlkpdeidpcidaaDoor
namespace Go.Proofs.YtmlkpdeidpcidaaDoor
open Go.RowKit
set_option linter.unusedVariables false

/-- The arrows that are not seen. -/
def unseenA (ars : List Arr) (seen : List Int) : List Arr := ars.filter fun a => !hasB seen a.e
theorem mem_unseen (ars : List Arr) (seen : List Int) (a : Arr) : a ∈ unseenA ars seen ↔ a ∈ ars ∧ hasB seen a.e = false := by
  unfold unseenA; rw [List.mem_filter]; simp
theorem wAdd_in {seen : List Int} {y x : Int} {l : List Int} {a : Arr} (h : x ∈ wAdd seen y l a) : x ∈ l ∨ (a.f = y ∧ hasB seen a.e = false ∧ x = a.t) := by
  unfold wAdd at h
  split at h
  · rename_i hc
    simp only [Bool.and_eq_true, decide_eq_true_eq, Bool.not_eq_true'] at hc
    rcases List.mem_append.1 h with h | h
    · exact .inl h
    · exact .inr ⟨hc.1, hc.2.1, by simpa using h⟩
  · exact .inl h
theorem wAdd_has {seen : List Int} {y : Int} {l : List Int} {a : Arr} (h1 : a.f = y) (h2 : hasB seen a.e = false) : a.t ∈ wAdd seen y l a := by
  unfold wAdd
  split
  · simp
  · rename_i hc
    cases h3 : hasB l a.t with
    | true => exact (hasB_iff _ _).1 h3
    | false => exact absurd (by simp [h1, h2, h3]) hc
theorem wRow_in {seen : List Int} {y x : Int} : ∀ {ars : List Arr} {l : List Int}, x ∈ wRow ars seen y l → x ∈ l ∨ ∃ a ∈ ars, a.f = y ∧ hasB seen a.e = false ∧ x = a.t
  | [], l, h => .inl h
  | a :: r, l, h => by
    rcases wRow_in (ars := r) (l := wAdd seen y l a) h with h | ⟨c, hc, h'⟩
    · rcases wAdd_in h with h | h
      · exact .inl h
      · exact .inr ⟨a, by simp, h⟩
    · exact .inr ⟨c, by simp [hc], h'⟩
theorem wRow_has {seen : List Int} {y : Int} : ∀ {ars : List Arr} {l : List Int} {a : Arr}, a ∈ ars → a.f = y → hasB seen a.e = false → a.t ∈ wRow ars seen y l
  | [], _, a, h, _, _ => by simp at h
  | c :: r, l, a, h, h1, h2 => by
    rcases List.mem_cons.1 h with rfl | h
    · obtain ⟨t, e⟩ := wRow_pre seen y r (wAdd seen y l a)
      show a.t ∈ wRow r seen y (wAdd seen y l a)
      rw [e]
      exact List.mem_append_left _ (wAdd_has h1 h2)
    · exact wRow_has (ars := r) h h1 h2
theorem wRow_wb {ss : List Int} {seen : List Int} {y : Int} : ∀ {ars : List Arr} {l : List Int}, (∀ a ∈ ars, 0 ≤ a.t ∧ a.t < (256 : Nat)) → WB ss l → WB ss (wRow ars seen y l)
  | [], _, _, h => h
  | a :: r, l, hin, h => wRow_wb (ars := r) (fun c hc => hin c (by simp [hc])) (h.add (hin a (by simp)))
/-- What is known when the first k have been gone on from. -/
structure WI (ars : List Arr) (seen ss : List Int) (k : Nat) (l : List Int) : Prop where
  wb : WB ss l
  rch : ∀ x ∈ l, Rch (·.f) (·.t) (unseenA ars seen) ss x
  cl : ∀ i, i < k → ∀ y, l[i]? = some y → ∀ a ∈ unseenA ars seen, a.f = y → a.t ∈ l
theorem wi_next {ars : List Arr} {seen ss : List Int} (hin : ∀ a ∈ ars, 0 ≤ a.t ∧ a.t < (256 : Nat)) {k : Nat} {l : List Int} (h : WI ars seen ss k l) (hk : k < l.length) : WI ars seen ss (k + 1) (wRow ars seen (l[k]?.getD 0) l) := by
  have hy : l[k]? = some l[k] := List.getElem?_eq_getElem hk
  rw [hy, Option.getD_some]
  obtain ⟨t, ht⟩ := wRow_pre seen l[k] ars l
  refine ⟨wRow_wb hin h.wb, fun x hx => ?_, fun i hi y hy' a ha hf => ?_⟩
  · rcases wRow_in hx with hx | ⟨a, ha, h1, h2, rfl⟩
    · exact h.rch x hx
    · exact rch_step (fr := (·.f)) (to := (·.t)) ((mem_unseen _ _ _).2 ⟨ha, h2⟩) (by rw [h1]; exact h.rch _ (List.getElem_mem _))
  · have hl : i < l.length := by omega
    rw [ht, List.getElem?_append_left hl] at hy'
    by_cases hik : i = k
    · subst hik
      rw [hy] at hy'
      have hy' := Option.some.inj hy'
      obtain ⟨h1, h2⟩ := (mem_unseen _ _ _).1 ha
      exact wRow_has h1 (by rw [hf, hy']) h2
    · rw [ht]
      exact List.mem_append_left _ (h.cl i (by omega) y hy' a ha hf)
theorem wi_go {ars : List Arr} {seen ss : List Int} (hin : ∀ a ∈ ars, 0 ≤ a.t ∧ a.t < (256 : Nat)) : ∀ (f k : Nat) (l : List Int), WI ars seen ss k l → ss.length + 256 ≤ f + k → k ≤ l.length → WI ars seen ss (wGo ars seen f k l).length (wGo ars seen f k l)
  | 0, k, l, h, hf, hk => by
    have := h.wb.len
    have e : k = l.length := by omega
    show WI ars seen ss l.length l
    rw [← e]; exact h
  | f + 1, k, l, h, hf, hk => by
    rw [wGo]
    split
    · rename_i hlt
      refine wi_go hin f (k + 1) _ (wi_next hin h hlt) (by omega) ?_
      obtain ⟨t, ht⟩ := wRow_pre seen (l[k]?.getD 0) ars l
      rw [ht, List.length_append]; omega
    · rename_i hlt
      have e : k = l.length := by omega
      rw [← e]; exact h
theorem mem_wide {ars : List Arr} {seen ss : List Int} (hin : ∀ a ∈ ars, 0 ≤ a.t ∧ a.t < (256 : Nat)) (x : Int) : x ∈ wideL ars seen ss ↔ Rch (·.f) (·.t) (unseenA ars seen) ss x := by
  have h := wi_go hin (ss.length + 256) 0 ss ⟨WB.refl _, fun x hx => rch_start hx, fun i hi => by omega⟩ (by omega) (by omega) (seen := seen)
  unfold wideL
  rw [mem_srt]
  constructor
  · exact h.rch x
  · intro hx
    refine hx (· ∈ wGo ars seen (ss.length + 256) 0 ss) ⟨fun y hy => ?_, fun a ha hf => ?_⟩
    · obtain ⟨t, ht, -⟩ := h.wb
      rw [ht]; exact List.mem_append_left _ hy
    · obtain ⟨i, hi⟩ := List.getElem?_of_mem hf
      exact h.cl i (List.getElem?_eq_some_iff.1 hi).1 _ hi a ha rfl
theorem wide_sub {ars : List Arr} {seen ss : List Int} (hin : ∀ a ∈ ars, 0 ≤ a.t ∧ a.t < (256 : Nat)) : ∀ x ∈ ss, x ∈ wideL ars seen ss := fun x hx => (mem_wide hin x).2 (rch_start hx)
theorem wide_cl {ars : List Arr} {seen ss : List Int} (hin : ∀ a ∈ ars, 0 ≤ a.t ∧ a.t < (256 : Nat)) {a : Arr} (ha : a ∈ ars) (hu : hasB seen a.e = false) (h : a.f ∈ wideL ars seen ss) : a.t ∈ wideL ars seen ss :=
  (mem_wide hin _).2 (rch_step (fr := (·.f)) (to := (·.t)) ((mem_unseen _ _ _).2 ⟨ha, hu⟩) ((mem_wide hin _).1 h))

end Go.Proofs.YtmlkpdeidpcidaaDoor
namespace Go.Proofs.YtmlkpdeidpcidaaDoor
open Go.RowKit
set_option linter.unusedVariables false

/-- Arrows from a state, at a seen event. -/
def hRow (m : Mach) (seen : List Int) (f k : Nat) : List Arr := (wideL m.arrows seen (stepL m.arrows (wideL m.arrows seen [(f : Int)]) (seen[k]?.getD 0))).map fun t => ⟨(f : Int), (k : Int), t⟩
def hFrom (m : Mach) (seen : List Int) (f n : Nat) : List Arr := (List.range n).flatMap (hRow m seen f)
def hAll (m : Mach) (seen : List Int) (n : Nat) : List Arr := (List.range n).flatMap fun f => hFrom m seen f seen.length
def hideM (m : Mach) (seen : List Int) : Mach := ⟨m.st, seen.length, wideL m.arrows seen m.starts, hAll m seen m.st.toNat, m.ends⟩

theorem mem_hRow (m : Mach) (seen : List Int) (f k : Nat) (x : Arr) : x ∈ hRow m seen f k ↔ ∃ t ∈ wideL m.arrows seen (stepL m.arrows (wideL m.arrows seen [(f : Int)]) (seen[k]?.getD 0)), x = ⟨(f : Int), (k : Int), t⟩ := by
  unfold hRow; rw [List.mem_map]
  constructor
  · rintro ⟨t, h, rfl⟩; exact ⟨t, h, rfl⟩
  · rintro ⟨t, h, rfl⟩; exact ⟨t, h, rfl⟩
theorem mem_hAll (m : Mach) (seen : List Int) (n : Nat) (x : Arr) : x ∈ hAll m seen n ↔ ∃ f k : Nat, f < n ∧ k < seen.length ∧ x ∈ hRow m seen f k := by
  unfold hAll hFrom
  simp only [List.mem_flatMap, List.mem_range]
  constructor
  · rintro ⟨f, hf, k, hk, h⟩; exact ⟨f, k, hf, hk, h⟩
  · rintro ⟨f, k, hf, hk, h⟩; exact ⟨f, hf, k, hk, h⟩
theorem may_to {m : Mach} (hm : mayB m = true) : ∀ a ∈ m.arrows, 0 ≤ a.t ∧ a.t < (256 : Nat) := fun a ha => by
  have h1 := may_arrs hm a ha
  have h2 := mayB_size hm
  unfold sizeOk at h2
  exact ⟨h1.2.2.1, by have := h1.2.2.2.1; omega⟩
theorem wide_bd {m : Mach} (hm : mayB m = true) {seen ss : List Int} (hs : ∀ x ∈ ss, 0 ≤ x ∧ x < m.st) : ∀ x ∈ wideL m.arrows seen ss, 0 ≤ x ∧ x < m.st := fun x hx =>
  rch_bd hs (fun a ha => by have := may_arrs hm a ((mem_unseen _ _ _).1 ha).1; exact ⟨this.2.2.1, this.2.2.2.1⟩) ((mem_wide (may_to hm) x).1 hx)
theorem step_bd {m : Mach} (hm : mayB m = true) {ss : List Int} {e : Int} : ∀ x ∈ stepL m.arrows ss e, 0 ≤ x ∧ x < m.st := fun x hx => by
  obtain ⟨a, ha, -, -, rfl⟩ := (mem_stepL _ _ _ _).1 hx
  have := may_arrs hm a ha
  exact ⟨this.2.2.1, this.2.2.2.1⟩
theorem inc_wide (ars : List Arr) (seen ss : List Int) : Inc (wideL ars seen ss) := inc_srt _
theorem incA_flat {g : Nat → List Arr} (h1 : ∀ k, IncA (g k)) (h2 : ∀ k k', k < k' → ∀ x ∈ g k, ∀ y ∈ g k', aheadB x y = true) : ∀ n, IncA ((List.range n).flatMap g)
  | 0 => by simp [IncA]
  | n + 1 => by
    rw [List.range_succ, List.flatMap_append]
    refine List.pairwise_append.2 ⟨incA_flat h1 h2 n, by simpa using h1 n, fun x hx y hy => ?_⟩
    obtain ⟨k, hk, hx⟩ := List.mem_flatMap.1 hx
    have hk := List.mem_range.1 hk
    exact h2 k n hk x hx y (by simpa using hy)
theorem incA_hRow (m : Mach) (seen : List Int) (f k : Nat) : IncA (hRow m seen f k) := by
  unfold hRow
  rw [IncA, List.pairwise_map]
  refine (inc_wide _ _ _).imp ?_
  intro t u h
  exact (aheadB_iff _ _).2 (.inr ⟨rfl, .inr ⟨rfl, h⟩⟩)
theorem incA_hAll (m : Mach) (seen : List Int) (n : Nat) : IncA (hAll m seen n) := by
  refine incA_flat (fun f => incA_flat (incA_hRow m seen f) (fun k k' hk x hx y hy => ?_) _) (fun f f' hf x hx y hy => ?_) n
  · obtain ⟨t, -, rfl⟩ := (mem_hRow _ _ _ _ _).1 hx
    obtain ⟨u, -, rfl⟩ := (mem_hRow _ _ _ _ _).1 hy
    exact (aheadB_iff _ _).2 (.inr ⟨rfl, .inl (by dsimp only; omega)⟩)
  · obtain ⟨k, -, hx⟩ := List.mem_flatMap.1 hx
    obtain ⟨k', -, hy⟩ := List.mem_flatMap.1 hy
    obtain ⟨t, -, rfl⟩ := (mem_hRow _ _ _ _ _).1 hx
    obtain ⟨u, -, rfl⟩ := (mem_hRow _ _ _ _ _).1 hy
    exact (aheadB_iff _ _).2 (.inl (by dsimp only; omega))
theorem row_short {n : Int} {l : List Int} (hn : n ≤ 2147483648) (h0 : 0 ≤ n) (h : rowB n l = true) : (l.length : Int) ≤ n := by
  obtain ⟨h1, h2⟩ := (rowB_iff n hn l).1 h
  have := nodup_len n.toNat l (inc_nodup h1) (fun x hx => by have := h2 x hx; omega)
  omega
theorem may_hide {m : Mach} (hm : mayB m = true) {seen : List Int} (hs : rowB m.ev seen = true) (hz : (hAll m seen m.st.toNat).length ≤ 4096) : mayB (hideM m seen) = true := by
  have hm' := mayB_size hm
  unfold sizeOk at hm'
  have hl := row_short (by omega) (by omega) hs
  rw [mayB_go (m := hideM m seen) ⟨hm'.1, hm'.2.1, by show (0 : Int) ≤ seen.length; omega, by show (seen.length : Int) ≤ 8; omega, hz⟩ ((rowB_iff _ (by show m.st ≤ _; omega) _).2 ⟨inc_wide _ _ _, wide_bd hm (may_starts hm).2⟩) (show rowB m.st m.ends = true from mayB_ends hm)]
  rw [arrsFrom_iff]
  refine ⟨fun x hx => ?_, incA_hAll _ _ _, fun _ _ => rfl⟩
  obtain ⟨f, k, hf, hk, hx⟩ := (mem_hAll _ _ _ _).1 hx
  obtain ⟨t, ht, rfl⟩ := (mem_hRow _ _ _ _ _).1 hx
  have hb := wide_bd hm (step_bd hm) t ht
  exact ⟨by dsimp only; omega, by show (f : Int) < m.st; omega, hb.1, hb.2, by dsimp only; omega, by show (k : Int) < seen.length; omega⟩

/-! What is seen of a word that is accepted is accepted. -/
end Go.Proofs.YtmlkpdeidpcidaaDoor
namespace Go.Proofs.YtmlkpdeidpcidaaDoor
open Go.RowKit
set_option linter.unusedVariables false

/-- The states that what can't be forbidden comes to, from one, as the reference finds them. -/
def ctlGo (ars : List Arr) (free : List Int) (s : Int) : List Int := wGo ars free 257 0 [s]
theorem mem_ctlGo {ars : List Arr} {free : List Int} (s x : Int) : x ∈ ctlGo ars free s ↔ x ∈ wideL ars free [s] := by
  unfold wideL ctlGo
  rw [mem_srt]; rfl
/-- Is none of a list bad? -/
def noneB (bad l : List Int) : Bool := decide ((l.filter fun n => hasB bad n == true).length = 0)
theorem noneB_iff (bad l : List Int) : noneB bad l = true ↔ ∀ x ∈ l, x ∉ bad := by
  unfold noneB
  rw [decide_eq_true_eq, List.length_eq_zero_iff, List.filter_eq_nil_iff]
  refine forall_congr' fun x => imp_congr_right fun _ => ?_
  unfold hasB; simp
/-- What to keep to (N2). -/
def keepL (m : Mach) (free bad : List Int) : List Int := (rngI m.st.toNat).filter fun s => noneB bad (ctlGo m.arrows free s)
/-- Is a row safe (N1)? -/
def arrOk (free l : List Int) (a : Arr) : Bool := !(hasB l a.f && (!hasB free a.e && !hasB l a.t))
def safeB (m : Mach) (free bad l : List Int) : Bool := (l.all fun x => !hasB bad x) && m.arrows.all (arrOk free l)
theorem safeB_iff (m : Mach) (free bad l : List Int) : safeB m free bad l = true ↔ (∀ x ∈ l, x ∉ bad) ∧ ∀ a ∈ m.arrows, a.f ∈ l → a.e ∉ free → a.t ∈ l := by
  unfold safeB
  rw [Bool.and_eq_true, List.all_eq_true, List.all_eq_true]
  refine and_congr ?_ ?_
  · refine forall_congr' fun x => imp_congr_right fun _ => ?_
    unfold hasB; simp
  · refine forall_congr' fun a => imp_congr_right fun _ => ?_
    unfold arrOk hasB
    simp only [Bool.not_and, Bool.or_eq_true, Bool.not_eq_true', Bool.not_not, List.contains_eq_mem, decide_eq_true_eq, decide_eq_false_iff_not]
    by_cases h1 : a.f ∈ l <;> by_cases h2 : a.e ∈ free <;> by_cases h3 : a.t ∈ l <;> simp [h1, h2, h3]
theorem mem_keep {m : Mach} (free bad : List Int) (s : Int) : s ∈ keepL m free bad ↔ (0 ≤ s ∧ s < (m.st.toNat : Int)) ∧ ∀ x ∈ wideL m.arrows free [s], x ∉ bad := by
  unfold keepL
  rw [List.mem_filter, noneB_iff]
  refine and_congr ?_ (forall_congr' fun x => by rw [mem_ctlGo])
  unfold rngI
  rw [List.mem_map]
  constructor
  · rintro ⟨k, hk, rfl⟩
    have := List.mem_range.1 hk
    omega
  · rintro ⟨h0, h1⟩
    exact ⟨s.toNat, List.mem_range.2 (by omega), by omega⟩
theorem inc_keep (m : Mach) (free bad : List Int) : Inc (keepL m free bad) := by
  unfold keepL rngI Inc
  refine List.Pairwise.filter _ ?_
  rw [List.pairwise_map]
  exact List.Pairwise.imp (fun h => by omega) List.pairwise_lt_range
theorem keep_bd {m : Mach} (hm : mayB m = true) (free bad : List Int) : ∀ x ∈ keepL m free bad, 0 ≤ x ∧ x < m.st := fun x hx => by
  have hz := mayB_size hm
  unfold sizeOk at hz
  have := ((mem_keep free bad x).1 hx).1
  omega
/-- What to keep to is safe. -/
theorem keep_safe {m : Mach} (hm : mayB m = true) (free bad : List Int) : safeB m free bad (keepL m free bad) = true := by
  have hz := mayB_size hm
  unfold sizeOk at hz
  refine (safeB_iff _ _ _ _).2 ⟨fun x hx => ((mem_keep _ _ _).1 hx).2 x (wide_sub (may_to hm) _ (by simp)), fun a ha hf he => ?_⟩
  have hin := may_arrs hm a ha
  refine (mem_keep _ _ _).2 ⟨⟨hin.2.2.1, by have := hin.2.2.2.1; omega⟩, fun x hx => ?_⟩
  refine ((mem_keep _ _ _).1 hf).2 x ?_
  rw [mem_wide (may_to hm)] at hx ⊢
  refine hx _ ⟨fun y hy => ?_, fun b hb h => rch_step (fr := (·.f)) (to := (·.t)) hb h⟩
  have : y = a.t := by simpa using hy
  subst this
  exact rch_step (fr := (·.f)) (to := (·.t)) ((mem_unseen _ _ _).2 ⟨ha, by unfold hasB; simpa using he⟩) (rch_start (by simp))
/-- A safe row is part of it. -/
theorem keep_most {m : Mach} (hm : mayB m = true) {free bad l : List Int} (hl : ∀ x ∈ l, 0 ≤ x ∧ x < m.st) (hs : safeB m free bad l = true) : ∀ x ∈ l, x ∈ keepL m free bad := fun s hx => by
  have hz := mayB_size hm
  unfold sizeOk at hz
  obtain ⟨h1, h2⟩ := (safeB_iff _ _ _ _).1 hs
  have hb := hl s hx
  refine (mem_keep _ _ _).2 ⟨⟨hb.1, by omega⟩, fun x hw => ?_⟩
  refine h1 x ?_
  rw [mem_wide (may_to hm)] at hw
  refine hw (· ∈ l) ⟨fun y hy => ?_, fun a ha h => ?_⟩
  · have : y = s := by simpa using hy
    subst this; exact hx
  · obtain ⟨ha1, ha2⟩ := (mem_unseen _ _ _).1 ha
    exact h2 a ha1 h (by unfold hasB at ha2; simpa using ha2)
/-- A safe row that has all of it is it (for the program's own way). -/
theorem keep_is {m : Mach} (hm : mayB m = true) {free bad l : List Int} (hi : Inc l) (hl : ∀ x ∈ l, 0 ≤ x ∧ x < m.st) (hs : safeB m free bad l = true) (hk : ∀ x ∈ keepL m free bad, x ∈ l) : l = keepL m free bad :=
  inc_ext hi (inc_keep m free bad) fun x => ⟨fun h => keep_most hm hl hs x h, hk x⟩
theorem keep_bad {m : Mach} (hm : mayB m = true) {free bad : List Int} {x : Int} (h : x ∈ bad) : x ∉ keepL m free bad := fun hk => ((safeB_iff _ _ _ _).1 (keep_safe hm free bad)).1 x hk h
/-- What Keep answers. -/
def ctlOut (m : Mach) (free bad : List Int) : List Int × Int := if (mayB m && (rowB m.ev free && rowB m.st bad)) = true then (keepL m free bad, 0) else ([], 2)
theorem ctlOut_bad {m : Mach} {free bad : List Int} (h : (mayB m && (rowB m.ev free && rowB m.st bad)) = false) : ctlOut m free bad = ([], 2) := by unfold ctlOut; rw [if_neg (by rw [h]; simp)]
theorem ctlOut_ok {m : Mach} {free bad : List Int} (h : (mayB m && (rowB m.ev free && rowB m.st bad)) = true) : ctlOut m free bad = (keepL m free bad, 0) := by unfold ctlOut; rw [if_pos h]

end Go.Proofs.YtmlkpdeidpcidaaDoor
