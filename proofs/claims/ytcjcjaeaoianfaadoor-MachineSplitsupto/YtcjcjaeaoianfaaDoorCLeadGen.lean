/-
  Small facts on sets in memory, for the walks that range over a set or fill a table of sets.
-/
import Derived.Test.YtcjcjaeaoianfaaDoorCLeadBase
import Derived.OwnWalk
import Derived.Deep.RegionWith
namespace Go.Proofs.YtcjcjaeaoianfaaDoor
open Go.RowKit Go.Shelf
set_option linter.unusedVariables false
attribute [local go_sem] Oper.semAt_some

theorem Tryd.infoSet : (Tryd.prog.info? 55).map (fun i => (i.zero, i.size, i.bytes)) = some (some (sval zeroS), 4, 32) := by kernel_rfl

/-- What holds where a region is left as it should be. -/
def regQ (R : Act → World → Prop) : Exit → Act → World → Prop
  | .normal, a, w => R a w
  | _, _, _ => False
theorem regQ_imp {R : Act → World → Prop} {Q : Exit → Act → World → Prop} (h : ∀ a w, R a w → Q .normal a w) : ∀ e a w, regQ R e a w → Q e a w := fun e a w hr => by
  cases e <;> first | exact h a w hr | exact hr.elim

theorem Blk.other4' {W : World} {b b' : Nat} {t : TypeId} {cs : Array Value} (h : Blk W b t cs) (j : Nat) (hne : b ≠ b') (v0 v1 v2 v3 : Value) : Blk ((((W.setCell ⟨b', j, none⟩ v0).setCell ⟨b', j + 1, none⟩ v1).setCell ⟨b', j + 2, none⟩ v2).setCell ⟨b', j + 3, none⟩ v3) b t cs :=
  (((h.other hne v0).other hne v1).other hne v2).other hne v3
theorem below_set4' {W V : World} {B b' : Nat} (h : Below B V W) (j : Nat) (hb : B ≤ b') (v0 v1 v2 v3 : Value) : Below B V ((((W.setCell ⟨b', j, none⟩ v0).setCell ⟨b', j + 1, none⟩ v1).setCell ⟨b', j + 2, none⟩ v2).setCell ⟨b', j + 3, none⟩ v3) :=
  (((h.setCell (p := ⟨b', j, none⟩) hb v0).setCell (p := ⟨b', j + 1, none⟩) hb v1).setCell (p := ⟨b', j + 2, none⟩) hb v2).setCell (p := ⟨b', j + 3, none⟩) hb v3

theorem lead_ix {st ev x e : Nat} (hx : x < st) (he : e < ev) : x * ev + e < st * ev := by
  have : (x + 1) * ev ≤ st * ev := Nat.mul_le_mul_right _ hx
  rw [Nat.add_mul] at this
  omega

theorem own_SB {β : Type} (B : Nat) (S : β → Nat → Nat) : Go.Own (fun (s : β) W => SB W B (S s)) := by
  intro s W W' row h hg hr
  obtain ⟨hlt, hk⟩ := Array.getElem?_eq_some_iff.1 h
  exact (grownBy_keeps_cells hg hr (k := B) h rfl).trans h

def nbNats {N : Nat} (pre : List (NB N)) : List Nat := pre.map fun x => x.1
theorem nbNats_snoc {N : Nat} (pre : List (NB N)) (x : NB N) : nbNats (pre ++ [x]) = nbNats pre ++ [x.1] := by simp [nbNats]

theorem lead1_ix {st ev x e : Nat} (hx : x < st) (he : e < ev) : x * ev + e < st * ev := by
  have : (x + 1) * ev ≤ st * ev := Nat.mul_le_mul_right _ hx
  rw [Nat.add_mul] at this
  omega

end Go.Proofs.YtcjcjaeaoianfaaDoor
