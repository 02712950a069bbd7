/-
  The walk of reach.spread: what a set leads to, in any number of steps.
-/
import Derived.Laws.BitsAllLaws
import Derived.Laws.StructEq
import Derived.ChangeKeysEq
import Derived.Test.YtbdkaobbfmgnhaaDoorCSetOps
import Derived.Test.YtbdkaobbfmgnhaaDoorG16
import Derived.Test.YtbdkaobbfmgnhaaDoorG14
import Derived.Test.YtbdkaobbfmgnhaaDoorG10
namespace Go.Proofs.YtbdkaobbfmgnhaaDoor
open Go.RowKit Go.Shelf
set_option linter.unusedVariables false
attribute [local go_sem] Oper.semAt_some

/-- The marks that ranges over a function leave among the deferred calls. -/
def mark (D : Nat) : Deferred := { target := .collected D, args := #[] }
structure Marks (B : Nat) (Ds : List Nat) (W : World) : Prop where
  at' : ∀ D ∈ Ds, B ≤ D ∧ W.heap[D]? = some (.deferred (some []))
  nd : Ds.Nodup
theorem Marks.lt {B : Nat} {Ds : List Nat} {W : World} (h : Marks B Ds W) : ∀ D ∈ Ds, D < W.heap.size := fun D hD => (Array.getElem?_eq_some_iff.1 (h.at' D hD).2).1
theorem Marks.below {B B' : Nat} {Ds : List Nat} {W W' : World} (h : Marks B Ds W) (hb : Below B' W W') (hB : ∀ D ∈ Ds, D < B') : Marks B Ds W' :=
  ⟨fun D hD => ⟨(h.at' D hD).1, (hb.block D (hB D hD)).trans (h.at' D hD).2⟩, h.nd⟩
theorem Marks.other {B : Nat} {Ds : List Nat} {W : World} {t : TypeId} {cs : Array Value} {b j : Nat} (h : Marks B Ds W) (hb : Blk W b t cs) (v : Value) : Marks B Ds (W.setCell ⟨b, j, none⟩ v) :=
  ⟨fun D hD => ⟨(h.at' D hD).1, by
    have hne : D ≠ b := fun e => by have := (h.at' D hD).2; rw [e, show W.heap[b]? = _ from hb] at this; cases this
    exact (Below.heap_setCell W ⟨b, j, none⟩ v D hne).trans (h.at' D hD).2⟩, h.nd⟩
theorem Marks.other4 {B : Nat} {Ds : List Nat} {W : World} {b : Nat} {S : Nat → Nat} (h : Marks B Ds W) (hb : SB W b S) (T : Nat → Nat) : Marks B Ds ((((W.setCell ⟨b, 0, none⟩ (.int .u64 (T 0))).setCell ⟨b, 1, none⟩ (.int .u64 (T 1))).setCell ⟨b, 2, none⟩ (.int .u64 (T 2))).setCell ⟨b, 3, none⟩ (.int .u64 (T 3))) :=
  (((h.other hb _).other (hb.set 0 _) _).other ((hb.set 0 _).set 1 _) _).other (((hb.set 0 _).set 1 _).set 2 _) _
/-- Marks are taken off one by one. -/
theorem leaves_marks {F : Fence} {n : Nat} {P : Program} {fn : Func} {tmps : Array Value} {R : Ending → World → Prop} {B : Nat} (J : World → Prop) (hJ : ∀ W D, J W → B ≤ D → W.heap[D]? = some (.deferred (some [])) → J (W.putObj D (.deferred none))) (hfin : ∀ W, J W → LeavesInM F n P fn tmps R [] .returning W) :
    ∀ (Ds : List Nat) (W : World), Marks B Ds W → J W → LeavesInM F n P fn tmps R (Ds.map mark) .returning W
  | [], W, _, h => hfin W h
  | D :: r, W, hm, h => by
    have h1 := hm.at' D (by simp)
    refine ⟨by simp, .inl ⟨D, _, rfl, run_takeDeferred h1.2, leaves_marks J hJ hfin r _ ⟨fun D' hD' => ?_, (List.nodup_cons.1 hm.nd).2⟩ (hJ W D h h1.1 h1.2)⟩⟩
    have h2 := hm.at' D' (by simp [hD'])
    have hne : D' ≠ D := fun e => (List.nodup_cons.1 hm.nd).1 (by rw [← e]; exact hD')
    exact ⟨h2.1, (World.putObj_heap_other (fun e => hne e)).trans h2.2⟩

end Go.Proofs.YtbdkaobbfmgnhaaDoor
