/-
  machine.Leader, of whatever machine may be.
  What a closure that leads two machines on knows; blocks of different types lie apart.
-/
import Derived.Test.YtmlkpdeidpcidaaDoorELead
import Derived.Test.YtmlkpdeidpcidaaDoorI14
import Derived.Test.YtmlkpdeidpcidaaDoorI03
namespace Go.Proofs.YtmlkpdeidpcidaaDoor
open Go.RowKit
set_option linter.unusedVariables false

theorem LD.other4 {W : World} {L : LB} {b' ev N : Nat} {T : Nat → Nat → Nat} (h : LD W L ev N T) (hn : L.all (· ≠ b')) (v0 v1 v2 v3 : Value) : LD ((((W.setCell ⟨b', 0, none⟩ v0).setCell ⟨b', 1, none⟩ v1).setCell ⟨b', 2, none⟩ v2).setCell ⟨b', 3, none⟩ v3) L ev N T := by
  obtain ⟨cs, c1, c2, c3⟩ := h.tab
  exact ⟨Blk.other4' h.is 0 hn.1 v0 v1 v2 v3, Blk.other4' h.evb 0 hn.2.1 v0 v1 v2 v3, Blk.other4' h.to 0 hn.2.2.1 v0 v1 v2 v3, ⟨cs, Blk.other4' c1 0 hn.2.2.2.1 v0 v1 v2 v3, c2, c3⟩, Blk.other4' h.bd 0 hn.2.2.2.2 v0 v1 v2 v3⟩
end Go.Proofs.YtmlkpdeidpcidaaDoor
namespace Go.Proofs.YtmlkpdeidpcidaaDoor
open Go.RowKit
set_option linter.unusedVariables false

structure WL (W : World) (pA pB : Nat) (LA LC : LB) (ev sa sb : Nat) (TA TC : Nat → Nat → Nat) : Prop where
  ca : Blk W pA 108 #[leadV LA]
  cb : Blk W pB 108 #[leadV LC]
  la : LD W LA ev (sa * ev) TA
  lb : LD W LC ev (sb * ev) TC
theorem WL.kept {W W' : World} {pA pB : Nat} {LA LC : LB} {ev sa sb : Nat} {TA TC : Nat → Nat → Nat} (h : WL W pA pB LA LC ev sa sb TA TC) (hb : Below W.heap.size W W') : WL W' pA pB LA LC ev sa sb TA TC :=
  ⟨h.ca.below hb h.ca.lt, h.cb.below hb h.cb.lt, h.la.kept hb, h.lb.kept hb⟩
theorem blk_apart {W : World} {p q : Nat} {t t' : TypeId} {cs cs' : Array Value} (h : Blk W p t cs) (h' : Blk W q t' cs') (hn : t ≠ t') : p ≠ q := fun e => by
  have h1 : W.heap[p]? = some (.cells cs t (0, 0)) := h
  have h2 : W.heap[q]? = some (.cells cs' t' (0, 0)) := h'
  rw [e, h2] at h1
  cases h1; exact hn rfl
theorem LD.setF {W : World} {L : LB} {ev N p : Nat} {T : Nat → Nat → Nat} {v : Value} {cs : Array Value} (h : LD W L ev N T) (hp : Blk W p 108 cs) : LD (W.setCell ⟨p, 0, none⟩ v) L ev N T := by
  obtain ⟨cs', h1, h2, h3⟩ := h.tab
  exact ⟨Blk.other h.is (blk_apart h.is hp (by decide)) v, Blk.other h.evb (blk_apart h.evb hp (by decide)) v, Blk.other h.to (blk_apart h.to hp (by decide)) v, ⟨cs', h1.other (blk_apart h1 hp (by decide)) v, h2, h3⟩, Blk.other h.bd (blk_apart h.bd hp (by decide)) v⟩

end Go.Proofs.YtmlkpdeidpcidaaDoor
