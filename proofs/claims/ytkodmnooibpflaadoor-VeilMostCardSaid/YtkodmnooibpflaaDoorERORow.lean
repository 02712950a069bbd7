/-
  A row of places that grows, and what is boxed beside it (jalousieref15).
-/
import Derived.Test.YtkodmnooibpflaaDoorI35
import Derived.Test.YtkodmnooibpflaaDoorI20
namespace Go.Proofs.YtkodmnooibpflaaDoor
open Go.RowKit
set_option linter.unusedVariables false

def selO (p : Plant) (o : Mach) (y : PlO) (e : Int) : Option PlO := if hasB p.seen e = true then none else onO p o y e
def rowO (f : Int → Option PlO) (L : List PlO) (j : Nat) : List PlO := cRow L ((rngI j).filterMap f)
theorem rowO_zero (f : Int → Option PlO) (L : List PlO) : rowO f L 0 = L := rfl
theorem rowO_none {f : Int → Option PlO} {L : List PlO} {j : Nat} (h : f (j : Int) = none) : rowO f L (j + 1) = rowO f L j := by
  unfold rowO
  rw [rngI_succ, List.filterMap_append]
  simp [h]
theorem rowO_some {f : Int → Option PlO} {L : List PlO} {j : Nat} {z : PlO} (h : f (j : Int) = some z) : rowO f L (j + 1) = cAdd (rowO f L j) z := by
  unfold rowO
  rw [rngI_succ, List.filterMap_append]
  simp only [List.filterMap_cons, h, List.filterMap_nil]
  unfold cRow
  rw [List.foldl_append]; rfl
theorem rowO_nodup {f : Int → Option PlO} {L : List PlO} (h : L.Nodup) (j : Nat) : (rowO f L j).Nodup := nodup_cRow _ h
theorem rowOR_in {f : Int → Option PlO} {L U : List PlO} (h : ∀ x ∈ L, x ∈ U) (hf : ∀ e z, f e = some z → z ∈ U) (j : Nat) : ∀ x ∈ rowO f L j, x ∈ U := fun x hx => by
  rcases (mem_cRow _ _ _).1 hx with k | k
  · exact h x k
  · obtain ⟨e, -, he⟩ := List.mem_filterMap.1 k
    exact hf e x he
theorem rowO_at {f : Int → Option PlO} {L : List PlO} {k : Nat} {x : PlO} (h : L[k]? = some x) (j : Nat) : (rowO f L j)[k]? = some x := by
  obtain ⟨t, ht⟩ := cRow_pre ((rngI j).filterMap f) L
  unfold rowO
  rw [ht, List.getElem?_append_left (List.getElem?_eq_some_iff.1 h).1]
  exact h
theorem cAdd_yesO {l : List PlO} {x : PlO} (h : memQ l x = true) : cAdd l x = l := by unfold cAdd; rw [if_pos (of_decide_eq_true h)]
theorem cAdd_noO {l : List PlO} {x : PlO} (h : memQ l x = false) : cAdd l x = l ++ [x] := by unfold cAdd; rw [if_neg (of_decide_eq_false h)]

/-- What wide knows of the memory. -/
structure WO (w W : World) (B n : Nat) (p : Plant) (P : PTL) (o : Mach) (lo : ML) (v : Value) (l : List PlO) : Prop where
  ow : OwnQ n W B v l
  bel : Below B w W
  kp : Blk W w.heap.size 44 (ptcells p P)
  ko : Blk W (w.heap.size + 1) 25 (mcells o lo)
  hB : B ≤ W.heap.size
  hn : n ≤ B
section
variable {w W : World} {B n : Nat} {p : Plant} {P : PTL} {o : Mach} {lo : ML} {v : Value} {l : List PlO}
theorem WO.below {W' : World} (h : WO w W B n p P o lo v l) (hb : Below W.heap.size W W') : WO w W' B n p P o lo v l :=
  ⟨h.ow.below hb (Nat.le_trans h.hn h.hB), h.bel.trans (hb.mono h.hB), h.kp.below hb h.kp.lt, h.ko.below hb h.ko.lt, Nat.le_trans h.hB hb.size, h.hn⟩
/-- One more. -/
theorem WO.push {W2 : World} {v' z : Value} {x : PlO} {vs : List Value} (h : WO w W B n p P o lo v l) (ho : W.ownsRow B 135 2 v l.length vs) (hi : ∀ (k : Nat) (x : PlO), l[k]? = some x → vs[k * 2]? = some (.int .i64 x.1) ∧ ∃ z, vs[k * 2 + 1]? = some z ∧ InnW n W z x.2) (hz : InnW n W z x.2) (o1 : W2.ownsRow B 135 2 v' (l.length + 1) (vs ++ [.int .i64 x.1, z])) (g : W.grownBy W2 v.ownBlock) : WO w W2 B n p P o lo v' (l ++ [x]) := by
  have hty : ∀ (q : Nat) (cs : Array Value), W.heap[q]? = some (.cells cs 25 (0, 0)) → W2.heap[q]? = W.heap[q]? := fun q cs hq => g.block q (Array.getElem?_eq_some_iff.1 hq).1 (fun e => by
    obtain ⟨c2, h2⟩ := own_type ho e.symm
    rw [hq] at h2; cases h2)
  have htp : ∀ (q : Nat) (cs : Array Value), W.heap[q]? = some (.cells cs 44 (0, 0)) → W2.heap[q]? = W.heap[q]? := fun q cs hq => g.block q (Array.getElem?_eq_some_iff.1 hq).1 (fun e => by
    obtain ⟨c2, h2⟩ := own_type ho e.symm
    rw [hq] at h2; cases h2)
  exact ⟨OwnQ.push h.hn h.hB ho hi hz o1 g, h.bel.grown g h.hB (fun j hj => (World.ownsRow.lt ho j hj).1), (htp _ _ h.kp).trans h.kp, (hty _ _ h.ko).trans h.ko, Nat.le_trans h.hB g.size, h.hn⟩
end
/-- An inner row stays, where a box of a place is stored to. -/
theorem innW_box {n : Nat} {W : World} {x : Value} {xs : List Int} {pb : Nat} {cs : Array Value} (h : InnW n W x xs) (hn : n ≤ pb) (hk : Blk W pb 135 cs) (v0 v1 : Value) : InnW n ((W.setCell ⟨pb, 0, none⟩ v0).setCell ⟨pb, 1, none⟩ v1) x xs :=
  h.kept (by simp) (fun j hj => (Below.heap_setCell _ _ _ j (show j ≠ pb by omega)).trans (Below.heap_setCell _ _ _ j (show j ≠ pb by omega))) (fun g c2 hg => by
    have hne : g ≠ pb := fun e => by
      have hk' : W.heap[pb]? = _ := hk
      rw [← e, hg] at hk'
      injection hk' with hk'
      injection hk' with _ h3 _
      exact absurd h3 (by decide)
    exact (Below.heap_setCell _ _ _ g hne).trans (Below.heap_setCell _ _ _ g hne))

end Go.Proofs.YtkodmnooibpflaaDoor
