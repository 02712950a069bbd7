/-
  What keeper.veil knows of the memory.
-/
import Derived.Test.YtmlkpdeidpcidaaDoorJ39
import Derived.Test.YtmlkpdeidpcidaaDoorJ34
import Derived.Test.YtmlkpdeidpcidaaDoorJ14
namespace Go.Proofs.YtmlkpdeidpcidaaDoor
open Go.RowKit
set_option linter.unusedVariables false

theorem InnN.blw {n : Nat} {W W' : World} {x : Value} {xs : List Int} (h : InnN n W x xs) (hb : Below W.heap.size W W') (hn : n ≤ W.heap.size) : InnN n W' x xs :=
  h.kept hb.size (fun j hj => hb.block j (by omega)) (fun q cs hq => hb.block q (Array.getElem?_eq_some_iff.1 hq).1)
/-- What veil knows: its result, the veil as far as it is laid, the row of the sets that are found and the map of their numbers, the nodes and the moves. -/
structure VK (w W : World) (nb : Nat) (ns nv mv : Value) (SL : List (Nat → Nat)) (NL : List (List Int)) (M : List Mv) : Prop where
  bel : Below w.heap.size w W
  k4 : Blk W (w.heap.size + 1) 72 #[.slice none 0 0, .slice none 0 0]
  kv : Blk W (w.heap.size + 1 + 1) 72 #[nv, mv]
  ss : OwnS W w.heap.size ns SL
  mp : W.heap[nb]? = some (.map (entsS SL) SL.length)
  ln : w.heap.size ≤ nb
  on : OwnN 0 W w.heap.size nv NL
  om : OwnMv 0 W w.heap.size mv M
section
variable {w W : World} {nb : Nat} {ns nv mv : Value} {SL : List (Nat → Nat)} {NL : List (List Int)} {M : List Mv}
theorem VK.below {W' : World} (h : VK w W nb ns nv mv SL NL M) (hb : Below W.heap.size W W') : VK w W' nb ns nv mv SL NL M :=
  ⟨h.bel.trans (hb.mono h.bel.size), h.k4.below hb h.k4.lt, h.kv.below hb h.kv.lt, own_same h.ss (fun k hk => hb.block k (World.ownsRow.lt h.ss k hk).2), (hb.block nb (Array.getElem?_eq_some_iff.1 h.mp).1).trans h.mp, h.ln, h.on.below hb (Nat.zero_le _), h.om.below hb (Nat.zero_le _)⟩
/-- A node more. -/
theorem VK.node {W2 W3 : World} {nv' x : Value} {xs : List Int} {vs : List Value} (h : VK w W nb ns nv mv SL NL M) (hW3 : Below W.heap.size W W3) (ho : W3.ownsRow w.heap.size 22 1 nv NL.length vs) (hi : ∀ (j : Nat) (x : Value) (xs : List Int), vs[j]? = some x → NL[j]? = some xs → InnN 0 W3 x xs) (hx : InnN 0 W3 x xs) (o1 : W2.ownsRow w.heap.size 22 1 nv' (NL.length + 1) (vs ++ [x])) (gr : W3.grownBy W2 nv.ownBlock) :
    Blk W2 (w.heap.size + 1 + 1) 72 #[nv, mv] ∧ VK w (W2.setCell ⟨w.heap.size + 1 + 1, 0, none⟩ nv') nb ns nv' mv SL (NL ++ [xs]) M ∧ ∀ (q : Nat) (cs : Array Value) (t : TypeId), t ≠ 22 → t ≠ 72 → W3.heap[q]? = some (.cells cs t (0, 0)) → (W2.setCell ⟨w.heap.size + 1 + 1, 0, none⟩ nv').heap[q]? = W3.heap[q]? := by
  have h3 := h.below hW3
  have hty := grown_cellsV ho gr
  have kv3 : W3.heap[w.heap.size + 1 + 1]? = some (.cells #[nv, mv] 72 (0, 0)) := h3.kv
  have k43 : W3.heap[w.heap.size + 1]? = some (.cells #[.slice none 0 0, .slice none 0 0] 72 (0, 0)) := h3.k4
  have kv2 : Blk W2 (w.heap.size + 1 + 1) 72 #[nv, mv] := (hty _ _ _ (by decide) kv3).trans kv3
  have key : ∀ (q : Nat) (cs : Array Value) (t : TypeId), t ≠ 22 → t ≠ 72 → W3.heap[q]? = some (.cells cs t (0, 0)) → (W2.setCell ⟨w.heap.size + 1 + 1, 0, none⟩ nv').heap[q]? = W3.heap[q]? := fun q cs t h1 h2 hq => by
    rw [Below.heap_setCell _ _ _ _ (show q ≠ w.heap.size + 1 + 1 from fun e => by rw [e, kv3] at hq; cases hq; exact h2 rfl), hty q cs t h1 hq]
  have szS : W3.heap.size ≤ (W2.setCell ⟨w.heap.size + 1 + 1, 0, none⟩ nv').heap.size := by have := gr.size; simpa [World.setCell] using this
  have kI : ∀ {y : Value} {ys : List Int}, InnN 0 W3 y ys → InnN 0 (W2.setCell ⟨w.heap.size + 1 + 1, 0, none⟩ nv') y ys := fun hy => hy.kept szS (fun j hj => absurd hj (Nat.not_lt_zero _)) (fun q cs hq => key q cs _ (by decide) (by decide) hq)
  have own : ∀ {B s n : Nat} {e : TypeId} {v : Value} {xs : List Value}, e ≠ 22 → e ≠ 72 → W3.ownsRow B e s v n xs → (W2.setCell ⟨w.heap.size + 1 + 1, 0, none⟩ nv').ownsRow B e s v n xs := fun he hm ho' => own_same ho' (fun k hk => by
    obtain ⟨cs, hc⟩ := own_type ho' hk
    exact key k cs _ he hm hc)
  have hmp2 : W2.heap[nb]? = some (.map (entsS SL) SL.length) := (grown_mapV ho gr _ _ _ h3.mp).trans h3.mp
  have kv2' : W2.heap[w.heap.size + 1 + 1]? = some (.cells #[nv, mv] 72 (0, 0)) := kv2
  refine ⟨kv2, ⟨?_, Blk.other ((hty _ _ _ (by decide) k43).trans k43) (by omega) _, kv2.set 0 nv', own (by decide) (by decide) h3.ss, ?_, h.ln, ?_, ?_⟩, key⟩
  · exact (h3.bel.grown gr h3.bel.size (fun j hj => (World.ownsRow.lt ho j hj).1)).setCell (p := ⟨w.heap.size + 1 + 1, 0, none⟩) (show w.heap.size ≤ w.heap.size + 1 + 1 by omega) _
  · rw [Below.heap_setCell _ _ _ _ (show nb ≠ w.heap.size + 1 + 1 from fun e => by rw [e, kv2'] at hmp2; cases hmp2)]; exact hmp2
  · have hl : vs.length = NL.length := by have := ho.1; omega
    refine ⟨vs ++ [x], by rw [List.length_append]; exact own_same o1 (fun k hk => Below.heap_setCell _ ⟨w.heap.size + 1 + 1, 0, none⟩ _ k (fun e => by
      have e : k = w.heap.size + 1 + 1 := e
      obtain ⟨cs, hc⟩ := own_type o1 hk
      rw [e, kv2'] at hc; cases hc)), fun j y ys a b => ?_⟩
    by_cases hj : j < NL.length
    · rw [List.getElem?_append_left (by omega)] at a
      rw [List.getElem?_append_left hj] at b
      exact kI (hi j y ys a b)
    · have hj2 : j < (NL ++ [xs]).length := (List.getElem?_eq_some_iff.1 b).1
      have : j = NL.length := by simp at hj2; omega
      subst this
      rw [List.getElem?_append_right (by omega)] at a b
      rw [hl] at a
      simp at a b
      subst a; subst b
      exact kI hx
  · obtain ⟨us, hu, -⟩ := id h3.om
    exact h3.om.kept szS (fun k hk => by
      obtain ⟨cs, hc⟩ := own_type hu hk
      exact key k cs _ (by decide) (by decide) hc) (fun j hj => absurd hj (Nat.not_lt_zero _)) (fun q cs hq => key q cs _ (by decide) (by decide) hq)
/-- A move more. -/
theorem VK.move {W2 W3 : World} {mv' x : Value} {m : Mv} {vs : List Value} (h : VK w W nb ns nv mv SL NL M) (hW3 : Below W.heap.size W W3) (ho : W3.ownsRow w.heap.size 79 4 mv M.length vs)
    (hi : ∀ (k : Nat) (m : Mv), M[k]? = some m → vs[k * 4]? = some (.int .i64 (m.nd : Int)) ∧ vs[k * 4 + 1]? = some (.int .i64 m.ev) ∧ (∃ x, vs[k * 4 + 2]? = some x ∧ InnN 0 W3 x m.st) ∧ vs[k * 4 + 3]? = some (.int .i64 (m.to : Int)))
    (hx : InnN 0 W3 x m.st) (o1 : W2.ownsRow w.heap.size 79 4 mv' (M.length + 1) (vs ++ [.int .i64 (m.nd : Int), .int .i64 m.ev, x, .int .i64 (m.to : Int)])) (gr : W3.grownBy W2 mv.ownBlock) :
    Blk W2 (w.heap.size + 1 + 1) 72 #[nv, mv] ∧ VK w (W2.setCell ⟨w.heap.size + 1 + 1, 1, none⟩ mv') nb ns nv mv' SL NL (M ++ [m]) ∧ ∀ (q : Nat) (cs : Array Value) (t : TypeId), t ≠ 79 → t ≠ 72 → W3.heap[q]? = some (.cells cs t (0, 0)) → (W2.setCell ⟨w.heap.size + 1 + 1, 1, none⟩ mv').heap[q]? = W3.heap[q]? := by
  have h3 := h.below hW3
  have hty := grown_cellsV ho gr
  have kv3 : W3.heap[w.heap.size + 1 + 1]? = some (.cells #[nv, mv] 72 (0, 0)) := h3.kv
  have k43 : W3.heap[w.heap.size + 1]? = some (.cells #[.slice none 0 0, .slice none 0 0] 72 (0, 0)) := h3.k4
  have kv2 : Blk W2 (w.heap.size + 1 + 1) 72 #[nv, mv] := (hty _ _ _ (by decide) kv3).trans kv3
  have key : ∀ (q : Nat) (cs : Array Value) (t : TypeId), t ≠ 79 → t ≠ 72 → W3.heap[q]? = some (.cells cs t (0, 0)) → (W2.setCell ⟨w.heap.size + 1 + 1, 1, none⟩ mv').heap[q]? = W3.heap[q]? := fun q cs t h1 h2 hq => by
    rw [Below.heap_setCell _ _ _ _ (show q ≠ w.heap.size + 1 + 1 from fun e => by rw [e, kv3] at hq; cases hq; exact h2 rfl), hty q cs t h1 hq]
  have szS : W3.heap.size ≤ (W2.setCell ⟨w.heap.size + 1 + 1, 1, none⟩ mv').heap.size := by have := gr.size; simpa [World.setCell] using this
  have kI : ∀ {y : Value} {ys : List Int}, InnN 0 W3 y ys → InnN 0 (W2.setCell ⟨w.heap.size + 1 + 1, 1, none⟩ mv') y ys := fun hy => hy.kept szS (fun j hj => absurd hj (Nat.not_lt_zero _)) (fun q cs hq => key q cs _ (by decide) (by decide) hq)
  have own : ∀ {B s n : Nat} {e : TypeId} {v : Value} {xs : List Value}, e ≠ 79 → e ≠ 72 → W3.ownsRow B e s v n xs → (W2.setCell ⟨w.heap.size + 1 + 1, 1, none⟩ mv').ownsRow B e s v n xs := fun he hm ho' => own_same ho' (fun k hk => by
    obtain ⟨cs, hc⟩ := own_type ho' hk
    exact key k cs _ he hm hc)
  have hmp2 : W2.heap[nb]? = some (.map (entsS SL) SL.length) := (grown_mapV ho gr _ _ _ h3.mp).trans h3.mp
  have kv2' : W2.heap[w.heap.size + 1 + 1]? = some (.cells #[nv, mv] 72 (0, 0)) := kv2
  refine ⟨kv2, ⟨?_, Blk.other ((hty _ _ _ (by decide) k43).trans k43) (by omega) _, kv2.set 1 mv', own (by decide) (by decide) h3.ss, ?_, h.ln, ?_, ?_⟩, key⟩
  · exact (h3.bel.grown gr h3.bel.size (fun j hj => (World.ownsRow.lt ho j hj).1)).setCell (p := ⟨w.heap.size + 1 + 1, 1, none⟩) (show w.heap.size ≤ w.heap.size + 1 + 1 by omega) _
  · rw [Below.heap_setCell _ _ _ _ (show nb ≠ w.heap.size + 1 + 1 from fun e => by rw [e, kv2'] at hmp2; cases hmp2)]; exact hmp2
  · obtain ⟨us, hu, -⟩ := id h3.on
    exact h3.on.kept szS (fun k hk => by
      obtain ⟨cs, hc⟩ := own_type hu hk
      exact key k cs _ (by decide) (by decide) hc) (fun j hj => absurd hj (Nat.not_lt_zero _)) (fun q cs hq => key q cs _ (by decide) (by decide) hq)
  · have hl : vs.length = M.length * 4 := ho.1
    refine ⟨_, by rw [List.length_append]; exact own_same o1 (fun k hk => Below.heap_setCell _ ⟨w.heap.size + 1 + 1, 1, none⟩ _ k (fun e => by
      have e : k = w.heap.size + 1 + 1 := e
      obtain ⟨cs, hc⟩ := own_type o1 hk
      rw [e, kv2'] at hc; cases hc)), fun k m' hm => ?_⟩
    by_cases hj : k < M.length
    · rw [List.getElem?_append_left hj] at hm
      obtain ⟨e0, e1, ⟨y, e2, e3⟩, e4⟩ := hi k m' hm
      refine ⟨?_, ?_, ⟨y, ?_, kI e3⟩, ?_⟩
      · rw [List.getElem?_append_left (by omega)]; exact e0
      · rw [List.getElem?_append_left (by omega)]; exact e1
      · rw [List.getElem?_append_left (by omega)]; exact e2
      · rw [List.getElem?_append_left (by omega)]; exact e4
    · have hj2 : k < (M ++ [m]).length := (List.getElem?_eq_some_iff.1 hm).1
      have : k = M.length := by simp at hj2; omega
      subst this
      rw [List.getElem?_append_right (by omega)] at hm
      simp at hm
      subst hm
      refine ⟨?_, ?_, ⟨x, ?_, kI hx⟩, ?_⟩
      · rw [List.getElem?_append_right (by omega), hl, Nat.sub_self]; rfl
      · rw [List.getElem?_append_right (by omega), hl, show M.length * 4 + 1 - M.length * 4 = 1 by omega]; rfl
      · rw [List.getElem?_append_right (by omega), hl, show M.length * 4 + 2 - M.length * 4 = 2 by omega]; rfl
      · rw [List.getElem?_append_right (by omega), hl, show M.length * 4 + 3 - M.length * 4 = 3 by omega]; rfl
/-- The map with one set more. -/
theorem VK.apart (h : VK w W nb ns nv mv SL NL M) : ns.ownBlock ≠ some nb := fun e => by
  obtain ⟨cs, hc⟩ := own_type h.ss e
  rw [h.mp] at hc; cases hc
theorem VK.ssM (h : VK w W nb ns nv mv SL NL M) (o : Obj) : OwnS (setMap W nb o) w.heap.size ns SL := own_same h.ss (fun j hj => heap_setMap_ne _ _ _ (fun e => h.apart (by rw [hj, e])))
/-- A set more: the map, the row. -/
theorem VK.set {W2 W3 : World} {ns' : Value} {S : Nat → Nat} (h : VK w W nb ns nv mv SL NL M) (hW3 : Below (setMap W nb (.map (entsS (SL ++ [S])) (SL.length + 1))).heap.size (setMap W nb (.map (entsS (SL ++ [S])) (SL.length + 1))) W3) (o1 : OwnS W2 w.heap.size ns' (SL ++ [S])) (g : W3.grownBy W2 ns.ownBlock) :
    VK w W2 nb ns' nv mv (SL ++ [S]) NL M ∧ ∀ q, q < W.heap.size → q ≠ nb → ns.ownBlock ≠ some q → W2.heap[q]? = W.heap[q]? := by
  have hnb := (Array.getElem?_eq_some_iff.1 h.mp).1
  have hz : W.heap.size ≤ W3.heap.size := by have := hW3.size; rwa [size_setMap] at this
  have k2 : ∀ q, q < W.heap.size → ns.ownBlock ≠ some q → W2.heap[q]? = (setMap W nb (.map (entsS (SL ++ [S])) (SL.length + 1))).heap[q]? := fun q hq hne => (g.block q (Nat.lt_of_lt_of_le hq hz) (fun e => hne e.symm)).trans (hW3.block q (by rw [size_setMap]; exact hq))
  have key : ∀ q, q < W.heap.size → q ≠ nb → ns.ownBlock ≠ some q → W2.heap[q]? = W.heap[q]? := fun q hq hn hne => (k2 q hq hne).trans (heap_setMap_ne _ _ _ hn)
  have hnot : ∀ (q : Nat) (cs : Array Value) (t : TypeId), t ≠ 85 → W.heap[q]? = some (.cells cs t (0, 0)) → W2.heap[q]? = W.heap[q]? := fun q cs t ht hq => key q (Array.getElem?_eq_some_iff.1 hq).1 (fun e => by rw [e, h.mp] at hq; cases hq) (fun e => by
    obtain ⟨c2, h2⟩ := own_type h.ss e
    rw [hq] at h2; cases h2; exact ht rfl)
  have hk4 : W.heap[w.heap.size + 1]? = some (.cells #[.slice none 0 0, .slice none 0 0] 72 (0, 0)) := h.k4
  have hkv : W.heap[w.heap.size + 1 + 1]? = some (.cells #[nv, mv] 72 (0, 0)) := h.kv
  have szS : W.heap.size ≤ W2.heap.size := Nat.le_trans hz g.size
  obtain ⟨us, hu, -⟩ := id h.on
  obtain ⟨us', hu', -⟩ := id h.om
  refine ⟨⟨?_, (hnot _ _ _ (by decide) hk4).trans hk4, (hnot _ _ _ (by decide) hkv).trans hkv, o1, ?_, h.ln, ?_, ?_⟩, key⟩
  · have b1 : Below w.heap.size w (setMap W nb (.map (entsS (SL ++ [S])) (SL.length + 1))) := Below.mapV h.bel h.ln _
    exact (b1.trans (hW3.mono (by rw [size_setMap]; exact h.bel.size))).grown g (Nat.le_trans h.bel.size hz) (fun j hj => (World.ownsRow.lt h.ss j hj).1)
  · rw [k2 nb hnb h.apart, heap_setMap _ _ hnb, List.length_append]; rfl
  · exact h.on.kept szS (fun k hk => by
      obtain ⟨cs, hc⟩ := own_type hu hk
      exact hnot k cs _ (by decide) hc) (fun j hj => absurd hj (Nat.not_lt_zero _)) (fun q cs hq => hnot q cs _ (by decide) hq)
  · exact h.om.kept szS (fun k hk => by
      obtain ⟨cs, hc⟩ := own_type hu' hk
      exact hnot k cs _ (by decide) hc) (fun j hj => absurd hj (Nat.not_lt_zero _)) (fun q cs hq => hnot q cs _ (by decide) hq)
/-- At the end: what is handed back. -/
theorem VK.fin {s : VS} (h : VK w W nb ns nv mv SL s.1 s.2) (h1 : s.1.length ≤ 64) (h2 : s.2.length ≤ 4096) : ∃ L : VL, nv = .slice L.na s.1.length L.nc ∧ mv = .slice L.ma s.2.length L.mc ∧
    ∀ X : World, ((W.setCell ⟨w.heap.size + 1, 0, none⟩ nv).setCell ⟨w.heap.size + 1, 1, none⟩ mv).heap.size ≤ X.heap.size → (∀ j, w.heap.size ≤ j → j < ((W.setCell ⟨w.heap.size + 1, 0, none⟩ nv).setCell ⟨w.heap.size + 1, 1, none⟩ mv).heap.size → X.heap[j]? = ((W.setCell ⟨w.heap.size + 1, 0, none⟩ nv).setCell ⟨w.heap.size + 1, 1, none⟩ mv).heap[j]?) → (∀ (q : Nat) (cs : Array Value), ((W.setCell ⟨w.heap.size + 1, 0, none⟩ nv).setCell ⟨w.heap.size + 1, 1, none⟩ mv).heap[q]? = some (.cells cs 3 (0, 0)) → X.heap[q]? = ((W.setCell ⟨w.heap.size + 1, 0, none⟩ nv).setCell ⟨w.heap.size + 1, 1, none⟩ mv).heap[q]?) → VAt X s L := by
  have k4 : W.heap[w.heap.size + 1]? = some (.cells #[.slice none 0 0, .slice none 0 0] 72 (0, 0)) := h.k4
  have hs : ∀ q, q ≠ w.heap.size + 1 → ((W.setCell ⟨w.heap.size + 1, 0, none⟩ nv).setCell ⟨w.heap.size + 1, 1, none⟩ mv).heap[q]? = W.heap[q]? := fun q hq => by
    rw [Below.heap_setCell _ _ _ _ (show q ≠ w.heap.size + 1 from hq), Below.heap_setCell _ _ _ _ (show q ≠ w.heap.size + 1 from hq)]
  have hz : W.heap.size ≤ ((W.setCell ⟨w.heap.size + 1, 0, none⟩ nv).setCell ⟨w.heap.size + 1, 1, none⟩ mv).heap.size := by simp [World.setCell]
  have hint : ∀ (q : Nat) (cs : Array Value), W.heap[q]? = some (.cells cs 3 (0, 0)) → ((W.setCell ⟨w.heap.size + 1, 0, none⟩ nv).setCell ⟨w.heap.size + 1, 1, none⟩ mv).heap[q]? = W.heap[q]? := fun q cs hq => hs q (fun e => by rw [e, k4] at hq; cases hq)
  obtain ⟨vs, ho, -⟩ := id h.on
  obtain ⟨us, hu, -⟩ := id h.om
  have on' := h.on.kept hz (fun k hk => hs k (fun e => by obtain ⟨cs, hc⟩ := own_type ho hk; rw [e, k4] at hc; cases hc)) (fun j hj => absurd hj (Nat.not_lt_zero _)) hint
  have om' := h.om.kept hz (fun k hk => hs k (fun e => by obtain ⟨cs, hc⟩ := own_type hu hk; rw [e, k4] at hc; cases hc)) (fun j hj => absurd hj (Nat.not_lt_zero _)) hint
  revert on' om'
  generalize (W.setCell ⟨w.heap.size + 1, 0, none⟩ nv).setCell ⟨w.heap.size + 1, 1, none⟩ mv = V
  intro on' om'
  obtain ⟨na, nc, e1, -⟩ := on'.at2
  obtain ⟨ma, mc, e2, -⟩ := om'.at
  refine ⟨⟨na, nc, ma, mc⟩, e1, e2, fun X x1 x2 x3 => ?_⟩
  obtain ⟨vs', ho', -⟩ := id on'
  obtain ⟨us', hu', -⟩ := id om'
  have onX := on'.kept x1 (fun k hk => x2 k (World.ownsRow.lt ho' k hk).1 (World.ownsRow.lt ho' k hk).2) (fun j hj => absurd hj (Nat.not_lt_zero _)) x3
  have omX := om'.kept x1 (fun k hk => x2 k (World.ownsRow.lt hu' k hk).1 (World.ownsRow.lt hu' k hk).2) (fun j hj => absurd hj (Nat.not_lt_zero _)) x3
  obtain ⟨na', nc', e1', a1⟩ := onX.at2
  obtain ⟨ma', mc', e2', a2⟩ := omX.at
  rw [e1] at e1'
  rw [e2] at e2'
  cases e1'
  cases e2'
  exact ⟨a1, a2, h1, h2⟩
end

end Go.Proofs.YtmlkpdeidpcidaaDoor
