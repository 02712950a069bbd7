/-
  What the walk of jalousieref13.Twins knows of the memory.
-/
import Derived.Test.YtmkmfcdlaojkfaaDoorG24
namespace Go.Proofs.YtmkmfcdlaojkfaaDoor
open Go.RowKit
set_option linter.unusedVariables false
set_option maxRecDepth 100000

theorem Tryd.infoEdge13 : (Tryd.prog.info? 131).map (fun i => (i.zero, i.size, i.bytes)) = some (some (.agg #[.int .i64 0, .int .i64 0, .bool false]), 3, 24) := by kernel_rfl
def OwnW (W : World) (B : Nat) (v : Value) (L : List Tw) : Prop := W.ownsRow B 133 3 v L.length (aflat (L.map tA))
theorem ownW_nil (W : World) (B : Nat) : OwnW W B (.slice none 0 0) [] := World.ownsRow_nil _ _ _ _
theorem ownW_snoc {W : World} {B : Nat} {v : Value} {L : List Tw} {y : Tw} (h : W.ownsRow B 133 3 v (L.length + 1) (aflat (L.map tA) ++ [.int .i64 y.1, .int .i64 y.2.1, .int .i64 y.2.2])) : OwnW W B v (L ++ [y]) := by
  unfold OwnW
  rw [List.length_append, List.map_append, aflat_append]
  exact h
theorem OwnT.toW {W : World} {B : Nat} {v : Value} {P : List TwB} (h : OwnT W B v P) : OwnW W B v (P.map (·.1)) := by
  unfold OwnW
  rw [List.length_map, List.map_map]
  exact h
/-- A row of twins as it is read. -/
theorem OwnW.at {W : World} {B : Nat} {v : Value} {L : List Tw} (h : OwnW W B v L) : ∃ a cap, v = .slice a L.length cap ∧ AtT W a L ∧ L.length ≤ maxLen := by
  rcases h.2 with ⟨rfl, hn⟩ | ⟨g, cap, cur, rfl, hg, hh, hnc, hcm, hcs, ht⟩
  · have : L = [] := List.eq_nil_of_length_eq_zero hn
    subst this
    exact ⟨none, 0, rfl, .inl rfl, Nat.zero_le _⟩
  · refine ⟨_, cap, rfl, .inr ⟨g, 0, rfl, (Array.getElem?_eq_some_iff.1 hh).1, fun j hj => ?_⟩, Nat.le_trans hnc hcm⟩
    obtain ⟨h1, h2, h3⟩ := aflat_at hj
    have c1 := World.ownsRow.cells (g := g) h rfl _ _ h1
    have c2 := World.ownsRow.cells (g := g) h rfl _ _ h2
    have c3 := World.ownsRow.cells (g := g) h rfl _ _ h3
    rw [addr0_add] at c1 c2 c3
    exact ⟨c1, c2, c3⟩
theorem ownW_at {W : World} {B n c : Nat} {a : Option Addr} {L : List Tw} (h : OwnW W B (.slice a n c) L) : AtT W a L := by
  obtain ⟨q, cap, e, hat, -⟩ := h.at
  cases e
  exact hat
def eflat (E : List Edg) : List Value := E.flatMap fun e => [.int .i64 e.1, .int .i64 e.2.1, .bool e.2.2]
theorem eflat_snoc (E : List Edg) (e : Edg) : eflat (E ++ [e]) = eflat E ++ [.int .i64 e.1, .int .i64 e.2.1, .bool e.2.2] := by
  unfold eflat
  rw [List.flatMap_append]
  simp
theorem eflat_at : ∀ {E : List Edg} {k : Nat} {e : Edg}, E[k]? = some e → (eflat E)[k * 3]? = some (.int .i64 e.1) ∧ (eflat E)[k * 3 + 1]? = some (.int .i64 e.2.1) ∧ (eflat E)[k * 3 + 2]? = some (.bool e.2.2)
  | [], k, e, h => by simp at h
  | a :: r, 0, e, h => by
    have : a = e := by simpa using h
    subst this
    simp [eflat]
  | a :: r, k + 1, e, h => by
    have := eflat_at (E := r) (k := k) (e := e) (by simpa using h)
    rw [show (k + 1) * 3 = k * 3 + 1 + 1 + 1 by omega]
    simpa [eflat] using this
def OwnE (W : World) (B : Nat) (v : Value) (E : List Edg) : Prop := W.ownsRow B 131 3 v E.length (eflat E)
theorem ownE_nil (W : World) (B : Nat) : OwnE W B (.slice none 0 0) [] := World.ownsRow_nil _ _ _ _
theorem ownE_snoc {W : World} {B : Nat} {v : Value} {E : List Edg} {e : Edg} (h : W.ownsRow B 131 3 v (E.length + 1) (eflat E ++ [.int .i64 e.1, .int .i64 e.2.1, .bool e.2.2])) : OwnE W B v (E ++ [e]) := by
  unfold OwnE
  rw [List.length_append, eflat_snoc]
  exact h
theorem OwnE.get {W : World} {B n c : Nat} {a : Option Addr} {E : List Edg} (h : OwnE W B (.slice a n c) E) {k : Nat} {e : Edg} (hk : E[k]? = some e) : ∃ g, a = some ⟨g, 0, none⟩ ∧ g < W.heap.size ∧ W.cell? ⟨g, 0 + k * 3, none⟩ = some (.int .i64 e.1) ∧ W.cell? ⟨g, 0 + k * 3 + 1, none⟩ = some (.int .i64 e.2.1) ∧ W.cell? ⟨g, 0 + k * 3 + 2, none⟩ = some (.bool e.2.2) := by
  have hl := (List.getElem?_eq_some_iff.1 hk).1
  rcases h.2 with ⟨e0, hn⟩ | ⟨g, cap, cur, e0, hg, hh, hnc, hcm, hcs, ht⟩
  · omega
  · cases e0
    obtain ⟨h1, h2, h3⟩ := eflat_at hk
    have c1 := World.ownsRow.cells (g := g) h rfl _ _ h1
    have c2 := World.ownsRow.cells (g := g) h rfl _ _ h2
    have c3 := World.ownsRow.cells (g := g) h rfl _ _ h3
    rw [addr0_add] at c1 c2 c3
    exact ⟨g, rfl, (Array.getElem?_eq_some_iff.1 hh).1, c1, c2, c3⟩
theorem OwnL.get {W : World} {B n c : Nat} {a : Option Addr} {P : List TwB} (h : OwnL W B (.slice a n c) P) {k : Nat} {y : TwB} (hk : P[k]? = some y) : ∃ g, a = some ⟨g, 0, none⟩ ∧ W.cell? ⟨g, 0 + k, none⟩ = some (.bool y.2) := by
  have hl := (List.getElem?_eq_some_iff.1 hk).1
  rcases h.2 with ⟨e0, hn⟩ | ⟨g, cap, cur, e0, hg, hh, hnc, hcm, hcs, ht⟩
  · omega
  · cases e0
    have h1 : (bflat P)[k]? = some (.bool y.2) := by unfold bflat; rw [List.getElem?_map, hk]; rfl
    have c1 := World.ownsRow.cells (g := g) h rfl _ _ h1
    rw [addr0_add] at c1
    exact ⟨g, rfl, c1⟩
/-- What Twins knows of the memory. -/
structure T13 (w W : World) (m : Mach) (l : ML) (v u A C : Value) (L : List Tw) (E : List Edg) (ys : List TwB) : Prop where
  bel : Below w.heap.size w W
  km : Blk W w.heap.size 25 (mcells m l)
  ov : OwnW W (w.heap.size + 1) v L
  ou : OwnE W (w.heap.size + 1) u E
  oa : OwnT W (w.heap.size + 1) A ys
  oc : OwnL W (w.heap.size + 1) C ys
  ap : A.ownBlock = none ∨ A.ownBlock ≠ v.ownBlock
  hB : w.heap.size + 1 ≤ W.heap.size
section
variable {w W : World} {m : Mach} {l : ML} {v u A C : Value} {L : List Tw} {E : List Edg} {ys : List TwB}
theorem T13.below {W' : World} (h : T13 w W m l v u A C L E ys) (hb : Below W.heap.size W W') : T13 w W' m l v u A C L E ys :=
  ⟨h.bel.trans (hb.mono h.bel.size), h.km.below hb h.km.lt, own_below13 h.ov hb, own_below13 h.ou hb, own_below13 h.oa hb, own_below13 h.oc hb, h.ap, Nat.le_trans h.hB hb.size⟩
theorem T13.pushW {W2 : World} {v' : Value} {y : Tw} (h : T13 w W m l v u A C L E ys) (o1 : W2.ownsRow (w.heap.size + 1) 133 3 v' (L.length + 1) (aflat (L.map tA) ++ [.int .i64 y.1, .int .i64 y.2.1, .int .i64 y.2.2])) (g : W.grownBy W2 v.ownBlock) (n9 : v'.ownBlock = v.ownBlock ∨ v'.ownBlock = some W.heap.size) : T13 w W2 m l v' u A C (L ++ [y]) E ys := by
  have low : ∀ j, j < w.heap.size + 1 → W2.heap[j]? = W.heap[j]? := fun j hj => g.block j (Nat.lt_of_lt_of_le hj h.hB) (fun e => by have := (World.ownsRow.lt h.ov j e.symm).1; omega)
  have hty : ∀ {z : Value} {t : TypeId} {s n : Nat} {xs : List Value}, t ≠ 133 → W.ownsRow (w.heap.size + 1) t s z n xs → W2.ownsRow (w.heap.size + 1) t s z n xs := fun ht ho => own_same ho (fun k hk => by
    obtain ⟨c1, h1⟩ := own_type ho hk
    refine g.block k (World.ownsRow.lt ho k hk).2 (fun e => ?_)
    obtain ⟨c2, h2⟩ := own_type h.ov e.symm
    rw [h1] at h2; cases h2; exact ht rfl)
  refine ⟨h.bel.grown g h.bel.size (fun j hj => by have := (World.ownsRow.lt h.ov j hj).1; omega), (low _ (by omega)).trans h.km, ownW_snoc o1, hty (by decide) h.ou, own_same h.oa (fun k hk => ?_), hty (by decide) h.oc, ?_, Nat.le_trans h.hB g.size⟩
  · refine g.block k (World.ownsRow.lt h.oa k hk).2 (fun e => ?_)
    rcases h.ap with q | q
    · rw [q] at hk; cases hk
    · exact q (by rw [hk, e])
  · rcases h.ap with q | q
    · exact .inl q
    · rcases n9 with e | e
      · right; rw [e]; exact q
      · right
        rw [e]
        intro e2
        have := (World.ownsRow.lt h.oa _ e2).2
        omega
theorem T13.pushE {W2 : World} {u' : Value} {e : Edg} (h : T13 w W m l v u A C L E ys) (o1 : W2.ownsRow (w.heap.size + 1) 131 3 u' (E.length + 1) (eflat E ++ [.int .i64 e.1, .int .i64 e.2.1, .bool e.2.2])) (g : W.grownBy W2 u.ownBlock) : T13 w W2 m l v u' A C L (E ++ [e]) ys := by
  have low : ∀ j, j < w.heap.size + 1 → W2.heap[j]? = W.heap[j]? := fun j hj => g.block j (Nat.lt_of_lt_of_le hj h.hB) (fun e => by have := (World.ownsRow.lt h.ou j e.symm).1; omega)
  have hty : ∀ {z : Value} {t : TypeId} {s n : Nat} {xs : List Value}, t ≠ 131 → W.ownsRow (w.heap.size + 1) t s z n xs → W2.ownsRow (w.heap.size + 1) t s z n xs := fun ht ho => own_same ho (fun k hk => by
    obtain ⟨c1, h1⟩ := own_type ho hk
    refine g.block k (World.ownsRow.lt ho k hk).2 (fun e => ?_)
    obtain ⟨c2, h2⟩ := own_type h.ou e.symm
    rw [h1] at h2; cases h2; exact ht rfl)
  exact ⟨h.bel.grown g h.bel.size (fun j hj => by have := (World.ownsRow.lt h.ou j hj).1; omega), (low _ (by omega)).trans h.km, hty (by decide) h.ov, ownE_snoc o1, hty (by decide) h.oa, hty (by decide) h.oc, h.ap, Nat.le_trans h.hB g.size⟩
/-- What leads has made lies apart. -/
theorem T13.led {W2 : World} {A' C' : Value} {ys' : List TwB} (h : T13 w W m l v u A C L E ys) (hb : Below W.heap.size W W2) (ha : OwnT W2 W.heap.size A' ys') (hc : OwnL W2 W.heap.size C' ys') : T13 w W2 m l v u A' C' L E ys' := by
  have h2 := h.below hb
  refine ⟨h2.bel, h2.km, h2.ov, h2.ou, own_low13 ha h.hB, own_low13 hc h.hB, ?_, h2.hB⟩
  cases hk : A'.ownBlock with
  | none => exact .inl rfl
  | some k =>
    right
    intro e
    have h3 := (World.ownsRow.lt ha k hk).1
    have h4 := (World.ownsRow.lt h.ov k e.symm).2
    omega
theorem T13.drop {m' : Mach} (h : T13 w W m l v u A C L E ys) : T13 w W m l v u (.slice none 0 0) (.slice none 0 0) L E [] := ⟨h.bel, h.km, h.ov, h.ou, ownT_nil _ _, ownL_nil _ _, .inl rfl, h.hB⟩
end
/-- What Twins hands back. -/
def TwinsPost (w : World) (s : List Tw × List Edg) (e : Ending) (w' : World) : Prop := ∃ v u, e = .returned (.tuple #[v, u]) ∧ OwnW w' w.heap.size v s.1 ∧ OwnE w' w.heap.size u s.2 ∧ Below w.heap.size w w'
def twT (ns : List Int) (bs : List Int) : List Tw := ns.flatMap fun a => bs.map fun b => (a, b, 0)
theorem twT_snoc (ns bs : List Int) (a : Int) : twT (ns ++ [a]) bs = twT ns bs ++ bs.map fun b => (a, b, 0) := by
  unfold twT
  rw [List.flatMap_append]
  simp
theorem twT_len (bs : List Int) : ∀ ns : List Int, (twT ns bs).length = ns.length * bs.length
  | [] => by simp [twT]
  | a :: r => by
    have ih := twT_len bs r
    unfold twT at ih ⊢
    rw [List.flatMap_cons, List.length_append, List.length_map, ih, List.length_cons, Nat.succ_mul, Nat.add_comm]
theorem nRow_snoc {k : Nat} {s : List Tw × List Edg} {ys : List TwB} {y : TwB} : nRow k s (ys ++ [y]) = nAdd k (nRow k s ys) y := by unfold nRow; rw [List.foldl_append]; rfl
theorem idx_lt13 {σ : Type} [DecidableEq σ] {L : List σ} {y : σ} (h : y ∈ L) : idxG L y < L.length := List.idxOf_lt_length_iff.2 h
theorem idx_len13 {σ : Type} [DecidableEq σ] {L : List σ} {y : σ} (h : y ∉ L) : idxG L y = L.length := by
  have h1 := List.idxOf_le_length (a := y) (l := L)
  have h2 : ¬ L.idxOf y < L.length := fun q => h (List.idxOf_lt_length_iff.1 q)
  unfold idxG
  omega
theorem nAdd_old {k : Nat} {L : List Tw} {E : List Edg} {y : TwB} (h : y.1 ∈ L) : nAdd k (L, E) y = (L, E ++ [(k, idxG L y.1, y.2)]) ∧ idxG L y.1 < L.length := by
  refine ⟨?_, idx_lt13 h⟩
  unfold nAdd cAdd
  rw [if_pos h]
theorem nAdd_new {k : Nat} {L : List Tw} {E : List Edg} {y : TwB} (h : y.1 ∉ L) : nAdd k (L, E) y = (L ++ [y.1], E ++ [(k, idxG L y.1, y.2)]) ∧ idxG L y.1 = L.length := by
  constructor
  · unfold nAdd cAdd
    rw [if_neg h]
  · exact idx_len13 h
theorem nRow_len2 {k : Nat} : ∀ (ys : List TwB) (s : List Tw × List Edg), (nRow k s ys).2.length = s.2.length + ys.length
  | [], s => rfl
  | y :: r, s => by
    have := nRow_len2 (k := k) r (nAdd k s y)
    show (nRow k (nAdd k s y) r).2.length = _
    rw [this]
    unfold nAdd
    simp
    omega
end Go.Proofs.YtmkmfcdlaojkfaaDoor
