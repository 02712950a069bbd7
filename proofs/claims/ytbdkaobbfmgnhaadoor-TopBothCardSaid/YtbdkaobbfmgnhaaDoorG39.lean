/-
  The walks of finder.fits and finder.number.
  The finder's rows of starts, of arrows and of ends: one element more.
  The walk of finder.begin.
  slices.SortFunc at arrows, by where they lead to: what it leaves of the finder's row of arrows.
  The walk of finder.lead.
  A row of integers as the kit's words for sorting and reversing put it.
  The walk of jalousieref7.Within.
-/
import Derived.Deep.RegionWith
import Derived.Test.YtbdkaobbfmgnhaaDoorG38
import Derived.Test.YtbdkaobbfmgnhaaDoorG08
import Derived.Test.YtbdkaobbfmgnhaaDoorG37
import Derived.Shelf.Slices.Reverse
import Derived.Test.YtbdkaobbfmgnhaaDoorG04
import Derived.Test.YtbdkaobbfmgnhaaDoorG28
namespace Go.Proofs.YtbdkaobbfmgnhaaDoor
open Go.RowKit
set_option linter.unusedVariables false

theorem fits_any (B : Nat) (W : World) (bf br : Nat) (st ev : Int) (vs va ve vp : Value) (S : List Int) (A : List Arr) (E : List Int) (P : List (Int × Int)) (h : Hid (FD B W bf br st ev vs va ve vp S A E P)) (hl : A.length ≤ 1000000000) :
    Calls Tryd.prog 104 #[.pointer (some ⟨bf, 0, none⟩)] W fun e W' => e = .returned (.bool (decide (st ≤ 256) && decide ((A.length : Int) ≤ 4096))) ∧ W' = W := by
  obtain ⟨c0, c1, c2, c3, c4, c5, c6⟩ := h.out.cells
  obtain ⟨aa, ac, hva, -, ha1, ha2, ha3⟩ := h.out.ar.at
  subst hva
  have hb := h.out.blk.lt
  by_cases h1 : st ≤ 256
  · have d1 : decide (st ≤ 256) = true := by simpa using h1
    rw [d1]
    go_enter Tryd.func104, Tryd.ntmps104
    go_wp2
    go_ret
    exact ⟨rfl, rfl⟩
  · have d1 : decide (st ≤ 256) = false := by simpa using h1
    rw [d1]
    go_enter Tryd.func104, Tryd.ntmps104
    go_wp2
    go_ret
    exact ⟨rfl, rfl⟩

theorem cell_setMap (W : World) (b : Nat) (o : Obj) {j k : Nat} (h : j ≠ b) : (setMap W b o).cell? ⟨j, k, none⟩ = W.cell? ⟨j, k, none⟩ := World.cell?_of_block (w := W) (heap_setMap_ne W b o h)
theorem cells_two (W W' : World) (hW : W'.heap = W.heap) (t : TypeId) (x y : Value) : ∀ j u, ([x, y] : List Value)[j]? = some u → (W'.alloc (.cells #[x, y] t)).cell? ((⟨W.heap.size, 0, none⟩ : Addr).add j) = some u := by
  intro j u hu
  rw [addr0_add, Nat.zero_add, ← hW]
  exact (Blk.new W' t #[x, y]).cell j (by rw [← Array.getElem?_toList]; exact hu)
/-- The pairs, and one more if it is new. -/
def addP (P : List (Int × Int)) (p : Int × Int) : List (Int × Int) := if findP P p.1 p.2 = P.length then P ++ [p] else P

set_option maxHeartbeats 4000000 in
set_option maxRecDepth 100000 in
theorem number_known (B : Nat) (W : World) (bf br : Nat) (ev : Int) (vs va ve vp : Value) (S : List Int) (A : List Arr) (E : List Int) (P : List (Int × Int)) (x y : Int) (h : Hid (FD B W bf br P.length ev vs va ve vp S A E P)) (hp : Hid (StP (x, y))) (hk : Hid (¬ findP P x y = P.length)) :
    Calls Tryd.prog 103 #[.pointer (some ⟨bf, 0, none⟩), .agg #[.int .i64 x, .int .i64 y]] W fun e W' => e = .returned (.int .i64 (findP P x y : Nat)) ∧ Below W.heap.size W W' := by
  obtain ⟨c0, c1, c2, c3, c4, c5, c6⟩ := h.out.cells
  have hb := h.out.blk.lt
  have hlk : (Instr.lookup 74 (.map (some br)) (.agg #[.int .i64 x, .int .i64 y]) true).run Tryd.prog (W.alloc (.cells #[.int .i64 x, .int .i64 y] 135)).drew = .ok (.tuple #[.int .i64 (findP P x y : Nat), .bool true]) (W.alloc (.cells #[.int .i64 x, .int .i64 y] 135)).drew := look_known h.out.cr h.out.nd hp.out (h.out.alloc _).drew.mp hk.out
  go_enter Tryd.func103, Tryd.ntmps103
  go_wp2_with fail
  go_region_held3 (fun w' => w'.cell? ⟨bf, 6, none⟩ = some (.map (some br)) ∧ w'.cell? ⟨W.heap.size, 0, none⟩ = some (.int .i64 x) ∧ w'.cell? ⟨W.heap.size, 1, none⟩ = some (.int .i64 y)) (go_keep) (fail)
  go_wp2_with fail
  go_ret
  exact ⟨rfl, ((Below.refl _ _).alloc (Nat.le_refl _) _).drew⟩

set_option maxHeartbeats 4000000 in
set_option maxRecDepth 100000 in
theorem number_new (B : Nat) (W : World) (bf br : Nat) (ev : Int) (vs va ve vp : Value) (S : List Int) (A : List Arr) (E : List Int) (P : List (Int × Int)) (x y : Int) (h : Hid (FD B W bf br P.length ev vs va ve vp S A E P)) (hp : Hid (StP (x, y))) (hk : Hid (findP P x y = P.length)) (hl : P.length ≤ 1000000) :
    Calls Tryd.prog 103 #[.pointer (some ⟨bf, 0, none⟩), .agg #[.int .i64 x, .int .i64 y]] W fun e W' => e = .returned (.int .i64 (P.length : Nat)) ∧ ∃ vp', FD B W' bf br (P ++ [(x, y)]).length ev vs va ve vp' S A E (P ++ [(x, y)]) ∧ Turn (FF bf br vs va ve vp) (FF bf br vs va ve vp') W W' := by
  obtain ⟨c0, c1, c2, c3, c4, c5, c6⟩ := h.out.cells
  have hb := h.out.blk.lt
  have hlk : (Instr.lookup 74 (.map (some br)) (.agg #[.int .i64 x, .int .i64 y]) true).run Tryd.prog (W.alloc (.cells #[.int .i64 x, .int .i64 y] 135)).drew = .ok (.tuple #[.int .i64 0, .bool false]) (W.alloc (.cells #[.int .i64 x, .int .i64 y] 135)).drew := look_new h.out.cr h.out.nd hp.out (h.out.alloc _).drew.mp hk.out
  have H1 := Hid.of (h.out.alloc (.cells #[.int .i64 x, .int .i64 y] 135)).drew
  have K1 := Hid.of (Blk.new W 135 #[.int .i64 x, .int .i64 y])
  go_enter Tryd.func103, Tryd.ntmps103
  go_wp2_with fail
  go_region_held3 (fun w' => w'.cell? ⟨bf, 6, none⟩ = some (.map (some br)) ∧ w'.cell? ⟨W.heap.size, 0, none⟩ = some (.int .i64 x) ∧ w'.cell? ⟨W.heap.size, 1, none⟩ = some (.int .i64 y)) (go_keep) (fail)
  have X1 := Hid.of (show Below W.heap.size W (W.alloc (.cells #[.int .i64 x, .int .i64 y] 135)).drew from ((Below.refl _ _).alloc (Nat.le_refl _) _).drew)
  have Y1 := Hid.of (show (W.alloc (.cells #[.int .i64 x, .int .i64 y] 135)).drew.heap.size = W.heap.size + 1 from by simp [World.drew])
  have K2 : Hid (Blk (W.alloc (.cells #[.int .i64 x, .int .i64 y] 135)).drew W.heap.size 135 #[.int .i64 x, .int .i64 y]) := K1.out.drew
  clear hlk K1 c0 c1 c2 c3 c4 c5 c6
  revert H1 X1 Y1 K2
  generalize (W.alloc (.cells #[.int .i64 x, .int .i64 y] 135)).drew = V
  intro H1 X1 Y1 K2
  obtain ⟨c0, c1, c2, c3, c4, c5, c6⟩ := H1.out.cells
  have k0 : V.cell? ⟨W.heap.size, 0, none⟩ = some (.int .i64 x) := K2.out.cell 0 rfl
  have k1 : V.cell? ⟨W.heap.size, 1, none⟩ = some (.int .i64 y) := K2.out.cell 1 rfl
  have hb1 := H1.out.blk.lt
  have hb2 := K2.out.lt
  go_wp2_with fail
  have hup : (Instr.mapUpdate 74 (.map (some br)) (.agg #[.int .i64 x, .int .i64 y]) (.int .i64 (P.length : Nat))).run Tryd.prog V.drew = .ok () (setMap V.drew br (.map (entsP (P ++ [(x, y)])) (P.length + 1))) := by
    have := upd_new (p := (x, y)) H1.out.cr H1.out.nd hp.out H1.out.drew.mp hk.out
    rwa [List.length_append] at this
  have n1 := Hid.of H1.out.apart.1
  have n2 : Hid (W.heap.size ≠ br) := fun e => by
    have h1 := H1.out.mp
    rw [← e, show V.heap[W.heap.size]? = _ from K2.out] at h1; cases h1
  have HM : Hid (∀ j k : Nat, j ≠ br → (setMap V.drew br (.map (entsP (P ++ [(x, y)])) (P.length + 1))).cell? ⟨j, k, none⟩ = V.cell? ⟨j, k, none⟩) := fun j k hj => cell_setMap V.drew br _ hj
  have s6 := (HM.out bf 6 n1.out).trans c6
  have s0 := (HM.out W.heap.size 0 n2.out).trans k0
  have s1 := (HM.out W.heap.size 1 n2.out).trans k1
  go_region_held3 (fun w' => w'.cell? ⟨bf, 6, none⟩ = some (.map (some br)) ∧ w'.cell? ⟨W.heap.size, 0, none⟩ = some (.int .i64 x) ∧ w'.cell? ⟨W.heap.size, 1, none⟩ = some (.int .i64 y)) (go_keep) (fail)
  have X2 := Hid.of (show Below W.heap.size W V.drew from X1.out.drew)
  have m5 := (HM.out bf 5 n1.out).trans c5
  have m0 := (HM.out bf 0 n1.out).trans c0
  have O2 : Hid (OwnP (setMap V.drew br (.map (entsP (P ++ [(x, y)])) (P.length + 1))) B vp P) := own_same H1.out.ps (fun k hk => heap_setMap_ne V.drew br _ (fun e => (H1.out.apart.2 vp (by simp)).2 (by rw [hk, e])))
  have b2 : Hid (B ≤ (setMap V.drew br (.map (entsP (P ++ [(x, y)])) (P.length + 1))).heap.size) := show B ≤ _ by rw [size_setMap]; exact Nat.le_trans H1.out.lof (Nat.le_of_lt H1.out.blk.lt)
  have l2 : bf < (setMap V.drew br (.map (entsP (P ++ [(x, y)])) (P.length + 1))).heap.size := by rw [size_setMap]; exact hb1
  have l3 : W.heap.size < (setMap V.drew br (.map (entsP (P ++ [(x, y)])) (P.length + 1))).heap.size := by rw [size_setMap]; exact hb2
  clear c0 c1 c2 c3 c4 c5 c6 k0 k1 hup HM hb1 hb2 s6
  obtain ⟨pa, pc, hvp, hpc1, hpc2, hpc3⟩ := own_form2 H1.out.ps
  subst hvp
  obtain ⟨i0, hi, hz0, hz1, hz2⟩ := info_parts Tryd.infoPair
  obtain ⟨M, hM⟩ : ∃ M, M = setMap V.drew br (.map (entsP (P ++ [(x, y)])) (P.length + 1)) := ⟨_, rfl⟩
  have HM := Hid.of hM
  rw [← hM] at s0 s1 m5 m0 O2 b2 l2 l3 ⊢
  clear hM
  have nM := World.new_ne M _ m5
  have nM2 := World.new_ne M _ s0
  go_wp2_with fail
  have BX : Hid (∀ (w9 : World), (M.drew.alloc (.cells #[.int .i64 x, .int .i64 y] 135)).grownBy w9 (Value.slice pa P.length pc).ownBlock → ∀ (j : Nat) (u : Value), M.cell? ⟨W.heap.size, j, none⟩ = some u → w9.cell? ⟨W.heap.size, j, none⟩ = some u) := fun w9 g j u hu => by
    have h1 : w9.heap[W.heap.size]? = M.heap[W.heap.size]? := by
      rw [g.block W.heap.size (by rw [World.size_alloc]; exact Nat.lt_succ_of_lt l3) (fun e => by have := (World.ownsRow.lt h.out.ps _ e.symm).2; omega)]
      exact (((Below.refl M.heap.size M).drew).alloc (Nat.le_refl _) _).block _ l3
    exact (World.cell?_of_block (w := M) h1).trans hu
  go_region_law (first | (refine step_append_block rfl (.tmp 33) (.tmp 35) 75 rfl B 135 i0 (.agg #[.int .i64 0, .int .i64 0]) 2 16 Tryd.underlying75 hi hz0 hz1 hz2 rfl (by decide) _ P.length (pflat P) rfl (World.ownsRow.alloc (own_same O2.out (fun _ _ => rfl)) _) ⟨M.heap.size, 0, none⟩ 1 1 [.int .i64 x, .int .i64 y] rfl rfl (cells_two M _ rfl _ _ _) (by intro u hu; simp at hu; rcases hu with rfl | rfl <;> rfl) (by decide) (by unfold maxLen; omega) (by omega) (Nat.le_trans b2.out (((Below.refl _ M).drew).alloc (Nat.le_refl _) _).size) ?_; intro v9 w9 o9 g9 n9; obtain ⟨ga, gc, hv9, -, -, -⟩ := own_form2 o9; subst hv9; obtain ⟨e1, e2⟩ := FD.push (W1 := V.drew) h.out X2.out hk.out hp.out (by rw [← HM.out]; exact ((Below.refl _ M).drew).alloc (Nat.le_refl _) _) o9 g9 n9 ((P.length : Int) + 1); have z5 := e1.cell 5 rfl; have z0 := e1.cell 0 rfl; have y0 : w9.cell? ⟨W.heap.size, 0, none⟩ = some (.int .i64 x) := BX.out _ g9 0 _ s0; have y1 : w9.cell? ⟨W.heap.size, 1, none⟩ = some (.int .i64 y) := BX.out _ g9 1 _ s1; have zf := e1.frozen; have E2 := Hid.of e2; clear e2 o9 g9 n9))
  all_goals (go_wp2_with fail; go_ret; exact ⟨rfl, _, by rw [List.length_append]; exact E2.out.1, E2.out.2⟩)

theorem number_any (B : Nat) (W : World) (bf br : Nat) (ev : Int) (vs va ve vp : Value) (S : List Int) (A : List Arr) (E : List Int) (P : List (Int × Int)) (x y : Int) (h : Hid (FD B W bf br P.length ev vs va ve vp S A E P)) (hp : Hid (StP (x, y))) (hl : P.length ≤ 1000000) :
    Calls Tryd.prog 103 #[.pointer (some ⟨bf, 0, none⟩), .agg #[.int .i64 x, .int .i64 y]] W fun e W' => e = .returned (.int .i64 (findP P x y : Nat)) ∧ ∃ vp', FD B W' bf br (addP P (x, y)).length ev vs va ve vp' S A E (addP P (x, y)) ∧ Turn (FF bf br vs va ve vp) (FF bf br vs va ve vp') W W' := by
  by_cases hk : findP P x y = P.length
  · refine (number_new B W bf br ev vs va ve vp S A E P x y h hp hk hl).mono ?_
    rintro e W' ⟨rfl, vp', h1, h2⟩
    have e1 : addP P (x, y) = P ++ [(x, y)] := if_pos hk
    rw [e1, hk]
    exact ⟨rfl, vp', h1, h2⟩
  · refine (number_known B W bf br ev vs va ve vp S A E P x y h hp hk).mono ?_
    rintro e W' ⟨rfl, h1⟩
    have e1 : addP P (x, y) = P := if_neg hk
    rw [e1]
    exact ⟨rfl, vp, h.out.below h1, Turn.of_below h1⟩

end Go.Proofs.YtbdkaobbfmgnhaaDoor
namespace Go.Proofs.YtbdkaobbfmgnhaaDoor
open Go.RowKit
set_option linter.unusedVariables false

section
variable {B : Nat} {W : World} {bf br : Nat} {st ev : Int} {vs va ve vp : Value} {S : List Int} {A : List Arr} {E : List Int} {P : List (Int × Int)}
theorem FD.pushS {W2 W3 : World} {vs' : Value} {x : Int} (h : FD B W bf br st ev vs va ve vp S A E P) (hW3 : Below W.heap.size W W3) (o1 : W2.ownsRow B 3 1 vs' (S.length + 1) (S.map (Value.int .i64) ++ [.int .i64 x])) (g : W3.grownBy W2 vs.ownBlock) (hb : vs'.ownBlock = vs.ownBlock ∨ vs'.ownBlock = some W3.heap.size) :
    Blk W2 bf 77 (fcells st ev vs va ve vp br) ∧ FD B (W2.setCell ⟨bf, 2, none⟩ vs') bf br st ev vs' va ve vp (S ++ [x]) A E P ∧ Turn (FF bf br vs va ve vp) (FF bf br vs' va ve vp) W (W2.setCell ⟨bf, 2, none⟩ vs') := by
  have h1 := h.below hW3
  obtain ⟨a1, a2⟩ := h1.apart
  obtain ⟨r1, r2⟩ := h1.rows
  have ne := h1.ne
  have a5 := a2 vs (by simp)
  have keep : ∀ j, j < W3.heap.size → vs.ownBlock ≠ some j → j ≠ bf → (W2.setCell ⟨bf, 2, none⟩ vs').heap[j]? = W3.heap[j]? := by
    intro j hj h3 h4
    rw [Below.heap_setCell _ _ _ _ h4, g.block j hj (fun e => h3 e.symm)]
  have b2 : Blk W2 bf 77 (fcells st ev vs va ve vp br) := (g.block bf h1.blk.lt (fun e => a5.1 e.symm)).trans h1.blk
  have hbr := (Array.getElem?_eq_some_iff.1 h1.mp).1
  have hbk : vs'.ownBlock ≠ some bf := by
    rcases hb with hb | hb
    · rw [hb]; exact a5.1
    · rw [hb]; intro e
      have e1 := Option.some.inj e
      have := h1.blk.lt
      omega
  have apart : ∀ v ∈ [vs, va, ve, vp], ∀ k, v.ownBlock = some k → k ≠ bf := fun v hv k hk e => (a2 v hv).1 (by rw [hk, e])
  refine ⟨b2, ⟨b2.set 2 vs', ?_, ?_, ?_, ?_, ?_, ?_, h.nd, h.cr, h.lof, h.lor⟩, ?_⟩
  · show World.ownsRow _ _ _ _ _ _ _
    rw [List.length_append, List.map_append]
    exact own_same o1 (fun k hk => by rw [Below.heap_setCell _ _ _ _ (fun e => hbk (by rw [hk, e]))])
  · refine own_same h1.ar (fun k hk => keep k (World.ownsRow.lt h1.ar k hk).2 (fun e => ?_) (apart va (by simp) k hk))
    · rcases r2 with r | r
      · rw [r] at hk; cases hk
      · exact r.1 (hk.trans e.symm)
  · refine own_same h1.en (fun k hk => keep k (World.ownsRow.lt h1.en k hk).2 (fun e => ?_) (apart ve (by simp) k hk))
    · rcases ne with r | r
      · rw [r] at e; cases e
      · exact r (e.trans hk.symm)
  · refine own_same h1.ps (fun k hk => keep k (World.ownsRow.lt h1.ps k hk).2 (fun e => ?_) (apart vp (by simp) k hk))
    · rcases r1 with r | r
      · rw [r] at hk; cases hk
      · exact r.1 (hk.trans e.symm)
  · rw [Below.heap_setCell _ _ _ _ (Ne.symm a1), g.block br hbr (fun e => a5.2 e.symm)]; exact h1.mp
  · rcases hb with hb | hb
    · rw [hb]; exact ne
    · right; rw [hb]; intro e
      have := (World.ownsRow.lt h1.en _ e.symm).2
      omega
  · have t1 : Turn (FF bf br vs va ve vp) (FF bf br vs va ve vp) W W3 := Turn.of_below hW3
    have t4 : Turn (FF bf br vs va ve vp) (FF bf br vs' va ve vp) W W2 := t1.grown g (fun k hk => .inr (.inr (.inl hk))) (fun j hj => by
      unfold FF at hj ⊢
      rcases hb with hb | hb
      · rw [hb] at hj; exact .inl hj
      · rw [hb] at hj
        rcases hj with h | h | h | h | h | h
        all_goals first
          | exact .inr (Nat.le_of_eq (Option.some.inj h))
          | exact .inl (by simp [h]))
    exact t4.set (FF.f bf br vs' va ve vp) vs'
theorem FD.pushA {W2 W3 : World} {va' : Value} {x : Arr} (h : FD B W bf br st ev vs va ve vp S A E P) (hW3 : Below W.heap.size W W3) (o1 : OwnA W2 B va' (A ++ [x])) (g : W3.grownBy W2 va.ownBlock) (hb : va'.ownBlock = va.ownBlock ∨ va'.ownBlock = some W3.heap.size) :
    Blk W2 bf 77 (fcells st ev vs va ve vp br) ∧ FD B (W2.setCell ⟨bf, 3, none⟩ va') bf br st ev vs va' ve vp S (A ++ [x]) E P ∧ Turn (FF bf br vs va ve vp) (FF bf br vs va' ve vp) W (W2.setCell ⟨bf, 3, none⟩ va') := by
  have h1 := h.below hW3
  obtain ⟨a1, a2⟩ := h1.apart
  obtain ⟨r1, r2⟩ := h1.rows
  have ne := h1.ne
  have a5 := a2 va (by simp)
  have keep : ∀ j, j < W3.heap.size → va.ownBlock ≠ some j → j ≠ bf → (W2.setCell ⟨bf, 3, none⟩ va').heap[j]? = W3.heap[j]? := by
    intro j hj h3 h4
    rw [Below.heap_setCell _ _ _ _ h4, g.block j hj (fun e => h3 e.symm)]
  have b2 : Blk W2 bf 77 (fcells st ev vs va ve vp br) := (g.block bf h1.blk.lt (fun e => a5.1 e.symm)).trans h1.blk
  have hbr := (Array.getElem?_eq_some_iff.1 h1.mp).1
  have hbk : va'.ownBlock ≠ some bf := by
    rcases hb with hb | hb
    · rw [hb]; exact a5.1
    · rw [hb]; intro e
      have e1 := Option.some.inj e
      have := h1.blk.lt
      omega
  have apart : ∀ v ∈ [vs, va, ve, vp], ∀ k, v.ownBlock = some k → k ≠ bf := fun v hv k hk e => (a2 v hv).1 (by rw [hk, e])
  refine ⟨b2, ⟨b2.set 3 va', ?_, ?_, ?_, ?_, ?_, ?_, h.nd, h.cr, h.lof, h.lor⟩, ?_⟩
  · refine own_same h1.st (fun k hk => keep k (World.ownsRow.lt h1.st k hk).2 (fun e => ?_) (apart vs (by simp) k hk))
    · rcases r2 with r | r
      · rw [r] at e; cases e
      · exact r.1 (e.trans hk.symm)
  · show World.ownsRow _ _ _ _ _ _ _
    exact own_same o1 (fun k hk => by rw [Below.heap_setCell _ _ _ _ (fun e => hbk (by rw [hk, e]))])
  · refine own_same h1.en (fun k hk => keep k (World.ownsRow.lt h1.en k hk).2 (fun e => ?_) (apart ve (by simp) k hk))
    · rcases r2 with r | r
      · rw [r] at e; cases e
      · exact r.2.2 (e.trans hk.symm)
  · refine own_same h1.ps (fun k hk => keep k (World.ownsRow.lt h1.ps k hk).2 (fun e => ?_) (apart vp (by simp) k hk))
    · rcases r1 with r | r
      · rw [r] at hk; cases hk
      · exact r.2.1 (hk.trans e.symm)
  · rw [Below.heap_setCell _ _ _ _ (Ne.symm a1), g.block br hbr (fun e => a5.2 e.symm)]; exact h1.mp
  · exact ne
  · have t1 : Turn (FF bf br vs va ve vp) (FF bf br vs va ve vp) W W3 := Turn.of_below hW3
    have t4 : Turn (FF bf br vs va ve vp) (FF bf br vs va' ve vp) W W2 := t1.grown g (fun k hk => .inr (.inr (.inr (.inl hk)))) (fun j hj => by
      unfold FF at hj ⊢
      rcases hb with hb | hb
      · rw [hb] at hj; exact .inl hj
      · rw [hb] at hj
        rcases hj with h | h | h | h | h | h
        all_goals first
          | exact .inr (Nat.le_of_eq (Option.some.inj h))
          | exact .inl (by simp [h]))
    exact t4.set (FF.f bf br vs va' ve vp) va'
theorem FD.pushE {W2 W3 : World} {ve' : Value} {x : Int} (h : FD B W bf br st ev vs va ve vp S A E P) (hW3 : Below W.heap.size W W3) (o1 : W2.ownsRow B 3 1 ve' (E.length + 1) (E.map (Value.int .i64) ++ [.int .i64 x])) (g : W3.grownBy W2 ve.ownBlock) (hb : ve'.ownBlock = ve.ownBlock ∨ ve'.ownBlock = some W3.heap.size) :
    Blk W2 bf 77 (fcells st ev vs va ve vp br) ∧ FD B (W2.setCell ⟨bf, 4, none⟩ ve') bf br st ev vs va ve' vp S A (E ++ [x]) P ∧ Turn (FF bf br vs va ve vp) (FF bf br vs va ve' vp) W (W2.setCell ⟨bf, 4, none⟩ ve') := by
  have h1 := h.below hW3
  obtain ⟨a1, a2⟩ := h1.apart
  obtain ⟨r1, r2⟩ := h1.rows
  have ne := h1.ne
  have a5 := a2 ve (by simp)
  have keep : ∀ j, j < W3.heap.size → ve.ownBlock ≠ some j → j ≠ bf → (W2.setCell ⟨bf, 4, none⟩ ve').heap[j]? = W3.heap[j]? := by
    intro j hj h3 h4
    rw [Below.heap_setCell _ _ _ _ h4, g.block j hj (fun e => h3 e.symm)]
  have b2 : Blk W2 bf 77 (fcells st ev vs va ve vp br) := (g.block bf h1.blk.lt (fun e => a5.1 e.symm)).trans h1.blk
  have hbr := (Array.getElem?_eq_some_iff.1 h1.mp).1
  have hbk : ve'.ownBlock ≠ some bf := by
    rcases hb with hb | hb
    · rw [hb]; exact a5.1
    · rw [hb]; intro e
      have e1 := Option.some.inj e
      have := h1.blk.lt
      omega
  have apart : ∀ v ∈ [vs, va, ve, vp], ∀ k, v.ownBlock = some k → k ≠ bf := fun v hv k hk e => (a2 v hv).1 (by rw [hk, e])
  refine ⟨b2, ⟨b2.set 4 ve', ?_, ?_, ?_, ?_, ?_, ?_, h.nd, h.cr, h.lof, h.lor⟩, ?_⟩
  · refine own_same h1.st (fun k hk => keep k (World.ownsRow.lt h1.st k hk).2 (fun e => ?_) (apart vs (by simp) k hk))
    · rcases ne with r | r
      · rw [r] at hk; cases hk
      · exact r (hk.trans e.symm)
  · refine own_same h1.ar (fun k hk => keep k (World.ownsRow.lt h1.ar k hk).2 (fun e => ?_) (apart va (by simp) k hk))
    · rcases r2 with r | r
      · rw [r] at hk; cases hk
      · exact r.2.2 (hk.trans e.symm)
  · show World.ownsRow _ _ _ _ _ _ _
    rw [List.length_append, List.map_append]
    exact own_same o1 (fun k hk => by rw [Below.heap_setCell _ _ _ _ (fun e => hbk (by rw [hk, e]))])
  · refine own_same h1.ps (fun k hk => keep k (World.ownsRow.lt h1.ps k hk).2 (fun e => ?_) (apart vp (by simp) k hk))
    · rcases r1 with r | r
      · rw [r] at hk; cases hk
      · exact r.2.2 (hk.trans e.symm)
  · rw [Below.heap_setCell _ _ _ _ (Ne.symm a1), g.block br hbr (fun e => a5.2 e.symm)]; exact h1.mp
  · rcases hb with hb | hb
    · rw [hb]; exact ne
    · rcases ne with r | r
      · exact .inl r
      · right; rw [hb]; intro e
        have := (World.ownsRow.lt h1.st _ e).2
        omega
  · have t1 : Turn (FF bf br vs va ve vp) (FF bf br vs va ve vp) W W3 := Turn.of_below hW3
    have t4 : Turn (FF bf br vs va ve vp) (FF bf br vs va ve' vp) W W2 := t1.grown g (fun k hk => .inr (.inr (.inr (.inr (.inl hk))))) (fun j hj => by
      unfold FF at hj ⊢
      rcases hb with hb | hb
      · rw [hb] at hj; exact .inl hj
      · rw [hb] at hj
        rcases hj with h | h | h | h | h | h
        all_goals first
          | exact .inr (Nat.le_of_eq (Option.some.inj h))
          | exact .inl (by simp [h]))
    exact t4.set (FF.f bf br vs va ve' vp) ve'
end

end Go.Proofs.YtbdkaobbfmgnhaaDoor
namespace Go.Proofs.YtbdkaobbfmgnhaaDoor
open Go.RowKit
set_option linter.unusedVariables false

/-- What begin leaves. -/
def BegPost (w0 W : World) (bf br : Nat) (ev : Int) (SA SB : List Int) (e : Ending) (W' : World) : Prop :=
  e = .returned (.bool (decide ((crossP SA SB).length ≤ 256))) ∧ Below w0.heap.size w0 W' ∧ ∃ vs vp, Turn (FF bf br (.slice none 0 0) (.slice none 0 0) (.slice none 0 0) (.slice none 0 0)) (FF bf br vs (.slice none 0 0) (.slice none 0 0) vp) W W' ∧ ((crossP SA SB).length ≤ 256 → FD w0.heap.size W' bf br (crossP SA SB).length ev vs (.slice none 0 0) (.slice none 0 0) vp (rngI (crossP SA SB).length) [] [] (crossP SA SB))

set_option maxHeartbeats 4000000 in
set_option maxRecDepth 100000 in
theorem begin_any (w0 W : World) (bf br : Nat) (ev : Int) (sa sb : Option Addr) (ca cb : Nat) (SA SB : List Int) (hA : Hid (At w0 sa SA)) (hB : Hid (At w0 sb SB)) (lA : Hid (SA.length ≤ 256)) (lB : Hid (SB.length ≤ 256)) (iA : Hid (Inc SA)) (iB : Hid (Inc SB)) (bA : Hid (∀ x ∈ SA, 0 ≤ x ∧ x < 256)) (bB : Hid (∀ x ∈ SB, 0 ≤ x ∧ x < 256))
    (hF : Hid (FD w0.heap.size W bf br (([] : List (Int × Int)).length : Nat) ev (.slice none 0 0) (.slice none 0 0) (.slice none 0 0) (.slice none 0 0) [] [] [] [])) (hbel : Hid (Below w0.heap.size w0 W)) :
    Calls Tryd.prog 61 #[.pointer (some ⟨bf, 0, none⟩), .slice sa SA.length ca, .slice sb SB.length cb] W fun e W' => BegPost w0 W bf br ev SA SB e W' := by
  obtain ⟨j0, ji, jz0, jz1, jz2⟩ := info_parts Tryd.infoInt
  have kA := lA.out
  have kB := lB.out
  go_enter Tryd.func61, Tryd.ntmps61
  go_wp2_with fail
  go_loopw [13] (fun i wr => ∃ (k : Nat) (vs vp : Value), k ≤ SA.length ∧ i = .int .i64 k ∧ Hid (FD w0.heap.size wr bf br (crossP (SA.take k) SB).length ev vs (.slice none 0 0) (.slice none 0 0) vp (rngI (crossP (SA.take k) SB).length) [] [] (crossP (SA.take k) SB)) ∧ Hid (Below w0.heap.size w0 wr) ∧ Hid ((crossP (SA.take k) SB).length ≤ 256) ∧ Hid (Turn (FF bf br (.slice none 0 0) (.slice none 0 0) (.slice none 0 0) (.slice none 0 0)) (FF bf br vs (.slice none 0 0) (.slice none 0 0) vp) W wr)) (fun i _ => SA.length - (intOf i).toNat)
  case atStart => exact ⟨0, .slice none 0 0, .slice none 0 0, Nat.zero_le _, rfl, hF, hbel, show (0 : Nat) ≤ 256 by omega, Turn.refl _ _⟩
  case round =>
    obtain ⟨k, vs, vp, hk, rfl, HF, HB, HL, HTn⟩ := hrel
    by_cases hlt : k < SA.length
    · obtain ⟨bs, os, hsa, hbs, hcs⟩ := (hA.out.below HB.out (Nat.le_refl _)).cells_of (k := k) hlt
      obtain ⟨x, HX, cx0⟩ := hcs.at (k := k) hlt
      rw [hsa]
      clear hcs
      have HXM : Hid (0 ≤ x ∧ x < 256) := bA.out x (by rw [HX.out, List.getElem?_eq_getElem hlt]; exact List.getElem_mem hlt)
      go_wp2_with fail
      go_loopw [19] (fun i wr => ∃ (q : Nat) (vs vp : Value), q ≤ SB.length ∧ i = .int .i64 q ∧ Hid (FD w0.heap.size wr bf br (crossP (SA.take k) SB ++ (SB.take q).map fun z => (x, z)).length ev vs (.slice none 0 0) (.slice none 0 0) vp (rngI (crossP (SA.take k) SB ++ (SB.take q).map fun z => (x, z)).length) [] [] (crossP (SA.take k) SB ++ (SB.take q).map fun z => (x, z))) ∧ Hid (Below w0.heap.size w0 wr) ∧ Hid ((crossP (SA.take k) SB ++ (SB.take q).map fun z => (x, z)).length ≤ 256) ∧ Hid (Turn (FF bf br (.slice none 0 0) (.slice none 0 0) (.slice none 0 0) (.slice none 0 0)) (FF bf br vs (.slice none 0 0) (.slice none 0 0) vp) W wr)) (fun i _ => SB.length - (intOf i).toNat)
      case atStart => exact ⟨0, vs, vp, Nat.zero_le _, rfl, by show FD _ _ _ _ _ _ _ _ _ _ _ _ _ _; rw [List.take_zero, List.map_nil, List.append_nil]; exact HF.out, HB, by show _ ≤ _; rw [List.take_zero, List.map_nil, List.append_nil]; exact HL.out, HTn⟩
      case round =>
        clear HF HB HL cx0 hbs HTn
        obtain ⟨q, vs, vp, hq, rfl, HF, HB, HL, HTn⟩ := hrel
        by_cases hqt : q < SB.length
        · obtain ⟨bt, ot, hta, hbt, hct⟩ := (hB.out.below HB.out (Nat.le_refl _)).cells_of (k := q) hqt
          obtain ⟨y, HY, cy0⟩ := hct.at (k := q) hqt
          rw [hta]
          clear hct
          have HYM : Hid (0 ≤ y ∧ y < 256) := bB.out y (by rw [HY.out, List.getElem?_eq_getElem hqt]; exact List.getElem_mem hqt)
          have HP : Hid (StP (x, y)) := ⟨HXM.out, HYM.out⟩
          have HN : Hid ((crossP (SA.take k) SB ++ (SB.take (q + 1)).map fun z => (x, z)) = (crossP (SA.take k) SB ++ (SB.take q).map fun z => (x, z)) ++ [(x, y)]) := by
            show _ = _
            rw [mapP_take hqt HY, ← List.append_assoc]
          have HC : Hid (∃ t, crossP SA SB = (crossP (SA.take k) SB ++ (SB.take q).map fun z => (x, z)) ++ (x, y) :: t) := by
            show ∃ t, _
            have e1 : SA = SA.take (k + 1) ++ SA.drop (k + 1) := (List.take_append_drop _ _).symm
            have e2 : SB = SB.take (q + 1) ++ SB.drop (q + 1) := (List.take_append_drop _ _).symm
            have e3 : crossP SA SB = crossP (SA.take (k + 1)) SB ++ crossP (SA.drop (k + 1)) SB := by
              conv => lhs; rw [e1]
              unfold crossP; rw [List.flatMap_append]
            have e4 : (SB.map fun z => (x, z)) = ((SB.take (q + 1)).map fun z => (x, z)) ++ ((SB.drop (q + 1)).map fun z => (x, z)) := by
              conv => lhs; rw [e2]
              rw [List.map_append]
            rw [e3, crossP_take hlt HX, e4, mapP_take hqt HY]
            exact ⟨((SB.drop (q + 1)).map fun z => (x, z)) ++ crossP (SA.drop (k + 1)) SB, by simp⟩
          generalize (crossP (SA.take k) SB ++ (SB.take q).map fun z => (x, z)) = P at *
          have HW : Hid (findP P x y = P.length) := by
            show _ = _
            obtain ⟨t, ht⟩ := HC.out
            have hget : (crossP SA SB)[P.length]? = some (x, y) := by rw [ht]; simp
            have := findP_cross iA.out iB.out hget
            rwa [ht, List.take_left] at this
          have HAD : Hid (addP P (x, y) = P ++ [(x, y)]) := if_pos HW.out
          obtain ⟨va, vc, hvs, -, -, -⟩ := own_form2 HF.out.st
          rw [rngI_len] at hvs
          subst hvs
          have c2 := HF.out.cells.2.2.1
          have hl := HL.out
          have lb1 := HF.out.blk.lt
          go_wp2_with fail
          go_region_law (first | (refine step_append_block rfl (.tmp 28) (.tmp 34) 22 rfl w0.heap.size 3 j0 (.int .i64 0) 1 8 Tryd.underlying22 ji jz0 jz1 jz2 rfl (by decide) _ (rngI P.length).length ((rngI P.length).map (Value.int .i64)) rfl (World.ownsRow.alloc F1.out.st _) ⟨w1.heap.size, 0, none⟩ 1 1 [.int .i64 (P.length : Nat)] rfl rfl (cell_one_new _ _ _) (by intro u hu; simp at hu; subst hu; rfl) (by decide) (by rw [rngI_len]; unfold maxLen; omega) (by rw [rngI_len]; omega) (by have := B1.out.size; simp; omega) ?_; intro v9 w9 o9 g9 n9; obtain ⟨ga, gc, hv9, -, -, -⟩ := own_form2 o9; subst hv9; obtain ⟨e1, e2⟩ := F1.out.pushS ((Below.refl _ _).alloc (Nat.le_refl _) _) o9 g9 n9; have z2 := e1.cell 2 rfl; have zf := e1.frozen; have E2 := Hid.of e2.1; have B2 := Hid.of (B1.out.trans (e2.2.below (fun j hj => (F1.out.lt j hj).1) B1.out.size)); have T2 := Hid.of (T1.out.trans e2.2); clear e2 o9 g9 n9) | (go_simp; go_at_call 103; refine (number_any w0.heap.size _ bf br ev _ _ _ _ _ _ _ P x y HF.out.drew HP.out (by omega)).mono ?_; rintro e w1 ⟨rfl, vp1, hF1, hT1⟩; rw [HW.out]; rw [HAD.out] at hF1; have F1 := Hid.of hF1; have B1 := Hid.of (HB.out.drew.trans (hT1.below (fun j hj => (HF.out.drew.lt j hj).1) HB.out.drew.size)); have T1 := Hid.of (HTn.out.drew.trans hT1); have d2 := hF1.cells.2.2.1; have d3 : ∀ o, (w1.alloc o).cell? ⟨bf, 2, none⟩ = some (.slice va P.length vc) := fun o => (hF1.alloc o).cells.2.2.1; clear hF1 hT1))
          all_goals
            have E3 : Hid (FD w0.heap.size (w9.setCell ⟨bf, 2, none⟩ (.slice ga ((rngI P.length).length + 1) gc)) bf br (P ++ [(x, y)]).length ev (.slice ga ((rngI P.length).length + 1) gc) (.slice none 0 0) (.slice none 0 0) vp1 (rngI (P ++ [(x, y)]).length) [] [] (P ++ [(x, y)])) := by
              have := E2.out
              show FD _ _ _ _ _ _ _ _ _ _ _ _ _ _
              rw [List.length_append] at this ⊢
              rw [show P.length + [(x, y)].length = P.length + 1 from rfl, rngI_succ]
              exact this
            clear E2 F1 B1 T1 e1 d2 d3 z2 zf c2
            revert B2 T2 E3
            generalize w9.setCell ⟨bf, 2, none⟩ (.slice ga ((rngI P.length).length + 1) gc) = Y
            generalize Value.slice ga ((rngI P.length).length + 1) gc = vs1
            intro B2 T2 E3
            by_cases hfit : P.length + 1 ≤ 256
            · have FT : Hid ((decide (((P ++ [(x, y)]).length : Int) ≤ 256) && decide (((([] : List Arr).length : Nat) : Int) ≤ 4096)) = true) := by
                show _ = _
                rw [List.length_append]; simp; omega
              go_wp2_with fail
              refine (fits_any w0.heap.size _ bf br _ ev _ _ _ _ _ _ _ _ E3 (by simp)).mono ?_
              rintro e w2 ⟨rfl, rfl⟩
              rw [FT.out]
              go_wp2_with fail
              go_roundw
              case rel => exact ⟨q + 1, _, _, by omega, by go_num, by show FD _ _ _ _ _ _ _ _ _ _ _ _ _ _; rw [HN.out]; exact E3.out, B2, by show _ ≤ _; rw [HN.out, List.length_append]; exact hfit, T2⟩
              case measure => simp [intOf]; omega
            · have FT : Hid ((decide (((P ++ [(x, y)]).length : Int) ≤ 256) && decide (((([] : List Arr).length : Nat) : Int) ≤ 4096)) = false) := by
                show _ = _
                rw [List.length_append]; simp; omega
              have HG : Hid (256 < (crossP SA SB).length) := by
                obtain ⟨t, ht⟩ := HC.out
                show _ < _
                rw [ht, List.length_append, List.length_cons]; omega
              go_wp2_with fail
              refine (fits_any w0.heap.size _ bf br _ ev _ _ _ _ _ _ _ _ E3 (by simp)).mono ?_
              rintro e w2 ⟨rfl, rfl⟩
              rw [FT.out]
              go_wp2_with fail
              go_ret
              exact ⟨ret_bool (by have := HG.out; simp; omega), B2.out, _, _, T2.out, fun h => by have := HG.out; omega⟩
        · rw [List.take_of_length_le (show SB.length ≤ q by omega)] at HF HL
          have HN : Hid (crossP (SA.take (k + 1)) SB = crossP (SA.take k) SB ++ SB.map fun z => (x, z)) := crossP_take hlt HX
          go_wp2_with fail
          go_roundw
          case rel => exact ⟨k + 1, _, _, by omega, by go_num, by show FD _ _ _ _ _ _ _ _ _ _ _ _ _ _; rw [HN.out]; exact HF.out, HB, by show _ ≤ _; rw [HN.out]; exact HL.out, HTn⟩
          case measure => simp [intOf]; omega
    · rw [List.take_of_length_le (show SA.length ≤ k by omega)] at HF HL
      go_wp2_with fail
      go_ret
      exact ⟨ret_bool (by have := HL.out; simp; omega), HB.out, _, _, HTn.out, fun _ => HF.out⟩

end Go.Proofs.YtbdkaobbfmgnhaaDoor
namespace Go.Proofs.YtbdkaobbfmgnhaaDoor
open Go.RowKit Go.Shelf Go.Lib Go.Sort
set_option linter.unusedVariables false

def encA (a : Arr) : List Value := [.int .i64 a.f, .int .i64 a.e, .int .i64 a.t]

set_option maxHeartbeats 1000000 in
theorem lead1_cmp (x y : Arr) (W : World) : Calls Tryd.prog 134 #[.agg #[.int .i64 x.f, .int .i64 x.e, .int .i64 x.t], .agg #[.int .i64 y.f, .int .i64 y.e, .int .i64 y.t]] W fun e w' => e = .returned (.int .i64 (cmpI x.t y.t)) ∧ ∃ q os', w' = grow (W.drewN q) os' := by
  have hcon := fun W' => cmp_any x.t y.t W'
  generalize cmpI x.t y.t = r at hcon ⊢
  go_enter Tryd.func134, Tryd.ntmps134
  go_wp2_with (go_at_call 123; refine (hcon _).mono ?_; rintro e w' ⟨rfl, rfl⟩)
  go_ret
  exact ⟨rfl, 0, _, by rw [alloc_eq_grow, alloc_eq_grow, grow_grow]; rfl⟩

theorem ltA (x y : Arr) : ltOf (fun x y : Arr => cmpI x.t y.t) x y = decide (x.t < y.t) := by
  unfold ltOf cmpI
  by_cases h1 : x.t < y.t
  · simp [h1]
  · by_cases h2 : y.t < x.t <;> simp [h1, h2]
theorem swoA : SWO (ltOf fun x y : Arr => cmpI x.t y.t) where
  irrefl x := by rw [ltA]; simp
  trans x y z h1 h2 := by rw [ltA] at *; simp at *; omega
  ntrans x y z h1 h2 := by rw [ltA] at *; simp at *; omega

theorem isAggArrow (w : World) : (isAgg 58).run Tryd.prog w = .ok true w := by kernel_rfl
theorem sizeOfArrow (w : World) : (Go.sizeOf 58).run Tryd.prog w = .ok 3 w := by kernel_rfl

theorem aflat_get {N : List Arr} {t : Nat} (h : t < N.length * 3) : (aflat N)[t]? = some ((encA (N[t / 3]?.getD arr0))[t % 3]?.getD undef) := by
  have hk : t / 3 < N.length := by omega
  obtain ⟨h1, h2, h3⟩ := aflat_at hk
  have hm : t % 3 = 0 ∨ t % 3 = 1 ∨ t % 3 = 2 := by omega
  rcases hm with hm | hm | hm
  · rw [show t = t / 3 * 3 by omega, h1]; simp [encA]
  · rw [show t = t / 3 * 3 + 1 by omega, h2]
    rw [show (t / 3 * 3 + 1) / 3 = t / 3 by omega, show (t / 3 * 3 + 1) % 3 = 1 by omega]; simp [encA]
  · rw [show t = t / 3 * 3 + 2 by omega, h3]
    rw [show (t / 3 * 3 + 2) / 3 = t / 3 by omega, show (t / 3 * 3 + 2) % 3 = 2 by omega]; simp [encA]

theorem flat_aflat (N : Array Arr) : letI : Inhabited Arr := ⟨arr0⟩; flatK encA 3 N = (aflat N.toList).toArray := by
  letI : Inhabited Arr := ⟨arr0⟩
  refine ext_get! (by simp [aflat_len]) fun t ht => ?_
  have ht' : t < N.size * 3 := by simpa using ht
  rw [get_flatK _ _ _ t ht']
  have h1 := aflat_get (N := N.toList) (t := t) (by simpa using ht')
  have h2 : ((aflat N.toList).toArray)[t]! = (encA (N.toList[t / 3]?.getD arr0))[t % 3]?.getD undef := by
    rw [Array.getElem!_eq_getD, Array.getD_eq_getD_getElem?]
    simp only [List.getElem?_toArray, h1]; rfl
  rw [h2]
  have hk : t / 3 < N.size := by omega
  have h3 : N[t / 3]! = N.toList[t / 3]?.getD arr0 := by
    rw [Array.getElem!_eq_getD, Array.getD_eq_getD_getElem?, Array.getElem?_toList]; rfl
  rw [h3, List.getElem!_eq_getElem?_getD]
  have hm : t % 3 < 3 := Nat.mod_lt _ (by decide)
  generalize N.toList[t / 3]?.getD arr0 = a
  have : t % 3 = 0 ∨ t % 3 = 1 ∨ t % 3 = 2 := by omega
  rcases this with h | h | h <;> rw [h] <;> simp [encA]

theorem putRow_heap (w : World) (blk off : Nat) (F : Array Value) (j : Nat) : (putRow id w blk off F).heap[j]? = if blk = j then (w.heap[j]?).map (fun o => match o with | .cells c e fr => .cells (putCells id off F c) e fr | o => o) else w.heap[j]? := by
  unfold putRow mapBlock
  simp only [Array.getElem?_modify]
  by_cases h : blk = j
  · simp only [h, if_true]
    cases w.heap[j]? with
    | none => rfl
    | some o => cases o <;> rfl
  · simp [h]
theorem grow_heap (w : World) (os : Array Obj) (j : Nat) (h : j < w.heap.size) : (grow w os).heap[j]? = w.heap[j]? := by
  unfold grow; exact Array.getElem?_append_left h
theorem put_take (cur : Array Value) (F : List Value) (off : Nat) (X : List Value) (hX : cur.toList.take off = X) (hoff : off + F.length ≤ cur.size) : (putCells id off F.toArray cur).toList.take (off + F.length) = X ++ F := by
  apply List.ext_getElem?
  intro t
  have hXl : X.length = off := by rw [← hX, List.length_take]; simp; omega
  by_cases ht : t < off + F.length
  · rw [List.getElem?_take_of_lt ht, Array.getElem?_toList]
    simp only [putCells, Array.getElem?_mapIdx]
    have hlt : t < cur.size := by omega
    rw [Array.getElem?_eq_getElem hlt, Option.map_some]
    by_cases h1 : off ≤ t
    · rw [if_pos ⟨h1, by simpa using ht⟩, List.getElem?_append_right (by omega), hXl]
      have h2 : t - off < F.length := by omega
      rw [List.getElem?_eq_getElem h2]
      simp [h2]
    · rw [if_neg (by omega), List.getElem?_append_left (by omega), ← hX, List.getElem?_take_of_lt (by omega), Array.getElem?_toList, Array.getElem?_eq_getElem hlt]
  · rw [List.getElem?_eq_none (by simp; omega), List.getElem?_eq_none (by simp; omega)]
theorem sorted_pairs {D : List Arr} (h : letI : Inhabited Arr := ⟨arr0⟩; SortedIn (ltOf fun x y : Arr => cmpI x.t y.t) 0 D.toArray.size D.toArray) : D.Pairwise fun x y => x.t ≤ y.t := by
  rw [List.pairwise_iff_getElem]
  intro i j hi hj hij
  have h1 := h i j (Nat.zero_le _) hij (by simpa using hj)
  rw [ltA] at h1
  simp [hi, hj] at h1
  exact h1

set_option maxHeartbeats 1000000 in
/-- The arrows behind the first ones, sorted by where they lead to. -/
theorem sort_go (W : World) (B g cap c : Nat) (A N : List Arr) (h : OwnA W B (.slice (some ⟨g, 0, none⟩) (A ++ N).length cap) (A ++ N)) (hN : N.length ≤ 1000000000) :
    Calls Tryd.prog 133 #[.slice (some ⟨g, A.length * 3, none⟩) N.length c, .func (.func 134) #[] #[]] W fun e W' => e = .returned (.tuple #[]) ∧ ∃ D : List Arr, D.Perm N ∧ (D.Pairwise fun x y => x.t ≤ y.t) ∧ OwnA W' B (.slice (some ⟨g, 0, none⟩) (A ++ N).length cap) (A ++ D) ∧ Turn (fun j => j = g) (fun j => j = g) W W' := by
  letI : Inhabited Arr := ⟨arr0⟩
  rcases h.2 with ⟨h0, -⟩ | ⟨g', cap', cur, h0, hg, hh, hnc, hcm, hcs, ht⟩
  · simp at h0
  simp only [Value.slice.injEq, Option.some.injEq, Addr.mk.injEq, and_true] at h0
  obtain ⟨rfl, -, rfl⟩ := h0
  have hbk : g < W.heap.size := (Array.getElem?_eq_some_iff.1 hh).1
  have hl : (A ++ N).length = A.length + N.length := List.length_append
  have eg : ∀ args w, (callFunc 134 args).run Tryd.prog w = .ok (.enter 134 args) w := enters_of Tryd.func134 (by kernel_rfl) rfl
  have hcell : ∀ t, t < N.length * 3 → cur[A.length * 3 + t]? = (aflat N)[t]? := by
    intro t hlt
    have h1 : (cur.toList.take ((A ++ N).length * 3))[A.length * 3 + t]? = (aflat (A ++ N))[A.length * 3 + t]? := by rw [ht]
    rw [List.getElem?_take_of_lt (by omega), Array.getElem?_toList, aflat_append, List.getElem?_append_right (by rw [aflat_len]; omega), aflat_len] at h1
    rw [h1]; congr 1; omega
  have hH : HoldsK encA 3 W g (A.length * 3) N.toArray := by
    unfold HoldsK
    rw [flat_aflat]
    intro j hj
    have hj' : j < N.length * 3 := by simpa [aflat_len] using hj
    have hB : Blk W g 58 cur := hh
    refine ⟨hB.cell _ ?_, hB.frozen _⟩
    rw [hcell j hj']
    have : j < (aflat N).length := by rw [aflat_len]; exact hj'
    rw [List.getElem?_eq_getElem this]
    simp [this]
  have hcon := AnyQ.slices_SortFunc Tryd.sortA 3 isAggArrow sizeOfArrow encA (fun _ => rfl) (fun x v hv => by simp [encA] at hv; rcases hv with rfl | rfl | rfl <;> rfl) (fun x y => cmpI x.t y.t) swoA 134 #[] g (A.length * 3) c N.toArray W eg (fun _ _ _ _ x y => lead1_cmp x y _) hH hbk (by simp; omega)
  refine hcon.mono ?_
  rintro e W' ⟨rfl, d', n, os, hp, hs, rfl⟩
  refine ⟨rfl, d'.toList, ?_, ?_, ?_, ?_⟩
  · have h3 := hp.2.2
    have e1 : (d'.extract 0 N.toArray.size).toList = d'.toList := by
      rw [← hp.1]; simp
    have e2 : (N.toArray.extract 0 N.toArray.size).toList = N := by simp
    rw [e1, e2] at h3
    exact h3
  · refine sorted_pairs ?_
    rw [Array.toArray_toList]
    rw [hp.1]; exact hs
  · have hdl : d'.toList.length = N.length := by have := hp.1; simpa using this
    have hl2 : (A ++ d'.toList).length = (A ++ N).length := by rw [List.length_append, List.length_append, hdl]
    unfold OwnA
    rw [hl2]
    refine ⟨by rw [aflat_len, hl2], .inr ⟨g, cap, putCells id (A.length * 3) (aflat d'.toList).toArray cur, rfl, hg, ?_, hnc, hcm, by simp [putCells, hcs], ?_⟩⟩
    · unfold sortWorldK putRowK
      rw [grow_heap _ _ _ (by rw [size_putRow]; exact hbk), putRow_heap, if_pos rfl, flat_aflat]
      show Option.map _ (W.heap[g]?) = _
      rw [hh]; rfl
    · have h4 := put_take cur (aflat d'.toList) (A.length * 3) (aflat A) (by
        have h5 : (cur.toList.take ((A ++ N).length * 3)).take (A.length * 3) = (aflat (A ++ N)).take (A.length * 3) := by rw [ht]
        rw [List.take_take, aflat_append, List.take_left' (aflat_len A)] at h5
        rw [← h5]; congr 1; omega) (by rw [aflat_len, hdl, hcs]; have := hnc; omega)
      rw [aflat_append, ← h4, aflat_len, hdl]
      congr 1; omega
  · refine ⟨rfl, rfl, rfl, ?_, fun j hj hne => ?_, fun j hj => .inl hj⟩
    · unfold sortWorldK putRowK grow
      rw [Array.size_append, size_putRow]; exact Nat.le_add_right _ _
    · unfold sortWorldK putRowK
      rw [grow_heap _ _ _ (by rw [size_putRow]; exact hj), putRow_heap, if_neg (fun e => hne e.symm)]; rfl

theorem sort_none (p : Option Addr) (cap : Nat) (fv : Value) (w : World) : Calls Tryd.prog 133 #[.slice p 0 cap, fv] w fun e w' => e = .returned (.tuple #[]) ∧ w' = w :=
  AnyF.slices_SortFunc_none { Tryd.sortA with } p cap fv w

end Go.Proofs.YtbdkaobbfmgnhaaDoor
namespace Go.Proofs.YtbdkaobbfmgnhaaDoor
open Go.RowKit
set_option linter.unusedVariables false

/-- A slice of integers that lies in no block of F. -/
def AtF (W : World) (F : Nat → Prop) (a : Option Addr) (xs : List Int) : Prop := xs = [] ∨ ∃ b off, a = some ⟨b, off, none⟩ ∧ b < W.heap.size ∧ ¬ F b ∧ Cells W b off xs
theorem AtF.turn {F F' : Nat → Prop} {W W' : World} {a : Option Addr} {xs : List Int} (h : AtF W F a xs) (t : Turn F F' W W') : AtF W' F' a xs := by
  rcases h with h1 | ⟨b, off, h1, hb, hF, hc⟩
  · exact .inl h1
  · refine .inr ⟨b, off, h1, Nat.lt_of_lt_of_le hb t.size, fun hF' => ?_, fun j hj => by rw [World.cell?_of_block (w := W) (t.block b hb hF)]; exact hc j hj⟩
    rcases t.fp b hF' with h2 | h2
    · exact hF h2
    · omega
theorem AtF.get {F : Nat → Prop} {W : World} {a : Option Addr} {xs : List Int} (h : AtF W F a xs) {k : Nat} (hk : k < xs.length) : ∃ b off x, a = some ⟨b, off, none⟩ ∧ b < W.heap.size ∧ Hid (x = xs[k]?.getD 0) ∧ W.cell? ⟨b, off + k, none⟩ = some (.int .i64 x) := by
  rcases h with h | ⟨b, off, h1, hb, -, hc⟩
  · subst h; simp at hk
  · obtain ⟨x, h2, h3⟩ := hc.at hk
    exact ⟨b, off, x, h1, hb, h2, h3⟩
section
variable {B : Nat} {W W' : World} {bf br : Nat} {st ev : Int} {vs va ve vp : Value} {S : List Int} {A A' : List Arr} {E : List Int} {P : List (Int × Int)}
/-- The row of arrows is written anew in its own block. -/
theorem FD.sorted {g : Nat} (h : FD B W bf br st ev vs va ve vp S A E P) (hg : va.ownBlock = some g) (ho : OwnA W' B va A') (t : Turn (fun j => j = g) (fun j => j = g) W W') : FD B W' bf br st ev vs va ve vp S A' E P ∧ Turn (FF bf br vs va ve vp) (FF bf br vs va ve vp) W W' := by
  obtain ⟨a1, a2⟩ := h.apart
  obtain ⟨r1, r2⟩ := h.rows
  have ng : g ≠ bf ∧ g ≠ br := ⟨fun e => (a2 va (by simp)).1 (by rw [hg, e]), fun e => (a2 va (by simp)).2 (by rw [hg, e])⟩
  rw [hg] at r1 r2
  have hne : (some g : Option Nat) ≠ none := by simp
  have r2' := r2.resolve_left hne
  refine ⟨⟨(t.block bf h.blk.lt (Ne.symm ng.1)).trans h.blk, own_same h.st (fun k hk => t.block k (World.ownsRow.lt h.st k hk).2 (fun e => r2'.1 (by rw [hk, e]))), ho, own_same h.en (fun k hk => t.block k (World.ownsRow.lt h.en k hk).2 (fun e => r2'.2.2 (by rw [hk, e]))), own_same h.ps (fun k hk => t.block k (World.ownsRow.lt h.ps k hk).2 (fun e => r2'.2.1 (by rw [hk, e]))), (t.block br (Array.getElem?_eq_some_iff.1 h.mp).1 (Ne.symm ng.2)).trans h.mp, h.ne, h.nd, h.cr, h.lof, h.lor⟩, t.os, t.tape, t.output, t.size, fun j hj hn => t.block j hj (fun e => hn (.inr (.inr (.inr (.inl (by rw [hg, e])))))), fun j hj => .inl hj⟩
end
theorem fits_big (s : BS) : (decide ((s.ps.length : Int) ≤ 256) && decide ((s.ar.length : Int) ≤ 4096)) = !bBig s := by
  have h1 : decide ((s.ps.length : Int) ≤ 256) = !decide (256 < s.ps.length) := by
    by_cases h : 256 < s.ps.length <;> simp [h] <;> omega
  have h2 : decide ((s.ar.length : Int) ≤ 4096) = !decide (4096 < s.ar.length) := by
    by_cases h : 4096 < s.ar.length <;> simp [h] <;> omega
  rw [h1, h2]; unfold bBig; rw [Bool.not_or]
/-- What lead leaves. -/
def LeadPost (B : Nat) (W : World) (bf br : Nat) (ev : Int) (vs va ve vp : Value) (S E : List Int) (s' : BS) (e : Ending) (W' : World) : Prop :=
  ∃ va' vp', e = .returned (.bool (!bBig s')) ∧ Turn (FF bf br vs va ve vp) (FF bf br vs va' ve vp') W W' ∧ W'.cell? ⟨bf, 1, none⟩ = some (.int .i64 ev) ∧ (bBig s' = false → FD B W' bf br s'.ps.length ev vs va' ve vp' S (srtA s'.ar) E s'.ps ∧ (srtA s'.ar).length = s'.ar.length)

theorem pair_lt {D N : List Arr} (hp : D.Perm N) (hs : D.Pairwise fun x y => x.t ≤ y.t) (hn : N.Pairwise fun x y => x.t ≠ y.t) : D.Pairwise fun x y => x.t < y.t := by
  have h2 : D.Pairwise fun x y => x.t ≠ y.t := (hp.pairwise_iff (fun {a b} (h : a.t ≠ b.t) => h.symm)).2 hn
  exact (hs.and h2).imp (fun h => by omega)

set_option maxHeartbeats 8000000 in
set_option maxRecDepth 100000 in
theorem lead_any (B : Nat) (W : World) (bf br : Nat) (ev : Int) (vs va ve vp : Value) (S E : List Int) (s : BS) (a b : Mach) (i : Nat) (e : Int) (ta tb : Option Addr) (ca cb : Nat) (LA LB : List Int)
    (hF : Hid (FD B W bf br s.ps.length ev vs va ve vp S (srtA s.ar) E s.ps)) (hbig : Hid (bBig s = false)) (hlen : Hid ((srtA s.ar).length = s.ar.length)) (hlo : Hid (∀ x ∈ s.ar, x.f < i ∨ (x.f = i ∧ x.e < e))) (hi : i ≤ 256) (he : 0 ≤ e ∧ e < 8)
    (hA : Hid (AtF W (FF bf br vs va ve vp) ta LA)) (hB : Hid (AtF W (FF bf br vs va ve vp) tb LB)) (lA : LA.length ≤ 4096) (lB : LB.length ≤ 4096) (iA : Hid (Inc LA)) (iB : Hid (Inc LB)) (bA : Hid (∀ x ∈ LA, 0 ≤ x ∧ x < 256)) (bB : Hid (∀ x ∈ LB, 0 ≤ x ∧ x < 256)) :
    Calls Tryd.prog 105 #[.pointer (some ⟨bf, 0, none⟩), .int .i64 i, .int .i64 e, .slice ta LA.length ca, .slice tb LB.length cb] W fun r W' => LeadPost B W bf br ev vs va ve vp S E ((crossP LA LB).foldl (bAdd i e) s) r W' := by
  obtain ⟨j0, ji, jz0, jz1, jz2⟩ := info_parts Tryd.infoArrow
  obtain ⟨aa, ac, hva, -, ha1, ha2, ha3⟩ := hF.out.ar.at
  have hb0 := bBig_some hbig.out
  have hal : (srtA s.ar).length ≤ 4096 := by rw [hlen.out]; exact hb0.2
  have c3 := hF.out.cells.2.2.2.1
  rw [hva] at c3
  clear hb0
  go_enter Tryd.func105, Tryd.ntmps105
  go_wp2_with fail
  clear c3 hva ha1 ha2 ha3
  go_loopw [24] (fun r wr => ∃ (k : Nat) (va' vp' : Value), k ≤ LA.length ∧ r = .int .i64 k ∧ Hid (FD B wr bf br ((crossP (LA.take k) LB).foldl (bAdd i e) s).ps.length ev vs va' ve vp' S (srtA s.ar ++ newA i e s (crossP (LA.take k) LB)) E ((crossP (LA.take k) LB).foldl (bAdd i e) s).ps) ∧ Hid (Turn (FF bf br vs va ve vp) (FF bf br vs va' ve vp') W wr) ∧ Hid (bBig ((crossP (LA.take k) LB).foldl (bAdd i e) s) = false)) (fun r _ => LA.length - (intOf r).toNat)
  case atStart => exact ⟨0, va, vp, Nat.zero_le _, rfl, by show FD _ _ _ _ _ _ _ _ _ _ _ _ _ _; simpa [crossP, newA] using hF.out, Turn.refl _ _, by show _ = _; simpa [crossP] using hbig.out⟩
  case round =>
    obtain ⟨k, va1, vp1, hk, rfl, HF, HT, HG⟩ := hrel
    by_cases hlt : k < LA.length
    · obtain ⟨bs, os, x, hsa, hbs, HX, cx0⟩ := (hA.out.turn HT.out).get hlt
      rw [hsa]
      have HXM : Hid (0 ≤ x ∧ x < 256) := bA.out x (by rw [HX.out, List.getElem?_eq_getElem hlt]; exact List.getElem_mem hlt)
      go_wp2_with fail
      go_loopw [30] (fun r wr => ∃ (q : Nat) (va' vp' : Value), q ≤ LB.length ∧ r = .int .i64 q ∧ Hid (FD B wr bf br ((crossP (LA.take k) LB ++ (LB.take q).map fun z => (x, z)).foldl (bAdd i e) s).ps.length ev vs va' ve vp' S (srtA s.ar ++ newA i e s (crossP (LA.take k) LB ++ (LB.take q).map fun z => (x, z))) E ((crossP (LA.take k) LB ++ (LB.take q).map fun z => (x, z)).foldl (bAdd i e) s).ps) ∧ Hid (Turn (FF bf br vs va ve vp) (FF bf br vs va' ve vp') W wr) ∧ Hid (bBig ((crossP (LA.take k) LB ++ (LB.take q).map fun z => (x, z)).foldl (bAdd i e) s) = false)) (fun r _ => LB.length - (intOf r).toNat)
      case atStart => exact ⟨0, va1, vp1, Nat.zero_le _, rfl, by show FD _ _ _ _ _ _ _ _ _ _ _ _ _ _; rw [List.take_zero, List.map_nil, List.append_nil]; exact HF.out, HT, by show _ = _; rw [List.take_zero, List.map_nil, List.append_nil]; exact HG.out⟩
      case round =>
        clear HF HT HG cx0 hbs
        obtain ⟨q, va1, vp1, hq, rfl, HF, HT, HG⟩ := hrel
        by_cases hqt : q < LB.length
        · obtain ⟨bt, ot, y, hta, hbt, HY, cy0⟩ := (hB.out.turn HT.out).get hqt
          rw [hta]
          have HYM : Hid (0 ≤ y ∧ y < 256) := bB.out y (by rw [HY.out, List.getElem?_eq_getElem hqt]; exact List.getElem_mem hqt)
          have HP : Hid (StP (x, y)) := ⟨HXM.out, HYM.out⟩
          have HN : Hid ((crossP (LA.take k) LB ++ (LB.take (q + 1)).map fun z => (x, z)) = (crossP (LA.take k) LB ++ (LB.take q).map fun z => (x, z)) ++ [(x, y)]) := by
            show _ = _
            rw [mapP_take hqt HY, ← List.append_assoc]
          have HC : Hid (∃ t, crossP LA LB = ((crossP (LA.take k) LB ++ (LB.take q).map fun z => (x, z)) ++ [(x, y)]) ++ t) := by
            show ∃ t, _
            have e1 : LA = LA.take (k + 1) ++ LA.drop (k + 1) := (List.take_append_drop _ _).symm
            have e2 : LB = LB.take (q + 1) ++ LB.drop (q + 1) := (List.take_append_drop _ _).symm
            have e3 : crossP LA LB = crossP (LA.take (k + 1)) LB ++ crossP (LA.drop (k + 1)) LB := by
              conv => lhs; rw [e1]
              unfold crossP; rw [List.flatMap_append]
            have e4 : (LB.map fun z => (x, z)) = ((LB.take (q + 1)).map fun z => (x, z)) ++ ((LB.drop (q + 1)).map fun z => (x, z)) := by
              conv => lhs; rw [e2]
              rw [List.map_append]
            rw [e3, crossP_take hlt HX, e4, mapP_take hqt HY]
            exact ⟨((LB.drop (q + 1)).map fun z => (x, z)) ++ crossP (LA.drop (k + 1)) LB, by simp⟩
          generalize (crossP (LA.take k) LB ++ (LB.take q).map fun z => (x, z)) = L at *
          have hs1 := bBig_some HG.out
          have hLl : (srtA s.ar ++ newA i e s L).length = (L.foldl (bAdd i e) s).ar.length := by rw [List.length_append, newA_len, bFold_ar, hlen.out]
          have NA : Hid (newA i e s (L ++ [(x, y)]) = newA i e s L ++ [⟨(i : Int), e, (findP (L.foldl (bAdd i e) s).ps x y : Nat)⟩]) := newA_snoc i e L s (x, y)
          have NF : Hid ((L ++ [(x, y)]).foldl (bAdd i e) s = bAdd i e (L.foldl (bAdd i e) s) (x, y)) := by show _ = _; rw [List.foldl_append]; rfl
          obtain ⟨s1, HS1⟩ : ∃ s1, Hid (s1 = L.foldl (bAdd i e) s) := ⟨_, rfl⟩
          obtain ⟨A1, HA1⟩ : ∃ A1, Hid (A1 = srtA s.ar ++ newA i e s L) := ⟨_, rfl⟩
          rw [← HS1.out, ← HA1.out] at HF
          rw [← HS1.out] at HG hs1 NA NF
          rw [← HS1.out, ← HA1.out] at hLl
          have HLl := Hid.of hLl
          have hA1l : A1.length ≤ 4096 := by rw [hLl]; exact hs1.2
          have hP1 := hs1.1
          clear hLl hs1
          have HAD : Hid (addP s1.ps (x, y) = (bAdd i e s1 (x, y)).ps) := rfl
          obtain ⟨fa, fc, hfa, hf1, hf2, hf3⟩ := own_form2 HF.out.ar
          subst hfa
          have c3 := HF.out.cells.2.2.2.1
          have lb1 := HF.out.blk.lt
          obtain ⟨p1, Hp1⟩ : ∃ p1, Hid (p1 = findP s1.ps x y) := ⟨_, rfl⟩
          have hp1 : p1 ≤ 256 := by rw [Hp1.out]; exact Nat.le_trans (findP_le _ _ _) hP1
          go_wp2_with fail
          go_region_law (first | (refine step_append_block rfl (.tmp 39) (.tmp 48) 23 rfl B 58 j0 (aval arr0) 3 24 Tryd.underlying23 ji jz0 jz1 jz2 rfl (by decide) _ A1.length (aflat A1) rfl (World.ownsRow.alloc F1.out.ar _) ⟨w1.heap.size, 0, none⟩ 1 1 [.int .i64 i, .int .i64 e, .int .i64 p1] rfl rfl (cells_three w1 _ rfl _ _ _ _) (by intro u hu; simp at hu; rcases hu with rfl | rfl | rfl <;> rfl) (by decide) (by unfold maxLen; omega) (by omega) (Nat.le_trans (Nat.le_trans F1.out.lof (Nat.le_of_lt F1.out.blk.lt)) (by rw [World.size_alloc]; exact Nat.le_succ _)) ?_; intro v9 w9 o9 g9 n9; obtain ⟨ga, gc, hv9, -, -, -⟩ := own_form2 o9; subst hv9; obtain ⟨e1, e2⟩ := F1.out.pushA ((Below.refl _ _).alloc (Nat.le_refl _) _) (own_arr (x := ⟨(i : Int), e, (p1 : Int)⟩) o9) g9 n9; have z2 := e1.cell 3 rfl; have zf := e1.frozen; have E2 := Hid.of e2.1; have T2 := Hid.of (T1.out.trans e2.2); clear e2 o9 g9 n9) | (go_simp; go_at_call 103; refine (number_any B _ bf br ev _ _ _ _ _ _ _ s1.ps x y HF.out.drew HP.out (by omega)).mono ?_; rintro r w1 ⟨rfl, vp2, hF1, hT1⟩; rw [← Hp1.out]; rw [HAD.out] at hF1; have F1 := Hid.of hF1; have T1 := Hid.of (HT.out.drew.trans hT1); have d2 := hF1.cells.2.2.2.1; have d3 : ∀ o, (w1.alloc o).cell? ⟨bf, 3, none⟩ = some (.slice fa A1.length fc) := fun o => (hF1.alloc o).cells.2.2.2.1; clear hF1 hT1))
          all_goals
            clear F1 T1 e1 d2 d3 z2 zf c3
            revert E2 T2
            generalize w9.setCell ⟨bf, 3, none⟩ (.slice ga (A1.length + 1) gc) = Y
            generalize Value.slice ga (A1.length + 1) gc = va9
            intro E2 T2
            have hL2 : (A1 ++ [(⟨(i : Int), e, (p1 : Int)⟩ : Arr)]).length = (bAdd i e s1 (x, y)).ar.length := by
              rw [List.length_append, HLl.out]; simp [bAdd]
            have hBB : (decide (((bAdd i e s1 (x, y)).ps.length : Int) ≤ 256) && decide (((A1 ++ [(⟨(i : Int), e, (p1 : Int)⟩ : Arr)]).length : Int) ≤ 4096)) = !bBig (bAdd i e s1 (x, y)) := by
              rw [hL2]; exact fits_big _
            have HBB := Hid.of hBB
            clear hBB hL2
            by_cases hfit : bBig (bAdd i e s1 (x, y)) = false
            · go_wp2_with fail
              refine (fits_any B _ bf br _ ev _ _ _ _ _ _ _ _ E2 (by rw [List.length_append]; simp; omega)).mono ?_
              rintro r w2 ⟨rfl, rfl⟩
              rw [HBB.out, hfit]
              go_wp2_with fail
              go_roundw
              case rel => exact ⟨q + 1, va9, vp2, by omega, by go_num, by show FD _ _ _ _ _ _ _ _ _ _ _ _ _ _; rw [HN.out, NF.out, NA.out, ← List.append_assoc, ← HA1.out, ← Hp1.out]; exact E2.out, T2, by show _ = _; rw [HN.out, NF.out]; exact hfit⟩
              case measure => simp [intOf]; omega
            · have hfit' : bBig (bAdd i e s1 (x, y)) = true := by simpa using hfit
              have HEND : Hid (bBig ((crossP LA LB).foldl (bAdd i e) s) = true) := by
                obtain ⟨t, ht⟩ := HC.out
                show _ = _
                rw [ht, List.foldl_append, NF.out]
                exact bBig_fold _ hfit'
              go_wp2_with fail
              refine (fits_any B _ bf br _ ev _ _ _ _ _ _ _ _ E2 (by rw [List.length_append]; simp; omega)).mono ?_
              rintro r w2 ⟨rfl, rfl⟩
              rw [HBB.out, hfit']
              go_wp2_with fail
              go_ret
              exact ⟨va9, vp2, ret_bool (by rw [HEND.out]; rfl), T2.out, E2.out.cells.2.1, fun h => by rw [HEND.out] at h; cases h⟩
        · rw [List.take_of_length_le (show LB.length ≤ q by omega)] at HF HG
          have HN : Hid (crossP (LA.take (k + 1)) LB = crossP (LA.take k) LB ++ LB.map fun z => (x, z)) := crossP_take hlt HX
          go_wp2_with fail
          go_roundw
          case rel => exact ⟨k + 1, va1, vp1, by omega, by go_num, by show FD _ _ _ _ _ _ _ _ _ _ _ _ _ _; rw [HN.out]; exact HF.out, HT, by show _ = _; rw [HN.out]; exact HG.out⟩
          case measure => simp [intOf]; omega
    · rw [List.take_of_length_le (show LA.length ≤ k by omega)] at HF HG
      have ND : Hid ((newA i e s (crossP LA LB)).Pairwise fun x y => x.t ≠ y.t) := newA_nd i e _ s (nodup_crossP (inc_nodup iA.out) (inc_nodup iB.out))
      have NI : Hid (∀ x ∈ newA i e s (crossP LA LB), x.f = i ∧ x.e = e) := newA_in i e _ s
      have FA : Hid (((crossP LA LB).foldl (bAdd i e) s).ar = s.ar ++ newA i e s (crossP LA LB)) := fold_ar i e _ s
      have FL : Hid ((srtA s.ar ++ newA i e s (crossP LA LB)).length = ((crossP LA LB).foldl (bAdd i e) s).ar.length) := by show _ = _; rw [List.length_append, newA_len, bFold_ar, hlen.out]
      have hb1 := (bBig_some HG.out).2
      rw [← FL.out] at hb1
      have lb1 := HF.out.blk.lt
      have c3 := HF.out.cells.2.2.2.1
      rcases HF.out.ar.forms with ⟨hv, hnil⟩ | ⟨g, cap, hv, hg1, hg2, -, hg4, hg5⟩
      · have hA0 : srtA s.ar = [] := (List.append_eq_nil_iff.1 hnil).1
        have hN0 : newA i e s (crossP LA LB) = [] := (List.append_eq_nil_iff.1 hnil).2
        have FIN : Hid (srtA ((crossP LA LB).foldl (bAdd i e) s).ar = []) := by
          show _ = _
          rw [FA.out, hN0, List.append_nil]; exact hA0
        have hz : (srtA s.ar).length = 0 := by rw [hA0]; rfl
        rw [hnil] at HF
        subst hv
        rw [hz]
        clear hb1 hnil hA0
        go_wp2_with fail
        refine (sort_none none 0 _ _).mono ?_
        rintro r w2 ⟨rfl, rfl⟩
        go_wp2_with fail
        go_ret
        exact ⟨.slice none 0 0, vp1, ret_bool (by rw [HG.out]; rfl), HT.out, HF.out.cells.2.1, fun _ => by rw [FIN.out]; exact ⟨HF.out, by rw [FA.out, hN0, List.append_nil, ← hlen.out, hz]; rfl⟩⟩
      · subst hv
        have hAN : (srtA s.ar ++ newA i e s (crossP LA LB)).length = (srtA s.ar).length + (newA i e s (crossP LA LB)).length := List.length_append
        generalize hN : newA i e s (crossP LA LB) = N at *
        generalize hAA : srtA s.ar = A0 at *
        obtain ⟨n1, Hn1⟩ : ∃ n1, Hid (n1 = (A0 ++ N).length) := ⟨_, rfl⟩
        rw [← Hn1.out] at hg4 hb1 c3 hAN
        have HNl : Hid (N.length ≤ 4096) := show _ ≤ _ by omega
        have SB : Hid (∀ D : List Arr, D.Perm N → (D.Pairwise fun x y => x.t ≤ y.t) → A0 ++ D = srtA ((crossP LA LB).foldl (bAdd i e) s).ar) := fun D h1 h2 => by
          rw [FA.out, ← hAA]
          exact srtA_behind hlo.out NI.out h1 (pair_lt h1 h2 ND.out)
        have hc4 := hg4
        rw [hAN] at hc4
        by_cases hcap : A0.length < cap
        · go_wp2_with fail
          refine (sort_go _ B g cap _ A0 N HF.out.ar (by have := HNl.out; omega)).mono ?_
          rintro r w2 ⟨rfl, D, hD1, hD2, hD3, hD4⟩
          have hD5 := HF.out.sorted (g := g) rfl hD3 hD4
          rw [SB.out D hD1 hD2] at hD5
          have HD5 := Hid.of hD5
          have HDL : Hid ((srtA ((crossP LA LB).foldl (bAdd i e) s).ar).length = ((crossP LA LB).foldl (bAdd i e) s).ar.length) := by
            show _ = _
            rw [← SB.out D hD1 hD2, ← FL.out, List.length_append, List.length_append, hD1.length_eq]
          clear hD5 hD3 hD4
          go_wp2_with fail
          go_ret
          exact ⟨_, vp1, ret_bool (by rw [HG.out]; rfl), HT.out.trans HD5.out.2, HD5.out.1.cells.2.1, fun _ => ⟨HD5.out.1, HDL.out⟩⟩
        · have hN0 : N = [] := List.eq_nil_of_length_eq_zero (by omega)
          have hSE := SB.out [] (by rw [hN0]) List.Pairwise.nil
          rw [List.append_nil] at hSE
          have HSE := Hid.of hSE
          rw [hN0, List.append_nil, HSE.out] at HF
          have HDL : Hid ((srtA ((crossP LA LB).foldl (bAdd i e) s).ar).length = ((crossP LA LB).foldl (bAdd i e) s).ar.length) := by
            show _ = _
            rw [← HSE.out, ← FL.out, hN0, List.append_nil]
          have hn0 : n1 = A0.length := by rw [hAN, hN0]; rfl
          have hcc : cap = A0.length := by omega
          subst hcc
          rw [hn0] at c3
          clear hSE
          go_wp2_with fail
          refine (sort_none _ _ _ _).mono ?_
          rintro r w2 ⟨rfl, rfl⟩
          go_wp2_with fail
          go_ret
          exact ⟨_, vp1, ret_bool (by rw [HG.out]; rfl), HT.out, HF.out.cells.2.1, fun _ => ⟨by have h := HF.out; rw [← HSE.out] at h; rw [hN0, List.append_nil, ← HSE.out]; exact h, HDL.out⟩⟩

end Go.Proofs.YtbdkaobbfmgnhaaDoor
namespace Go.Proofs.YtbdkaobbfmgnhaaDoor
open Go.RowKit Go.Shelf Go.Lib Go.Sort
set_option linter.unusedVariables false

theorem putRowI_heap (w : World) (blk off : Nat) (F : Array Int) (j : Nat) : (putRow (Value.int .i64) w blk off F).heap[j]? = if blk = j then (w.heap[j]?).map (fun o => match o with | .cells c e fr => .cells (putCells (Value.int .i64) off F c) e fr | o => o) else w.heap[j]? := by
  unfold putRow mapBlock
  simp only [Array.getElem?_modify]
  by_cases h : blk = j
  · simp only [h, if_true]
    cases w.heap[j]? with
    | none => rfl
    | some o => cases o <;> rfl
  · simp [h]
theorem putI_take (cur : Array Value) (S : List Int) (hl : S.length ≤ cur.size) : (putCells (Value.int .i64) 0 S.toArray cur).toList.take S.length = S.map (Value.int .i64) := by
  apply List.ext_getElem?
  intro t
  by_cases ht : t < S.length
  · rw [List.getElem?_take_of_lt ht, Array.getElem?_toList]
    simp only [putCells, Array.getElem?_mapIdx]
    have hlt : t < cur.size := by omega
    rw [Array.getElem?_eq_getElem hlt, Option.map_some, if_pos ⟨Nat.zero_le _, by simpa using ht⟩]
    simp [ht]
  · rw [List.getElem?_eq_none (by simp; omega), List.getElem?_eq_none (by simp; omega)]

end Go.Proofs.YtbdkaobbfmgnhaaDoor
namespace Go.Proofs.YtbdkaobbfmgnhaaDoor
open Go.RowKit
set_option linter.unusedVariables false

/-- What Within tells (G2). -/
def withOut (a b : Mach) : Bool × List Int × Int :=
  if mayB a = true ∧ mayB b = true then
    if a.ev = b.ev then
      if a.st ≤ 6 ∧ b.st ≤ 6 then ((outW a b).isNone, (outW a b).getD [], 0) else (false, [], 1)
    else (false, [], 3)
  else (false, [], 2)
/-- What Within leaves. -/
def WithPost (w : World) (a b : Mach) (e : Ending) (w' : World) : Prop := ∃ va vc, e = .returned (.tuple #[.bool (withOut a b).1, .slice va (withOut a b).2.1.length vc, .int .i64 (withOut a b).2.2]) ∧ At w' va (withOut a b).2.1 ∧ (withOut a b).2.1.length ≤ maxLen ∧ Below w.heap.size w w'
theorem withPost_err {w w' : World} {a b : Mach} {c : Int} (h : withOut a b = (false, [], c)) (hb : Below w.heap.size w w') : WithPost w a b (.returned (.tuple #[.bool false, .slice none 0 0, .int .i64 c])) w' := by
  unfold WithPost; rw [h]; exact ⟨none, 0, rfl, .inl rfl, Nat.zero_le _, hb⟩
theorem withPost_ok {w w' : World} {a b : Mach} {o : Option (List Int)} {va : Option Addr} {vc : Nat} (h : withOut a b = (o.isNone, o.getD [], 0)) (hv : At w' va (o.getD [])) (hl : (o.getD []).length ≤ maxLen) (hb : Below w.heap.size w w') : WithPost w a b (.returned (.tuple #[.bool o.isNone, .slice va (o.getD []).length vc, .int .i64 0])) w' := by
  unfold WithPost; rw [h]
  exact ⟨va, vc, rfl, hv, hl, hb⟩

end Go.Proofs.YtbdkaobbfmgnhaaDoor
