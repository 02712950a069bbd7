/-
  The walk of steps.first.
-/
import Derived.Test.YtmimjpkllgjdkaaDoorCEstM
import Derived.Test.YtmimjpkllgjdkaaDoorG40
import Derived.Test.YtmimjpkllgjdkaaDoorCIBeg
namespace Go.Proofs.YtmimjpkllgjdkaaDoor
open Go.RowKit Go.Shelf
set_option linter.unusedVariables false
attribute [local go_sem] Oper.semAt_some

/-- Where the two lists lie that come first so far. -/
def PrOk (w : World) (o : Option (List Int × List Int)) (Q : PrV) : Prop :=
  match o with
  | none => Q = ⟨none, 0, 0, none, 0, 0⟩
  | some (u, v) => Q.n = u.length ∧ Q.n' = v.length ∧ At w Q.a u ∧ At w Q.a' v ∧ u.length ≤ 64 ∧ v.length ≤ 64
theorem PrOk.small {w : World} {o : Option (List Int × List Int)} {Q : PrV} (h : PrOk w o Q) : Q.n ≤ 64 ∧ Q.n' ≤ 64 := by
  cases o with
  | none => rw [show Q = _ from h]; exact ⟨Nat.zero_le _, Nat.zero_le _⟩
  | some q =>
    obtain ⟨h1, h2, -, -, h3, h4⟩ := h
    exact ⟨by rw [h1]; exact h3, by rw [h2]; exact h4⟩
/-- They came from the last one on. -/
def Prp {A : List PlC} (pre : List (EP A)) : Prop := ∀ (i : Nat) (x : EP A), pre[i]? = some x → x.k + i + 1 = A.length
theorem Prp.snoc {A : List PlC} {pre : List (EP A)} {x : EP A} (h : Prp (pre ++ [x])) : Prp pre ∧ x.k + pre.length + 1 = A.length :=
  ⟨fun i y hy => h i y (by rw [List.getElem?_append_left (List.getElem?_eq_some_iff.1 hy).1]; exact hy), h pre.length x (by rw [List.getElem?_append_right (Nat.le_refl _)]; simp)⟩
theorem prp_all {A : List PlC} {xs : List (EP A)} (h : xs.map (·.k) = dwN A.length) : Prp xs ∧ xs.length = A.length := by
  have hl : xs.length = A.length := by have := congrArg List.length h; rwa [List.length_map, dwN_len] at this
  refine ⟨fun i x hx => ?_, hl⟩
  have hi := (List.getElem?_eq_some_iff.1 hx).1
  have h1 : (xs.map (·.k))[i]? = some x.k := by rw [List.getElem?_map, hx]; rfl
  rw [h, dwN_at _ _ (by omega)] at h1
  have := Option.some.inj h1
  omega
/-- What a round knows. -/
def FIn (w W0 : World) (secret : List Int) (KA KB : List Kno) {A : List PlC} (ba : Option Addr) (bc : Nat) (pre : List (EP A)) (W : World) : Prop :=
  ∃ (o : Option (List Int × List Int)) (Q : PrV), (Prp pre → SF secret KA KB (A.length - pre.length) o) ∧ PrOk w o Q ∧ Blk W (w.heap.size + 1 + 1 + 1) 113 (prcells Q) ∧ Boxed W (w.heap.size + 1 + 1 + 1 + 1) 4 (.bool o.isSome) ∧ Boxed W (w.heap.size + 1 + 1 + 1 + 1 + 1) 95 (.slice ba A.length bc) ∧ Below (w.heap.size + 3) W0 W
theorem blk_turn {W W' : World} {b : Nat} {t : TypeId} {cs : Array Value} {row : Option Nat} (h : Blk W b t cs) (hg : W.grownBy W' row) (hr : ∀ r, row = some r → ∃ o : Obj, W.heap[r]? = some o ∧ o.isCells = false) : Blk W' b t cs :=
  (grownBy_keeps_cells hg hr (k := b) h rfl).trans h
theorem fin_own {w W0 : World} {secret : List Int} {KA KB : List Kno} {A : List PlC} {ba : Option Addr} {bc : Nat} (hw : w.heap.size + 3 ≤ W0.heap.size) : OwnFrom W0.heap.size (FIn w W0 secret KA KB (A := A) ba bc) := by
  rintro pre W W' row ⟨o, Q, h1, h2, h3, h4, h5, h6⟩ hg hr
  have hr2 : ∀ r, row = some r → ∃ o : Obj, W.heap[r]? = some o ∧ o.isCells = false := fun r e => (hr r e).2
  exact ⟨o, Q, h1, h2, blk_turn h3 hg hr2, blk_turn h4 hg hr2, blk_turn h5 hg hr2, ownFrom_below (β := Unit) hw hw () W W' row h6 hg hr⟩
theorem keeps_below {W W' : World} (hb : Below W.heap.size W W') : KeepsOthers W W' := ⟨hb.size, fun k o hk _ => (hb.block k (Array.getElem?_eq_some_iff.1 hk).1).trans hk⟩
theorem blk_pair {W : World} {b : Nat} {Q : PrV} (h : Blk W b 113 (prcells Q)) (Q' : PrV) : Blk ((W.setCell ⟨b, 0, none⟩ (.slice Q'.a Q'.n Q'.c)).setCell ⟨b, 1, none⟩ (.slice Q'.a' Q'.n' Q'.c')) b 113 (prcells Q') :=
  (h.set 0 (.slice Q'.a Q'.n Q'.c)).set 1 (.slice Q'.a' Q'.n' Q'.c')
theorem below_set2 {W V : World} {B b' : Nat} (h : Below B V W) (hb : B ≤ b') (v0 v1 : Value) : Below B V ((W.setCell ⟨b', 0, none⟩ v0).setCell ⟨b', 1, none⟩ v1) :=
  (h.setCell (p := ⟨b', 0, none⟩) hb v0).setCell (p := ⟨b', 1, none⟩) hb v1
theorem blk_other2 {W : World} {b b' : Nat} {t : TypeId} {cs : Array Value} (h : Blk W b t cs) (hne : b ≠ b') (v0 v1 : Value) : Blk ((W.setCell ⟨b', 0, none⟩ v0).setCell ⟨b', 1, none⟩ v1) b t cs := (h.other hne v0).other hne v1
theorem prcell_at {W : World} {b : Nat} {Q : PrV} (h : Blk W b 113 (prcells Q)) : W.cell? ⟨b, 0, none⟩ = some (.slice Q.a Q.n Q.c) ∧ W.cell? ⟨b, 1, none⟩ = some (.slice Q.a' Q.n' Q.c') := ⟨h.cell 0 rfl, h.cell 1 rfl⟩
theorem results_pairTmp {fn : Func} {p u : Tmp} (h : fn.results = #[.cell p 113, .tmp u]) (tmps : Array Value) (w : World) (g : Nat) (Q : PrV) (x : Value) (hp : tmps.getD p undef = .pointer (some ⟨g, 0, none⟩)) (hu : tmps.getD u undef = x) (hB : Blk w g 113 (prcells Q)) :
    (results fn tmps).run Tryd.prog w = .ok (.tuple #[prval Q, x]) w := by
  obtain ⟨x0, x1⟩ := prcell_at hB
  have e : (results fn tmps).run Tryd.prog w = ((asAddr (tmps.getD p undef)).run Tryd.prog w).andThen fun a w₁ => ((loadVar 113 a).run Tryd.prog w₁).andThen fun r w₂ => .ok (.tuple #[r, tmps.getD u undef]) w₂ := by
    simp only [results, h]
    simp [Sem.run_bind, Result.andThen]
  rw [e, hp, hu]
  go_simp
theorem regQ_in {φ : Act → World → Prop} : ¬ LetsOut (regQ φ) := fun ⟨_, _, h⟩ => h

section
variable {A Bl : List PlC} {la lb : List (List Int × List Int)} {seen secret : List Int} {R : Nat → Nat}
/-- What a place tells with another one is what their lists tell. -/
theorem tells_ok (rA : RepCL A la) (rB : RepCL Bl lb) (hR : Rep R secret) {k j : Nat} {q b : PlC} (hq : A[k]? = some q) (hb : Bl[j]? = some b) : ∃ x y, la[k]? = some x ∧ lb[j]? = some y ∧ tellsP q.s R b = okP secret (-1) (x.1, wordS seen x.2) (y.1, wordS seen y.2) := by
  obtain ⟨x, hx, hrx⟩ := rA.rep k q hq
  obtain ⟨y, hy, hry⟩ := rB.rep j b hb
  refine ⟨x, y, hx, hy, ?_⟩
  unfold tellsP okP
  rw [only_meet hrx.1 hry.1 hR (inc_nodup hry.2)]
  simp
theorem none_ok (rA : RepCL A la) (rB : RepCL Bl lb) (hR : Rep R secret) {k : Nat} {q : PlC} {x : List Int × List Int} (hq : A[k]? = some q) (hx : la[k]? = some x) (h : ∀ b ∈ Bl, tellsP q.s R b = false) : ∀ y ∈ knL seen lb, okP secret (-1) (x.1, wordS seen x.2) y = false := fun y hy => by
  obtain ⟨z, hz, rfl⟩ := List.mem_map.1 hy
  obtain ⟨j, hj⟩ := List.mem_iff_getElem?.1 hz
  obtain ⟨b, hb, -⟩ := rB.at hj
  obtain ⟨x', y', h1, h2, h3⟩ := tells_ok (seen := seen) rA rB hR hq hb
  rw [hx] at h1
  rw [hj] at h2
  have e1 := Option.some.inj h1
  have e2 := Option.some.inj h2
  subst e1
  subst e2
  rw [← h3]
  exact h b (List.mem_of_getElem? hb)
theorem first_ok (rA : RepCL A la) (rB : RepCL Bl lb) (hR : Rep R secret) {k j : Nat} {q : PlC} {x : List Int × List Int} (hq : A[k]? = some q) (hx : la[k]? = some x) (h : noneP (tellsP q.s R) Bl j) : ∀ (i : Nat) (z : Kno), i < j → (knL seen lb)[i]? = some z → okP secret (-1) (x.1, wordS seen x.2) z = false := fun i z hi hz => by
  unfold knL at hz
  rw [List.getElem?_map] at hz
  cases hl : lb[i]? with
  | none => rw [hl] at hz; cases hz
  | some y =>
    rw [hl] at hz
    have e0 : (y.1, wordS seen y.2) = z := by simpa using hz
    obtain ⟨b, hb, -⟩ := rB.at hl
    obtain ⟨x', y', h1, h2, h3⟩ := tells_ok (seen := seen) rA rB hR hq hb
    rw [hx] at h1
    rw [hl] at h2
    have e1 := Option.some.inj h1
    have e2 := Option.some.inj h2
    subst e1
    subst e2
    rw [← e0, ← h3]
    exact h i b hi hb
end

set_option maxRecDepth 100000 in
set_option maxHeartbeats 16000000 in
theorem sfirst_in (A Bl : List PlC) (la lb : List (List Int × List Int)) (seen secret : List Int) (R : Nat → Nat) (ba : Option Addr) (bc : Nat) (va : Option Addr) (vc : Nat) (w : World) (hlA : A.length ≤ 64) (hlB : Bl.length ≤ 64) (RA : Hid (RdC w ba A)) (RB : Hid (RdC w va Bl)) (IA : Hid (∀ q ∈ A, InnW 0 w q.v q.word)) (IB : Hid (∀ q ∈ Bl, InnW 0 w q.v q.word)) (rA : Hid (RepCL A la)) (rB : Hid (RepCL Bl lb)) (wA : Hid (WdC seen A la)) (wB : Hid (WdC seen Bl lb)) (lA : Hid (∀ q ∈ A, q.word.length ≤ 64)) (lB : Hid (∀ q ∈ Bl, q.word.length ≤ 64)) (hR : Hid (Rep R secret)) (iA : Hid ((knL seen la).Pairwise fun a b => lessB a.2 b.2 = true)) (iB : Hid ((knL seen lb).Pairwise fun a b => lessB a.2 b.2 = true)) :
    CallsIn Fence.wide 5 Tryd.prog 88 #[.slice ba A.length bc, .slice va Bl.length vc, sval R] w fun e w' => ∃ o Q, e = .returned (.tuple #[prval Q, .bool o.isSome]) ∧ SF secret (knL seen la) (knL seen lb) 0 o ∧ PrOk w o Q ∧ Below w.heap.size w w' := by
  have hmf : ∀ (fn : Fn) (first cap : Array Value) (w : World), (Instr.makeFunc fn first cap).run Tryd.prog w = .ok (.func fn first cap) w := fun _ _ _ _ => rfl
  have hoA : Hid (∀ q ∈ A, okS q.s) := fun q hq => by
    obtain ⟨k, hk⟩ := List.mem_iff_getElem?.1 hq
    obtain ⟨x, -, h⟩ := rA.out.rep k q hk
    exact h.1.ok
  have hoB : Hid (∀ q ∈ Bl, okS q.s) := fun q hq => by
    obtain ⟨k, hk⟩ := List.mem_iff_getElem?.1 hq
    obtain ⟨x, -, h⟩ := rB.out.rep k q hk
    exact h.1.ok
  obtain ⟨KA, HKA⟩ : ∃ K, Hid (K = knL seen la) := ⟨_, rfl⟩
  obtain ⟨KB, HKB⟩ : ∃ K, Hid (K = knL seen lb) := ⟨_, rfl⟩
  rw [← HKA.out] at iA ⊢
  rw [← HKB.out] at iB ⊢
  have hlKA : Hid (KA.length = A.length) := by show _ = _; rw [HKA.out, knL_len, rA.out.len]
  refine callsIn_of_wp_marks Tryd.func88 rfl trivial ?_ rfl
  simp only [Tryd.ntmps88, List.size_toArray, List.length_cons, List.length_nil, Nat.reduceAdd, Nat.reduceSub, Array.replicate_succ, Array.replicate_zero, List.push_toArray, List.append_toArray, List.nil_append, List.cons_append]
  refine wpIn_wide.2 ?_
  have B0 : Hid (Below w.heap.size w (((((w.alloc (.cells #[.slice va Bl.length vc] 95)).alloc (.cells (scells R) 69)).alloc (.cells #[.slice none 0 0, .slice none 0 0] 113)).alloc (.cells #[.slice none 0 0, .slice none 0 0] 113)).alloc (.cells #[.bool false] 4))) := (((((Below.refl _ _).alloc (Nat.le_refl _) _).alloc (by simp) _).alloc (by simp; omega) _).alloc (by simp; omega) _).alloc (by simp; omega) _
  have K1 : Hid (Boxed (((((w.alloc (.cells #[.slice va Bl.length vc] 95)).alloc (.cells (scells R) 69)).alloc (.cells #[.slice none 0 0, .slice none 0 0] 113)).alloc (.cells #[.slice none 0 0, .slice none 0 0] 113)).alloc (.cells #[.bool false] 4)) w.heap.size 95 (.slice va Bl.length vc)) := ((((Boxed.new w _ _).alloc _).alloc _).alloc _).alloc _
  have K2 : Hid (SB (((((w.alloc (.cells #[.slice va Bl.length vc] 95)).alloc (.cells (scells R) 69)).alloc (.cells #[.slice none 0 0, .slice none 0 0] 113)).alloc (.cells #[.slice none 0 0, .slice none 0 0] 113)).alloc (.cells #[.bool false] 4)) (w.heap.size + 1) R) := by
    have := (((Blk.new (w.alloc (.cells #[.slice va Bl.length vc] 95)) 69 (scells R)).alloc (.cells #[.slice none 0 0, .slice none 0 0] 113)).alloc (.cells #[.slice none 0 0, .slice none 0 0] 113)).alloc (.cells #[.bool false] 4)
    rwa [World.size_alloc] at this
  have K3 : Hid (Blk (((((w.alloc (.cells #[.slice va Bl.length vc] 95)).alloc (.cells (scells R) 69)).alloc (.cells #[.slice none 0 0, .slice none 0 0] 113)).alloc (.cells #[.slice none 0 0, .slice none 0 0] 113)).alloc (.cells #[.bool false] 4)) (w.heap.size + 1 + 1) 113 #[.slice none 0 0, .slice none 0 0]) := by
    have := ((Blk.new ((w.alloc (.cells #[.slice va Bl.length vc] 95)).alloc (.cells (scells R) 69)) 113 #[.slice none 0 0, .slice none 0 0]).alloc (.cells #[.slice none 0 0, .slice none 0 0] 113)).alloc (.cells #[.bool false] 4)
    rwa [World.size_alloc, World.size_alloc] at this
  have K4 : Hid (Blk (((((w.alloc (.cells #[.slice va Bl.length vc] 95)).alloc (.cells (scells R) 69)).alloc (.cells #[.slice none 0 0, .slice none 0 0] 113)).alloc (.cells #[.slice none 0 0, .slice none 0 0] 113)).alloc (.cells #[.bool false] 4)) (w.heap.size + 1 + 1 + 1) 113 #[.slice none 0 0, .slice none 0 0]) := by
    have := (Blk.new (((w.alloc (.cells #[.slice va Bl.length vc] 95)).alloc (.cells (scells R) 69)).alloc (.cells #[.slice none 0 0, .slice none 0 0] 113)) 113 #[.slice none 0 0, .slice none 0 0]).alloc (.cells #[.bool false] 4)
    rwa [World.size_alloc, World.size_alloc, World.size_alloc] at this
  have K5 : Hid (Boxed (((((w.alloc (.cells #[.slice va Bl.length vc] 95)).alloc (.cells (scells R) 69)).alloc (.cells #[.slice none 0 0, .slice none 0 0] 113)).alloc (.cells #[.slice none 0 0, .slice none 0 0] 113)).alloc (.cells #[.bool false] 4)) (w.heap.size + 1 + 1 + 1 + 1) 4 (.bool false)) := by
    have := Boxed.new ((((w.alloc (.cells #[.slice va Bl.length vc] 95)).alloc (.cells (scells R) 69)).alloc (.cells #[.slice none 0 0, .slice none 0 0] 113)).alloc (.cells #[.slice none 0 0, .slice none 0 0] 113)) 4 (.bool false)
    rwa [World.size_alloc, World.size_alloc, World.size_alloc, World.size_alloc] at this
  have hsz : Hid ((((((w.alloc (.cells #[.slice va Bl.length vc] 95)).alloc (.cells (scells R) 69)).alloc (.cells #[.slice none 0 0, .slice none 0 0] 113)).alloc (.cells #[.slice none 0 0, .slice none 0 0] 113)).alloc (.cells #[.bool false] 4)).heap.size = w.heap.size + 1 + 1 + 1 + 1 + 1) := by show _ = _; simp
  go_wp2_with fail
  revert B0 K1 K2 K3 K4 K5 hsz
  generalize (((((w.alloc (.cells #[.slice va Bl.length vc] 95)).alloc (.cells (scells R) 69)).alloc (.cells #[.slice none 0 0, .slice none 0 0] 113)).alloc (.cells #[.slice none 0 0, .slice none 0 0] 113)).alloc (.cells #[.bool false] 4)) = V5
  intro B0 K1 K2 K3 K4 K5 hsz
  refine (backwardP_any ba A.length bc V5).mono ?_
  rintro e V6 ⟨rfl, rfl⟩
  have hb : Below V5.heap.size V5 (V5.alloc (.cells #[.slice ba A.length bc] 95)) := (Below.refl _ _).alloc (Nat.le_refl _) _
  have BX : Hid (Boxed (V5.alloc (.cells #[.slice ba A.length bc] 95)) V5.heap.size 95 (.slice ba A.length bc)) := Boxed.new V5 _ _
  have hz0 : Hid ((V5.alloc (.cells #[.slice ba A.length bc] 95)).heap.size = V5.heap.size + 1) := by show _ = _; simp
  replace B0 := Hid.of (B0.out.trans (hb.mono B0.out.size))
  replace K1 : Hid (Boxed (V5.alloc (.cells #[.slice ba A.length bc] 95)) w.heap.size 95 (.slice va Bl.length vc)) := K1.out.alloc _
  replace K2 := Hid.of (K2.out.below hb K2.out.lt)
  replace K3 := Hid.of (K3.out.below hb K3.out.lt)
  replace K4 := Hid.of (K4.out.below hb K4.out.lt)
  replace K5 : Hid (Boxed (V5.alloc (.cells #[.slice ba A.length bc] 95)) (w.heap.size + 1 + 1 + 1 + 1) 4 (.bool false)) := K5.out.alloc _
  clear hb
  rw [hsz.out] at BX hz0
  rw [hsz.out]
  go_wp2_with fail
  revert BX hz0 B0 K1 K2 K3 K4 K5
  generalize V5.alloc (.cells #[.slice ba A.length bc] 95) = W0
  intro BX hz0 B0 K1 K2 K3 K4 K5
  have hW0 : W0.heap.size = w.heap.size + 1 + 1 + 1 + 1 + 1 + 1 := hz0.out
  obtain ⟨ys0, hxs⟩ := ep_of (L := A) (fun q hq => by obtain ⟨a, c, e, -⟩ := (IA.out q hq).at; exact ⟨a, c, e⟩) A.length (Nat.le_refl _)
  have HXS := Hid.of hxs
  have hAW : Hid (A = [] ∨ ∃ g o, ba = some ⟨g, o, none⟩ ∧ g < w.heap.size + 3 ∧ ∀ (k : Nat) (q : PlC), A[k]? = some q → ∀ (j : Nat) (u : Value), (pccells q)[j]? = some u → W0.cell? ⟨g, o + k * 5 + j, none⟩ = some u) := by
    rcases RA.out with h | ⟨g, o, h1, h2, h3⟩
    · exact .inl h
    · exact .inr ⟨g, o, h1, by omega, fun k q hq j u hu => (B0.out.cell (p := ⟨g, o + k * 5 + j, none⟩) h2).trans (h3 k q hq j u hu)⟩
  refine (wpIn_wide (n := 5)).1 ?_
  refine wpIn_rangeFunc_ownH rfl (by omega) (gf := 143) (lb := #[.pointer (some ⟨w.heap.size + 1 + 1 + 1 + 1 + 1, 0, none⟩)]) rfl trivial (enters_of Tryd.func143 (by kernel_rfl) rfl)
    (bkp_stops 4 (by omega) (w.heap.size + 1 + 1 + 1 + 1 + 1) (w.heap.size + 3) ba bc hlA ys0 hxs W0 BX.out (by omega) hAW.out) KpB.trans (KpB.put (by omega) (by omega)) (Below.refl _ _) (fun _ => rfl)
    (FIn w W0 secret KA KB ba bc)
    (fun _ _ _ => False)
    (fin_own (by omega))
    (fun _ _ _ _ _ hs _ _ => hs)
    ⟨none, ⟨none, 0, 0, none, 0, 0⟩, fun _ => by have := SF.start secret KA KB; rw [hlKA.out] at this; exact this, rfl, K4.out, K5.out, BX.out, Below.refl _ _⟩
    (fun x a' W => ∃ pb, a' = { tmps := #[.slice ba A.length bc, .slice va Bl.length vc, sval R, undef, .pointer (some ⟨w.heap.size, 0, none⟩), .pointer (some ⟨w.heap.size + 1, 0, none⟩), .pointer (some ⟨w.heap.size + 1 + 1, 0, none⟩), .bool false, .pointer (some ⟨w.heap.size + 1 + 1 + 1, 0, none⟩), .pointer (some ⟨w.heap.size + 1 + 1 + 1 + 1, 0, none⟩), undef, .pointer (some ⟨pb, 0, none⟩), undef, undef, .slice ba A.length bc, .func (.func 143) #[] #[.pointer (some ⟨w.heap.size + 1 + 1 + 1 + 1 + 1, 0, none⟩)], .int .i64 x.k, pcval x.pl, undef, undef, undef, undef, undef, undef, undef, undef, undef, undef, undef, undef, undef, undef, undef, undef, undef, undef, undef, undef, undef, undef, undef, undef], defers := [] } ∧ Blk W pb 99 (pcarr x.pl))
    (fun x a' _ W W' row h hg hr => by obtain ⟨pb, e, hB⟩ := h; exact ⟨pb, e, blk_turn hB hg (fun r e => (hr r e).2)⟩) ?assign ?body ?done ?stop
  case assign =>
    rintro l pre x W K hI hK
    have hBl : Below (w.heap.size + 3) W0 W := by obtain ⟨o, Q, -, -, -, -, -, h6⟩ := hI; exact h6
    have hsW : W0.heap.size ≤ W.heap.size := hBl.size
    obtain ⟨xk, xs, xa, xc, xw, xat⟩ := x
    have HI := Hid.of hI
    have HK := Hid.of hK
    clear hI hK hxs
    gi_wp2
    refine HK.out _ _ ((KeepsOthers.alloc W _).from _) ⟨(Below.refl _ _).alloc (by omega) _, Below.heap_alloc W _ _ (by omega)⟩ ((fin_own (by omega)).alloc _ HI.out) ⟨W.heap.size, rfl, Blk.new W _ _⟩
  case body =>
    rintro l pre x a' W hl hloop ⟨o, Q, hSF, hPr, hK4, hK5, hBx, hBl⟩ ⟨pb, rfl, hKb⟩ hlt
    obtain ⟨xk, xs, xa, xc, xw, xat⟩ := x
    have HSF := Hid.of hSF
    have HPr := Hid.of hPr
    have H4 := Hid.of hK4
    have H5 := Hid.of hK5
    have H6 := Hid.of hBx
    have HBl := Hid.of hBl
    have HKb := Hid.of hKb
    have Bw : Hid (Below w.heap.size w W) := B0.out.trans (hBl.mono (by omega))
    have hsW : W0.heap.size ≤ W.heap.size := hBl.size
    have hxm := List.mem_of_getElem? xat
    obtain ⟨x, hx, hrx⟩ := rA.out.rep xk _ xat
    have HX := Hid.of hx
    have HXA := Hid.of xat
    have HXW : Hid (xw = wordS seen x.2) := wA.out xk _ x xat hx
    have HXK : Hid (KA[xk]? = some (x.1, xw)) := by
      show _ = _
      rw [HKA.out, HXW.out]; unfold knL; rw [List.getElem?_map, hx]; rfl
    have HXL : Hid (xw.length ≤ 64) := lA.out _ hxm
    have hat : At w xa xw := by obtain ⟨a, c, e, h, -⟩ := (IA.out _ hxm).at; cases e; exact h
    have HAT := Hid.of hat
    have c1 : W.cell? ⟨w.heap.size, 0, none⟩ = some (.slice va Bl.length vc) := Boxed.cell ((hBl.block _ (by omega)).trans K1.out)
    have K2W := Hid.of (K2.out.below hBl (by omega))
    have CALL := Hid.of (idxF_any Bl va vc ⟨xs, .slice xa xw.length xc, xw⟩ R (hoA.out _ hxm) hR.out.ok pb (w.heap.size + 1) W hlB (Hid.of (RB.out.below Bw.out)) (Hid.of (fun q hq => (IB.out q hq).below Bw.out (Nat.zero_le _))) hoB HKb K2W)
    clear hSF hPr hK4 hK5 hBx hBl hKb hx hrx hat hxm hxs hloop
    have HLP := Hid.of hlt
    clear hlt
    gi_wp2_with fail
    refine ⟨trivial, CallsIn.mono (CallsIn.inRound l (callsIn_wide.2 CALL.out)) ?_⟩
    rintro e' w1 ⟨r, rfl, hix, hb1⟩
    have HB1 := Hid.of hb1
    have hs1 : W.heap.size ≤ w1.heap.size := hb1.size
    clear hb1 CALL c1
    have HK1 : Hid (∀ (o' : Option (List Int × List Int)), (Prp pre → SF secret KA KB (xk + 1) o → SF secret KA KB xk o') → Prp (pre ++ [(⟨xk, xs, xa, xc, xw, xat⟩ : EP A)]) → SF secret KA KB (A.length - (pre ++ [(⟨xk, xs, xa, xc, xw, xat⟩ : EP A)]).length) o') := fun o' h hP => by
      obtain ⟨hP1, hk⟩ := Prp.snoc hP
      have hk : xk + pre.length + 1 = A.length := hk
      rw [List.length_append]
      have e1 : A.length - (pre.length + [(⟨xk, xs, xa, xc, xw, xat⟩ : EP A)].length) = xk := by simp; omega
      have e2 : A.length - pre.length = xk + 1 := by omega
      rw [e1]
      have h2 := HSF.out hP1
      rw [e2] at h2
      exact h hP1 h2
    rcases hix with ⟨rfl, hno⟩ | ⟨j, q, rfl, hq, hte, hn⟩
    · have HNO := Hid.of hno
      clear hno
      gi_wp2_with fail
      refine ⟨(keeps_below HB1.out).from _, ⟨HB1.out.mono (by omega), HB1.out.block _ (by omega)⟩, o, Q, HK1.out o (fun _ h => ?_), HPr.out, H4.out.below HB1.out H4.out.lt, (HB1.out.block _ H5.out.lt).trans H5.out, (HB1.out.block _ H6.out.lt).trans H6.out, HBl.out.trans (HB1.out.mono (by omega))⟩
      refine SF.none h HXK.out ?_
      rw [HXW.out, HKB.out]
      exact none_ok rA.out rB.out hR.out HXA.out HX.out HNO.out
    · obtain ⟨y, hy, -⟩ := rB.out.rep j q hq
      have hqm := List.mem_of_getElem? hq
      obtain ⟨ya, yc, hyv, hyat, -, -⟩ := (IB.out q hqm).at
      have hyl := lB.out q hqm
      have hyw := wB.out j q y hq hy
      have hokp : okP secret (-1) (x.1, wordS seen x.2) (y.1, wordS seen y.2) = true := by
        obtain ⟨x', y', h1, h2, h3⟩ := tells_ok (seen := seen) rA.out rB.out hR.out HXA.out hq
        rw [HX.out] at h1
        rw [hy] at h2
        have e1 := Option.some.inj h1
        have e2 := Option.some.inj h2
        subst e1
        subst e2
        rw [← h3]; exact hte
      have hno := first_ok (seen := seen) rA.out rB.out hR.out HXA.out HX.out hn
      obtain ⟨qs, qv, yw⟩ := q
      dsimp only at hyv hyat hyl hyw
      subst hyv
      rcases RB.out with h0 | ⟨g, of, hva, hg, hc⟩
      · rw [h0] at hq; simp at hq
      subst hva
      have hjl : j < Bl.length := (List.getElem?_eq_some_iff.1 hq).1
      have d4 := hc j _ hq 4 _ rfl
      have HYK : Hid (KB[j]? = some (y.1, yw)) := by
        show _ = _
        rw [HKB.out, hyw]; unfold knL; rw [List.getElem?_map, hy]; rfl
      have HOKP : Hid (okP secret (-1) (x.1, xw) (y.1, yw) = true) := by show _ = _; rw [HXW.out, hyw]; exact hokp
      have HNO : Hid (∀ (i : Nat) (z : Kno), i < j → KB[i]? = some z → okP secret (-1) (x.1, xw) z = false) := by
        show ∀ (i : Nat) (z : Kno), _
        rw [HXW.out, HKB.out]; exact hno
      have HYL := Hid.of hyl
      have HYA := Hid.of hyat
      have Bw1 : Hid (Below w.heap.size w w1) := Bw.out.trans (HB1.out.mono Bw.out.size)
      have SA : Hid (∀ X, Below w1.heap.size w1 X → X.cell? ⟨pb, 4, none⟩ = some (.slice xa xw.length xc) ∧ X.cell? ⟨w.heap.size, 0, none⟩ = some (.slice (some ⟨g, of, none⟩) Bl.length vc) ∧ X.cell? ⟨g, of + j * 5 + 4, none⟩ = some (.slice ya yw.length yc)) := fun X hX => by
        have h1 : Below W.heap.size W X := HB1.out.trans (hX.mono hs1)
        refine ⟨(HKb.out.below h1 HKb.out.lt).cell 4 rfl, ?_, ?_⟩
        · exact Boxed.cell (((HBl.out.trans (h1.mono (by omega))).block _ (by omega)).trans K1.out)
        · exact ((Bw1.out.trans (hX.mono Bw1.out.size)).cell (p := ⟨g, of + j * 5 + 4, none⟩) hg).trans d4
      clear hq hte hn hy hyat hyl hyw hokp hno hqm hc hg d4
      have hj0 : (0 : Int) ≤ (j : Int) := by omega
      have hjI : (j : Int) < (Bl.length : Int) := by omega
      have hjd : decide ((j : Int) < 0) = false := by simp
      gi_wp2_with fail
      refine Code.wpIn_mono (Q := regQ fun a' X => ∃ (pq : Nat) (r23 r24 r25 r26 r27 r28 r29 r30 : Value), a' = { tmps := #[.slice ba A.length bc, .slice (some ⟨g, of, none⟩) Bl.length vc, sval R, undef, .pointer (some ⟨w.heap.size, 0, none⟩), .pointer (some ⟨w.heap.size + 1, 0, none⟩), .pointer (some ⟨w.heap.size + 1 + 1, 0, none⟩), .bool false, .pointer (some ⟨w.heap.size + 1 + 1 + 1, 0, none⟩), .pointer (some ⟨w.heap.size + 1 + 1 + 1 + 1, 0, none⟩), undef, .pointer (some ⟨pb, 0, none⟩), .int .i64 j, .pointer (some ⟨pq, 0, none⟩), .slice ba A.length bc, .func (.func 143) #[] #[.pointer (some ⟨w.heap.size + 1 + 1 + 1 + 1 + 1, 0, none⟩)], .int .i64 xk, pcval ⟨xs, .slice xa xw.length xc, xw⟩, .slice (some ⟨g, of, none⟩) Bl.length vc, .func (.func 118) #[] #[.pointer (some ⟨pb, 0, none⟩), .pointer (some ⟨w.heap.size + 1, 0, none⟩)], .int .i64 j, .int .i64 j, .bool false, r23, r24, r25, r26, r27, r28, r29, r30, undef, undef, undef, undef, undef, undef, undef, undef, undef, undef, undef], defers := [] } ∧ Blk X pq 113 (prcells (⟨xa, xw.length, xc, ya, yw.length, yc⟩ : PrV)) ∧ w1.heap.size ≤ pq ∧ Below w1.heap.size w1 X) ?aft ?reg
      case reg =>
        refine wpIn_region_round (S := fun w' => w'.cell? ⟨pb, 4, none⟩ = some (.slice xa xw.length xc) ∧ w'.cell? ⟨w.heap.size, 0, none⟩ = some (.slice (some ⟨g, of, none⟩) Bl.length vc) ∧ w'.cell? ⟨g, of + j * 5 + 4, none⟩ = some (.slice ya yw.length yc)) (by kernel_rfl) (noDefer_spec (by kernel_rfl)) regQ_in (SA.out _ (Below.refl _ _).drew) (fun hS => ?_)
        have BF : Hid (Below w1.heap.size w1 w1.drew) := (Below.refl _ _).drew
        revert hS BF
        generalize w1.drew = Y0
        intro hS BF
        refine wpAnyH_take (i := 0) (v := .pointer (some ⟨pb, 4, none⟩)) rfl (by kernel_rfl) (by kernel_rfl) (by kernel_rfl) (fun _ _ _ h => h) (Or.inl ⟨by kernel_rfl, fun w' hw' => by obtain ⟨q0, q1, q2⟩ := hw'; go_simp⟩) hS ?_
        refine wpAnyH_take (i := 1) (v := .slice xa xw.length xc) rfl (by kernel_rfl) (by kernel_rfl) (by kernel_rfl) (fun _ _ _ h => h) (Or.inl ⟨by kernel_rfl, fun w' hw' => by obtain ⟨q0, q1, q2⟩ := hw'; go_simp⟩) hS ?_
        refine wpAnyH_take (i := 2) (v := .slice (some ⟨g, of, none⟩) Bl.length vc) rfl (by kernel_rfl) (by kernel_rfl) (by kernel_rfl) (fun _ _ _ h => h) (Or.inl ⟨by kernel_rfl, fun w' hw' => by obtain ⟨q0, q1, q2⟩ := hw'; go_simp⟩) hS ?_
        refine wpAnyH_take (i := 3) (v := .int .i64 j) rfl (by kernel_rfl) (by kernel_rfl) (by kernel_rfl) (fun _ _ _ h => h) (Or.inl ⟨by kernel_rfl, fun w' hw' => by obtain ⟨q0, q1, q2⟩ := hw'; go_simp⟩) hS ?_
        refine wpAnyH_take (i := 4) (v := .pointer (some ⟨g, of + j * 5, none⟩)) rfl (by kernel_rfl) (by kernel_rfl) (by kernel_rfl) (fun _ _ _ h => h) (Or.inl ⟨by kernel_rfl, fun w' hw' => by obtain ⟨q0, q1, q2⟩ := hw'; go_simp⟩) hS ?_
        refine wpAnyH_take (i := 5) (v := .pointer (some ⟨g, of + j * 5 + 4, none⟩)) rfl (by kernel_rfl) (by kernel_rfl) (by kernel_rfl) (fun _ _ _ h => h) (Or.inl ⟨by kernel_rfl, fun w' hw' => by obtain ⟨q0, q1, q2⟩ := hw'; go_simp⟩) hS ?_
        refine wpAnyH_take (i := 6) (v := .slice ya yw.length yc) rfl (by kernel_rfl) (by kernel_rfl) (by kernel_rfl) (fun _ _ _ h => h) (Or.inl ⟨by kernel_rfl, fun w' hw' => by obtain ⟨q0, q1, q2⟩ := hw'; go_simp⟩) hS ?_
        refine wpAnyH_take (i := 7) (v := .agg #[.slice xa xw.length xc, .slice ya yw.length yc]) rfl (by kernel_rfl) (by kernel_rfl) (by kernel_rfl) (fun _ _ _ h => h) (Or.inl ⟨by kernel_rfl, fun w' hw' => by obtain ⟨q0, q1, q2⟩ := hw'; go_simp⟩) hS ?_
        simp only [Act.put, List.setIfInBounds_toArray]
        refine wpAnyH_ready (rs := [8]) (by kernel_rfl) (by simp) ?_
        refine AllReadyH.cons rfl (fun K' hK' => ?_) AllReadyH.nil
        clear hS
        go_simp
        have hb : Below Y0.heap.size Y0 (Y0.alloc (.cells #[.slice none 0 0, .slice none 0 0] 113)) := (Below.refl _ _).alloc (Nat.le_refl _) _
        have P13 : Hid (w1.heap.size ≤ Y0.heap.size) := BF.out.size
        replace BF := Hid.of (BF.out.trans (hb.mono BF.out.size))
        have K13 := Hid.of (Blk.new Y0 113 (prcells ⟨none, 0, 0, none, 0, 0⟩))
        refine hK'.out _ _ (SA.out _ BF.out) (fun hS => ?_)
        clear hK' K' hb
        revert P13 BF K13 hS
        show Hid _ → Hid (Below w1.heap.size w1 (Y0.alloc (.cells #[.slice none 0 0, .slice none 0 0] 113))) → Hid (Blk (Y0.alloc (.cells #[.slice none 0 0, .slice none 0 0] 113)) _ _ _) → _
        generalize Y0.alloc (.cells #[.slice none 0 0, .slice none 0 0] 113) = Y1
        generalize Y0.heap.size = pq
        intro P13 BF K13 hS
        refine wpAnyH_ready (rs := [9]) (by kernel_rfl) (by simp) ?_
        refine AllReadyH.cons rfl (fun K' hK' => ?_) AllReadyH.nil
        clear hS
        have fz := K13.out.frozen
        obtain ⟨r0, r1⟩ := prcell_at K13.out
        go_simp
        replace BF := Hid.of (below_set2 BF.out (b' := pq) P13.out (.slice xa xw.length xc) (.slice ya yw.length yc))
        replace K13 := Hid.of (blk_pair K13.out (⟨xa, xw.length, xc, ya, yw.length, yc⟩ : PrV))
        refine hK'.out _ _ (SA.out _ BF.out) (fun hS => ?_)
        clear hK' K' fz r0 r1
        refine wpAnyH_done (by kernel_rfl) ?_ _
        exact ⟨pq, _, _, _, _, _, _, _, _, rfl, K13.out, P13.out, BF.out⟩
      case aft =>
        refine regQ_imp ?_
        rintro a' X ⟨pq, r23, r24, r25, r26, r27, r28, r29, r30, rfl, kq, hpq, bx⟩
        have KQ := Hid.of kq
        have BX1 := Hid.of bx
        have HPQ := Hid.of hpq
        have WX : Hid (Below W.heap.size W X) := HB1.out.trans (bx.mono hs1)
        have hsX : W.heap.size ≤ X.heap.size := WX.out.size
        clear kq bx SA hpq
        have X4 := Hid.of (H4.out.below WX.out H4.out.lt)
        have X5 : Hid (Boxed X (w.heap.size + 1 + 1 + 1 + 1) 4 (.bool o.isSome)) := (WX.out.block _ H5.out.lt).trans H5.out
        have X6 : Hid (Boxed X (w.heap.size + 1 + 1 + 1 + 1 + 1) 95 (.slice ba A.length bc)) := (WX.out.block _ H6.out.lt).trans H6.out
        cases o with
        | none =>
          replace X5 : Hid (Boxed X (w.heap.size + 1 + 1 + 1 + 1) 4 (.bool false)) := X5.out
          have HS1 : Hid (Prp (pre ++ [(⟨xk, xs, xa, xc, xw, xat⟩ : EP A)]) → SF secret KA KB (A.length - (pre ++ [(⟨xk, xs, xa, xc, xw, xat⟩ : EP A)]).length) (some (xw, yw))) := HK1.out _ (fun _ h => h.put (x := (x.1, xw)) (y := (y.1, yw)) HXK.out iB.out iA.out HYK.out HOKP.out HNO.out (fun q hq => by cases hq))
          obtain ⟨z0, z1⟩ := prcell_at X4.out
          obtain ⟨k0, k1⟩ := prcell_at KQ.out
          have f0 := Boxed.cell X5.out
          have fz4 := X4.out.frozen
          have Y4 := Hid.of (blk_pair X4.out (⟨xa, xw.length, xc, ya, yw.length, yc⟩ : PrV))
          have Y5 : Hid (Blk ((X.setCell ⟨w.heap.size + 1 + 1 + 1, 0, none⟩ (.slice xa xw.length xc)).setCell ⟨w.heap.size + 1 + 1 + 1, 1, none⟩ (.slice ya yw.length yc)) (w.heap.size + 1 + 1 + 1 + 1) 4 #[.bool false]) := blk_other2 X5.out (by omega) _ _
          have fz5 := Y5.out.frozen
          have f5 := Y5.out.cell 0 rfl
          have Z4 := Hid.of (Y4.out.other (b' := w.heap.size + 1 + 1 + 1 + 1) (j := 0) (by omega) (.bool true))
          have Z5 := Hid.of (Y5.out.set 0 (.bool true))
          have Z6 := Hid.of ((blk_other2 (b' := w.heap.size + 1 + 1 + 1) X6.out (by omega) (.slice xa xw.length xc) (.slice ya yw.length yc)).other (b' := w.heap.size + 1 + 1 + 1 + 1) (j := 0) (by omega) (.bool true))
          have KO := Hid.of ((((keeps_below WX.out).trans (KeepsOthers.setCell _ ⟨w.heap.size + 1 + 1 + 1, 0, none⟩ (.slice xa xw.length xc))).trans (KeepsOthers.setCell _ ⟨w.heap.size + 1 + 1 + 1, 1, none⟩ (.slice ya yw.length yc))).trans (KeepsOthers.setCell _ ⟨w.heap.size + 1 + 1 + 1 + 1, 0, none⟩ (.bool true)))
          have ZB := Hid.of (((WX.out.mono (show w.heap.size + 3 ≤ W.heap.size by omega)).setCell (p := ⟨w.heap.size + 1 + 1 + 1, 0, none⟩) (by show w.heap.size + 3 ≤ w.heap.size + 1 + 1 + 1; omega) (.slice xa xw.length xc)).setCell (p := ⟨w.heap.size + 1 + 1 + 1, 1, none⟩) (by show w.heap.size + 3 ≤ w.heap.size + 1 + 1 + 1; omega) (.slice ya yw.length yc))
          have ZC := Hid.of (ZB.out.setCell (p := ⟨w.heap.size + 1 + 1 + 1 + 1, 0, none⟩) (by show w.heap.size + 3 ≤ w.heap.size + 1 + 1 + 1 + 1; omega) (.bool true))
          gi_wp2_with fail
          refine ⟨trivial, ?_⟩
          gi_wp2_with fail
          exact ⟨KO.out.from _, ⟨ZC.out, Z6.out.trans H6.out.symm⟩, some (xw, yw), (⟨xa, xw.length, xc, ya, yw.length, yc⟩ : PrV), HS1.out, ⟨rfl, rfl, HAT.out, HYA.out, HXL.out, HYL.out⟩, Z4.out, Z5.out, Z6.out, HBl.out.trans ZC.out⟩
        | some uv =>
          obtain ⟨u, v⟩ := uv
          replace X5 : Hid (Boxed X (w.heap.size + 1 + 1 + 1 + 1) 4 (.bool true)) := X5.out
          have HSM := Hid.of HPr.out.small
          obtain ⟨z0, z1⟩ := prcell_at X4.out
          obtain ⟨k0, k1⟩ := prcell_at KQ.out
          have f0 := Boxed.cell X5.out
          have CMP := Hid.of (scompare_any (⟨xa, xw.length, xc, ya, yw.length, yc⟩ : PrV) Q X HXL.out HYL.out HSM.out.1 HSM.out.2)
          obtain ⟨Qa, Qn, Qc, Qa', Qn', Qc'⟩ := Q
          gi_wp2_with fail
          refine ⟨trivial, CallsIn.mono (CallsIn.inRound l (callsIn_wide.2 CMP.out)) ?_⟩
          rintro e' X2 ⟨rfl, hb2⟩
          clear z0 z1 k0 k1 f0
          have hsX2 : X.heap.size ≤ X2.heap.size := hb2.size
          replace KQ := Hid.of (KQ.out.below hb2 KQ.out.lt)
          replace X4 := Hid.of (X4.out.below hb2 X4.out.lt)
          replace X5 : Hid (Boxed X2 (w.heap.size + 1 + 1 + 1 + 1) 4 (.bool true)) := (hb2.block _ X5.out.lt).trans X5.out
          replace X6 : Hid (Boxed X2 (w.heap.size + 1 + 1 + 1 + 1 + 1) 95 (.slice ba A.length bc)) := (hb2.block _ X6.out.lt).trans X6.out
          replace WX := Hid.of (WX.out.trans (hb2.mono hsX))
          clear hb2 CMP
          have hle := cmpP_le (⟨xa, xw.length, xc, ya, yw.length, yc⟩ : PrV) ⟨Qa, Qn, Qc, Qa', Qn', Qc'⟩
          obtain ⟨hq1, hq2, -, -, -, -⟩ := HPr.out
          dsimp only at hle hq1 hq2
          have HLE := Hid.of hle
          have HQ1 := Hid.of hq1
          have HQ2 := Hid.of hq2
          clear hle hq1 hq2
          cases hd : decide (cmpP (⟨xa, xw.length, xc, ya, yw.length, yc⟩ : PrV) ⟨Qa, Qn, Qc, Qa', Qn', Qc'⟩ ≤ 0) with
          | true =>
            have HS1 : Hid (Prp (pre ++ [(⟨xk, xs, xa, xc, xw, xat⟩ : EP A)]) → SF secret KA KB (A.length - (pre ++ [(⟨xk, xs, xa, xc, xw, xat⟩ : EP A)]).length) (some (xw, yw))) := HK1.out _ (fun _ h => h.put (x := (x.1, xw)) (y := (y.1, yw)) HXK.out iB.out iA.out HYK.out HOKP.out HNO.out (fun q hq => by
              have e := Option.some.inj hq
              subst e
              have h3 := HLE.out
              rw [hd, HQ1.out, HQ2.out] at h3
              simpa using h3.symm))
            obtain ⟨z0, z1⟩ := prcell_at X4.out
            obtain ⟨k0, k1⟩ := prcell_at KQ.out
            have f0 := Boxed.cell X5.out
            have fz4 := X4.out.frozen
            have Y4 := Hid.of (blk_pair X4.out (⟨xa, xw.length, xc, ya, yw.length, yc⟩ : PrV))
            have Y5 : Hid (Blk ((X2.setCell ⟨w.heap.size + 1 + 1 + 1, 0, none⟩ (.slice xa xw.length xc)).setCell ⟨w.heap.size + 1 + 1 + 1, 1, none⟩ (.slice ya yw.length yc)) (w.heap.size + 1 + 1 + 1 + 1) 4 #[.bool true]) := blk_other2 X5.out (by omega) _ _
            have fz5 := Y5.out.frozen
            have f5 := Y5.out.cell 0 rfl
            have Z4 := Hid.of (Y4.out.other (b' := w.heap.size + 1 + 1 + 1 + 1) (j := 0) (by omega) (.bool true))
            have Z5 := Hid.of (Y5.out.set 0 (.bool true))
            have Z6 := Hid.of ((blk_other2 (b' := w.heap.size + 1 + 1 + 1) X6.out (by omega) (.slice xa xw.length xc) (.slice ya yw.length yc)).other (b' := w.heap.size + 1 + 1 + 1 + 1) (j := 0) (by omega) (.bool true))
            have KO := Hid.of ((((keeps_below WX.out).trans (KeepsOthers.setCell _ ⟨w.heap.size + 1 + 1 + 1, 0, none⟩ (.slice xa xw.length xc))).trans (KeepsOthers.setCell _ ⟨w.heap.size + 1 + 1 + 1, 1, none⟩ (.slice ya yw.length yc))).trans (KeepsOthers.setCell _ ⟨w.heap.size + 1 + 1 + 1 + 1, 0, none⟩ (.bool true)))
            have ZB := Hid.of (((WX.out.mono (show w.heap.size + 3 ≤ W.heap.size by omega)).setCell (p := ⟨w.heap.size + 1 + 1 + 1, 0, none⟩) (by show w.heap.size + 3 ≤ w.heap.size + 1 + 1 + 1; omega) (.slice xa xw.length xc)).setCell (p := ⟨w.heap.size + 1 + 1 + 1, 1, none⟩) (by show w.heap.size + 3 ≤ w.heap.size + 1 + 1 + 1; omega) (.slice ya yw.length yc))
            have ZC := Hid.of (ZB.out.setCell (p := ⟨w.heap.size + 1 + 1 + 1 + 1, 0, none⟩) (by show w.heap.size + 3 ≤ w.heap.size + 1 + 1 + 1 + 1; omega) (.bool true))
            gi_wp2_with fail
            exact ⟨KO.out.from _, ⟨ZC.out, Z6.out.trans H6.out.symm⟩, some (xw, yw), (⟨xa, xw.length, xc, ya, yw.length, yc⟩ : PrV), HS1.out, ⟨rfl, rfl, HAT.out, HYA.out, HXL.out, HYL.out⟩, Z4.out, Z5.out, Z6.out, HBl.out.trans ZC.out⟩
          | false =>
            have HS1 : Hid (Prp (pre ++ [(⟨xk, xs, xa, xc, xw, xat⟩ : EP A)]) → SF secret KA KB (A.length - (pre ++ [(⟨xk, xs, xa, xc, xw, xat⟩ : EP A)]).length) (some (u, v))) := HK1.out _ (fun _ h => h.keep (x := (x.1, xw)) (y := (y.1, yw)) HXK.out iB.out HYK.out HNO.out (by
              have h3 := HLE.out
              rw [hd, HQ1.out, HQ2.out] at h3
              simpa using h3.symm))
            gi_wp2_with fail
            exact ⟨(keeps_below WX.out).from _, ⟨WX.out.mono (by omega), WX.out.block _ (by omega)⟩, some (u, v), ⟨Qa, Qn, Qc, Qa', Qn', Qc'⟩, HS1.out, HPr.out, X4.out, X5.out, X6.out, HBl.out.trans (WX.out.mono (by omega))⟩
  case done =>
    rintro D zs W hD rfl ⟨o, Q, hSF, hPr, hK4, hK5, hBx, hBl⟩ hK
    have HSF : Hid (SF secret KA KB 0 o) := by
      obtain ⟨h1, h2⟩ := prp_all HXS.out
      have := hSF h1
      rw [h2, Nat.sub_self] at this
      exact this
    have HPr := Hid.of hPr
    have BL := Hid.of (B0.out.trans (hBl.mono (by omega)))
    have H3 := Hid.of (K3.out.below hBl (by omega))
    have H4 := Hid.of hK4
    have H5 := Hid.of hK5
    have hMk : Hid (Marks w.heap.size [D] W) := by
      refine ⟨fun D' hD' => ?_, by simp⟩
      have e : D' = D := by simpa using hD'
      rw [e]
      exact ⟨by omega, hK⟩
    have SA : Hid (∀ X, Blk X (w.heap.size + 1 + 1 + 1) 113 (prcells Q) → Boxed X (w.heap.size + 1 + 1 + 1 + 1) 4 (.bool o.isSome) → X.cell? ⟨w.heap.size + 1 + 1 + 1, 0, none⟩ = some (.slice Q.a Q.n Q.c) ∧ X.cell? ⟨w.heap.size + 1 + 1 + 1, 1, none⟩ = some (.slice Q.a' Q.n' Q.c') ∧ X.cell? ⟨w.heap.size + 1 + 1 + 1 + 1, 0, none⟩ = some (.bool o.isSome)) := fun X h1 h2 => by
      obtain ⟨x0, x1⟩ := prcell_at h1
      exact ⟨x0, x1, Boxed.cell h2⟩
    obtain ⟨fl, HFL⟩ : ∃ fl, Hid (fl = o.isSome) := ⟨_, rfl⟩
    rw [← HFL.out] at SA H5
    clear hSF hPr hK4 hK5 hBx hBl hK hxs
    go_wp2_with fail
    refine Code.wp_mono (Q := regQ fun a' X => ∃ (r40 r41 : Value), a' = { tmps := #[.slice ba A.length bc, .slice va Bl.length vc, sval R, undef, .pointer (some ⟨w.heap.size, 0, none⟩), .pointer (some ⟨w.heap.size + 1, 0, none⟩), .pointer (some ⟨w.heap.size + 1 + 1, 0, none⟩), .bool fl, .pointer (some ⟨w.heap.size + 1 + 1 + 1, 0, none⟩), .pointer (some ⟨w.heap.size + 1 + 1 + 1 + 1, 0, none⟩), undef, undef, undef, undef, .slice ba A.length bc, .func (.func 143) #[] #[.pointer (some ⟨w.heap.size + 1 + 1 + 1 + 1 + 1, 0, none⟩)], undef, undef, undef, undef, undef, undef, undef, undef, undef, undef, undef, undef, undef, undef, undef, undef, undef, undef, undef, undef, undef, undef, undef, undef, r40, r41], defers := [mark D] } ∧ Blk X (w.heap.size + 1 + 1) 113 (prcells Q) ∧ Marks w.heap.size [D] X ∧ Below w.heap.size w X) ?_ ?_
    rotate_left
    · refine wp_region_held_drew (S := fun w' => w'.cell? ⟨w.heap.size + 1 + 1 + 1, 0, none⟩ = some (.slice Q.a Q.n Q.c) ∧ w'.cell? ⟨w.heap.size + 1 + 1 + 1, 1, none⟩ = some (.slice Q.a' Q.n' Q.c') ∧ w'.cell? ⟨w.heap.size + 1 + 1 + 1 + 1, 0, none⟩ = some (.bool fl)) (by kernel_rfl) (SA.out _ (Blk.drew H4.out) H5.out) (fun hS => ?_)
      replace BL : Hid (Below w.heap.size w W.drew) := BL.out.drew
      replace H3 : Hid (Blk W.drew (w.heap.size + 1 + 1) 113 #[.slice none 0 0, .slice none 0 0]) := Blk.drew H3.out
      replace H4 : Hid (Blk W.drew (w.heap.size + 1 + 1 + 1) 113 (prcells Q)) := Blk.drew H4.out
      replace H5 : Hid (Boxed W.drew (w.heap.size + 1 + 1 + 1 + 1) 4 (.bool fl)) := H5.out
      replace hMk : Hid (Marks w.heap.size [D] W.drew) := ⟨fun D' hD' => hMk.out.at' D' hD', hMk.out.nd⟩
      revert hS BL H3 H4 H5 hMk
      generalize W.drew = Y0
      intro hS BL H3 H4 H5 hMk
      refine wpAnyH_take (i := 0) (v := prval Q) rfl (by kernel_rfl) (by kernel_rfl) (by kernel_rfl) (fun _ _ _ h => h) (Or.inl ⟨by kernel_rfl, fun w' hw' => by obtain ⟨q0, q1, q2⟩ := hw'; go_simp⟩) hS ?_
      refine wpAnyH_take (i := 1) (v := .bool fl) rfl (by kernel_rfl) (by kernel_rfl) (by kernel_rfl) (fun _ _ _ h => h) (Or.inl ⟨by kernel_rfl, fun w' hw' => by obtain ⟨q0, q1, q2⟩ := hw'; go_simp⟩) hS ?_
      simp only [Act.put, List.setIfInBounds_toArray]
      refine wpAnyH_ready (rs := [2]) (by kernel_rfl) (by simp) ?_
      refine AllReadyH.cons rfl (fun K' hK' => ?_) AllReadyH.nil
      clear hS
      have fz := H3.out.frozen
      have r0 : Y0.cell? ⟨w.heap.size + 1 + 1, 0, none⟩ = some (.slice none 0 0) := H3.out.cell 0 rfl
      have r1 : Y0.cell? ⟨w.heap.size + 1 + 1, 1, none⟩ = some (.slice none 0 0) := H3.out.cell 1 rfl
      go_simp
      replace hMk := Hid.of ((hMk.out.other (j := 0) H3.out (.slice Q.a Q.n Q.c)).other (j := 1) (H3.out.set 0 (.slice Q.a Q.n Q.c)) (.slice Q.a' Q.n' Q.c'))
      replace BL := Hid.of (below_set2 BL.out (b' := w.heap.size + 1 + 1) (by omega) (.slice Q.a Q.n Q.c) (.slice Q.a' Q.n' Q.c'))
      replace H4 := Hid.of (blk_other2 H4.out (b' := w.heap.size + 1 + 1) (by omega) (.slice Q.a Q.n Q.c) (.slice Q.a' Q.n' Q.c'))
      have H5' := Hid.of (blk_other2 (b := w.heap.size + 1 + 1 + 1 + 1) (t := 4) (cs := #[.bool fl]) H5.out (b' := w.heap.size + 1 + 1) (by omega) (.slice Q.a Q.n Q.c) (.slice Q.a' Q.n' Q.c'))
      replace H3 := Hid.of (blk_pair (Q := ⟨none, 0, 0, none, 0, 0⟩) H3.out Q)
      refine hK'.out _ _ (SA.out _ H4.out H5'.out) (fun hS => ?_)
      clear hK' K' fz r0 r1
      refine wpAnyH_take (i := 3) (v := .bool fl) rfl (by kernel_rfl) (by kernel_rfl) (by kernel_rfl) (fun _ _ _ h => h) (Or.inl ⟨by kernel_rfl, fun w' hw' => by obtain ⟨q0, q1, q2⟩ := hw'; go_simp⟩) hS ?_
      refine wpAnyH_done (by kernel_rfl) ?_ _
      exact ⟨_, _, rfl, H3.out, hMk.out, BL.out⟩
    · refine regQ_imp ?_
      rintro a' X ⟨r40, r41, rfl, k3, hmk, bl⟩
      have HMK := Hid.of hmk
      have KX := Hid.of k3
      have BLX := Hid.of bl
      clear k3 hmk bl SA H3 H4 H5 BL hMk
      go_wp2_with fail
      refine leaves_marks (B := w.heap.size) (fun W => Blk W (w.heap.size + 1 + 1) 113 (prcells Q) ∧ Below w.heap.size w W) ?_ ?_ [D] _ HMK.out ⟨KX.out, BLX.out⟩
      · rintro W D ⟨h1, h2⟩ hD hk
        refine ⟨(World.putObj_heap_other (fun e => ?_)).trans h1, h2.trans (belowK_b (w := w) (Nat.le_refl _) W D _ _ hD hk rfl rfl)⟩
        have h3 : W.heap[w.heap.size + 1 + 1]? = _ := h1
        rw [e, hk] at h3
        cases h3
      · rintro W ⟨h1, h2⟩
        refine ⟨_, results_pairTmp (p := 6) (u := 7) rfl _ _ (w.heap.size + 1 + 1) Q _ rfl rfl h1, o, Q, ?_, HSF.out, HPr.out, h2⟩
        rw [← HFL.out]; rfl
  case stop =>
    rintro D c pre W _ _ h _
    exact h.elim

end Go.Proofs.YtmimjpkllgjdkaaDoor
