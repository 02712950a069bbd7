/-
  The walk of text.spell's part: one part more of the tokens.
  The walk of text.spellArrows.
  The walk of text.spell.
  The walk of strings.Join at the words of a text.
-/
import Derived.Maps.AppendAt
import Derived.Test.YtbgiliophmofgaaG11
import Derived.Deep.RegionHeld3
import Derived.Test.YtbgiliophmofgaaG02
import Derived.Test.YtbgiliophmofgaaG01
namespace Go.Proofs.Ytbgiliophmofgaa
open Go.RowKit
set_option linter.unusedVariables false

/-- What spell knows of the memory: the project's box, the tokens' box, the tokens. -/
structure SpK (B : Nat) (w0 W : World) (pb ob : Nat) (cs : Array Value) (v : Value) (L : List Str) : Prop where
  bel : Below B w0 W
  sz : B ≤ W.heap.size
  kp : Blk W pb 28 cs
  lp : B ≤ pb
  ko : Blk W ob 22 #[v]
  lo : B ≤ ob
  ow : OwnSr W B v L
theorem SpK.step {B : Nat} {w0 W W1 w7 : World} {pb ob : Nat} {cs : Array Value} {v v' : Value} {L M : List Str} (h : SpK B w0 W pb ob cs v L) (hb : Below W.heap.size W W1) (ho : w7.ownsRow B 9 1 v' (L.length + M.length) (L.map strV ++ M.map strV)) (g : W1.grownBy w7 v.ownBlock) :
    Blk w7 ob 22 #[v] ∧ SpK B w0 (w7.setCell ⟨ob, 0, none⟩ v') pb ob cs v' (L ++ M) := by
  have O7 : OwnSr w7 B v' (L ++ M) := by
    show World.ownsRow _ _ _ _ _ _ _
    rw [List.length_append, List.map_append]; exact ho
  have n1 : v.ownBlock ≠ some ob := own_blk h.ow (show W.heap[ob]? = _ from h.ko) (by decide)
  have n2 : v.ownBlock ≠ some pb := own_blk h.ow (show W.heap[pb]? = _ from h.kp) (by decide)
  have n3 : ob ≠ pb := fun e => by
    have h1 : W.heap[ob]? = _ := h.ko
    have h2 : W.heap[pb]? = _ := h.kp
    rw [e, h2] at h1
    exact absurd (cells_type h1) (by decide)
  have ko1 := h.ko.below hb h.ko.lt
  have kp1 := h.kp.below hb h.kp.lt
  have k7 : Blk w7 ob 22 #[v] := (g.block ob ko1.lt (fun e => n1 e.symm)).trans ko1
  have p7 : Blk w7 pb 28 cs := (g.block pb kp1.lt (fun e => n2 e.symm)).trans kp1
  have b7 : Below B w0 w7 := (h.bel.trans (hb.mono h.sz)).grown g (Nat.le_trans h.sz hb.size) (fun j hj => (World.ownsRow.lt h.ow j hj).1)
  have n7 : v'.ownBlock ≠ some ob := own_blk O7 (show w7.heap[ob]? = _ from k7) (by decide)
  refine ⟨k7, b7.setCell (p := ⟨ob, 0, none⟩) h.lo v', ?_, p7.other (Ne.symm n3) v', h.lp, ?_, h.lo, own_same O7 (fun k hk => Below.heap_setCell _ _ _ _ (show k ≠ ob from fun e => n7 (by rw [hk, e])))⟩
  · have := g.size
    have := hb.size
    have := h.sz
    simp [World.setCell]; omega
  · have := k7.set 0 v'
    exact this
theorem SpK.again {B : Nat} {w0 W : World} {pb ob : Nat} {cs : Array Value} {v : Value} {L : List Str} (h : SpK B w0 W pb ob cs v L) : SpK B w0 (W.setCell ⟨ob, 0, none⟩ v) pb ob cs v L := by
  have n1 : v.ownBlock ≠ some ob := own_blk h.ow (show W.heap[ob]? = _ from h.ko) (by decide)
  have n3 : ob ≠ pb := fun e => by
    have h1 : W.heap[ob]? = _ := h.ko
    have h2 : W.heap[pb]? = _ := h.kp
    rw [e, h2] at h1
    exact absurd (cells_type h1) (by decide)
  refine ⟨h.bel.setCell (p := ⟨ob, 0, none⟩) h.lo v, ?_, h.kp.other (Ne.symm n3) v, h.lp, h.ko.set 0 v, h.lo, own_same h.ow (fun k hk => Below.heap_setCell _ _ _ _ (show k ≠ ob from fun e => n1 (by rw [hk, e])))⟩
  have := h.sz
  simpa [World.setCell] using this
theorem cell_one_new' {w : World} {g : Nat} {v : Value} {T : TypeId} (e : g = w.heap.size) : ∀ j u, [v][j]? = some u → (w.alloc (.cells #[v] T)).cell? ((⟨g, 0, none⟩ : Addr).add j) = some u := by
  subst e; exact cell_one_new _ _ _
/-- Where the names that are put there lie. -/
def NmK (w : World) (v : Value) (ob : Nat) (a : Option Addr) (xs : List Str) : Prop := xs = [] ∨ ∃ g o, a = some ⟨g, o, none⟩ ∧ g < w.heap.size ∧ v.ownBlock ≠ some g ∧ g ≠ ob ∧ CellsS w g o xs
theorem NmK.step {B : Nat} {w0 W W1 w7 : World} {pb ob c : Nat} {cs : Array Value} {v v' : Value} {L : List Str} {a : Option Addr} {xs : List Str} (h : NmK W v ob a xs) (hb : Below W.heap.size W W1) (g : W1.grownBy w7 v.ownBlock) (x : Value) : xs = [] ∨ ∃ g o, a = some ⟨g, o, none⟩ ∧ CellsS (w7.setCell ⟨ob, 0, none⟩ x) g o xs := by
  rcases h with h | ⟨q, o, h1, h2, h3, h4, h5⟩
  · exact .inl h
  · refine .inr ⟨q, o, h1, fun j hj => ?_⟩
    have e : (w7.setCell ⟨ob, 0, none⟩ x).heap[q]? = W.heap[q]? := by
      rw [Below.heap_setCell _ _ _ _ (show q ≠ ob from h4), g.block q (Nat.lt_of_lt_of_le h2 hb.size) (fun e => h3 e.symm), hb.block q h2]
    rw [World.cell?_of_block (w := W) e]
    exact h5 j hj
set_option maxRecDepth 100000 in
set_option maxHeartbeats 4000000 in
theorem spellPart_any {B : Nat} {w0 : World} (word : Str) (a : Option Addr) (c : Nat) (xs : List Str) (w : World) (pb ob : Nat) (cs : Array Value) (v : Value) (L : List Str) (K : Hid (SpK B w0 w pb ob cs v L)) (N : Hid (NmK w v ob a xs)) (hl : L.length ≤ 100000) (hx : xs.length ≤ 20000) :
    Calls Try.prog 53 #[strV word, .slice a xs.length c, .pointer (some ⟨ob, 0, none⟩)] w fun e w' => e = .returned (.tuple #[]) ∧ ∃ v', SpK B w0 w' pb ob cs v' (L ++ word :: (xs ++ [[59]])) := by
  obtain ⟨i0, hi, hz0, hz1, hz2⟩ := info_parts Try.infoStr
  obtain ⟨va, vc, hv, -, -, -⟩ := own_form2 K.out.ow
  subst hv
  have hB := K.out.sz
  have y0 := K.out.ko.cell 0 rfl
  have HOW := Hid.of K.out.ow
  go_enter Try.func53, Try.ntmps53
  go_wp2_with (at_builtin; refine wpList_append_block _ rfl (.tmp 5) (.tmp 7) 22 rfl B 9 i0 (.string ⟨#[]⟩) 1 16 Try.underlying22 hi hz0 hz1 hz2 rfl (by decide) _ _ _ rfl (World.ownsRow.alloc HOW.out _) ⟨w.heap.size, 0, none⟩ 1 1 [strV word] rfl rfl (cell_one_new _ _ _) (by intro u hu; simp at hu; subst hu; rfl) (by decide) (by unfold maxLen; omega) (by omega) (by simp; omega) ?_)
  intro v1 w1 o1 g1 n1
  have bz : Below w.heap.size w (w.alloc (.cells #[strV word] 9)) := (Below.refl _ _).alloc (Nat.le_refl _) _
  obtain ⟨k1, e1⟩ := SpK.step (M := [word]) K.out bz o1 g1
  have N1 := Hid.of (NmK.step (c := c) (cs := cs) (B := B) (w0 := w0) (pb := pb) (L := L) (v' := v1) N.out bz g1 v1)
  have E1 := Hid.of e1
  obtain ⟨qa, qc, hv1, hqc, hqm, hqn⟩ := own_form2 o1
  have hqs : ∃ q, qa = some q := by
    cases qa with
    | none => have := hqn rfl; omega
    | some q => exact ⟨q, rfl⟩
  obtain ⟨qp, rfl⟩ := hqs
  clear o1 g1 n1 e1 bz
  subst hv1
  have y0 := k1.cell 0 rfl
  have yf := k1.frozen
  have y1 := E1.out.ko.cell 0 rfl
  clear k1
  have hB1 := E1.out.sz
  have hL1 : (L ++ [word]).length = L.length + 1 := by rw [List.length_append, List.length_singleton]
  obtain ⟨L1, HL1⟩ : ∃ L1, Hid (L ++ [word] = L1) := ⟨_, rfl⟩
  rw [HL1.out] at E1 hL1
  have HFIN : Hid (L ++ word :: (xs ++ [[59]]) = (L1 ++ xs) ++ [[59]]) := by
    show _ = _
    rw [← HL1.out]; simp
  have HOW1 := Hid.of E1.out.ow
  have hN : (a = none ∧ xs = []) ∨ ∃ ad, a = some ad ∧ ∀ j u, (xs.map strV)[j]? = some u → (w1.setCell ⟨ob, 0, none⟩ (.slice (some qp) (L.length + 1) qc)).cell? (ad.add j) = some u := by
    rcases N1.out with hx0 | ⟨g, o, ha, hcx⟩
    · subst hx0
      cases a with
      | none => exact .inl ⟨rfl, rfl⟩
      | some ad => exact .inr ⟨ad, rfl, fun j u hu => by simp at hu⟩
    · refine .inr ⟨_, ha, fun j u hu => ?_⟩
      rw [List.getElem?_map, Option.map_eq_some_iff] at hu
      obtain ⟨x, hx1, rfl⟩ := hu
      have := hcx j (List.getElem?_eq_some_iff.1 hx1).1
      rw [hx1, Option.getD_some] at this
      rw [show (⟨g, o, none⟩ : Addr).add j = ⟨g, o + j, none⟩ by unfold Addr.add; split <;> simp_all]; exact this
  clear N1 N K HOW
  rcases hN with ⟨rfl, rfl⟩ | ⟨ad, rfl, hnews⟩
  · have E2 : Hid (SpK B w0 ((w1.setCell ⟨ob, 0, none⟩ (.slice (some qp) (L.length + 1) qc)).setCell ⟨ob, 0, none⟩ (.slice (some qp) (L.length + 1) qc)) pb ob cs (.slice (some qp) (L.length + 1) qc) L1) := E1.out.again
    have HOW2 := Hid.of E2.out.ow
    have y2 := E2.out.ko.cell 0 rfl
    have hB2 := E2.out.sz
    go_wp2_with (at_builtin; refine wpList_append_block _ rfl (.tmp 12) (.tmp 13) 22 rfl B 9 i0 (.string ⟨#[]⟩) 1 16 Try.underlying22 hi hz0 hz1 hz2 rfl (by decide) _ _ _ rfl (World.ownsRow.alloc HOW2.out _) ⟨w1.heap.size, 0, none⟩ 1 1 [strV [59]] rfl rfl ?c1 (by intro u hu; simp at hu; subst hu; rfl) (by decide) (by unfold maxLen; omega) (by omega) (by simp [World.setCell] at hB2 ⊢; omega) ?_)
    case c1 => exact fun j u hu => cell_one_new' (by simp [World.setCell]) j u hu
    intro v3 w3 o3 g3 n3
    have bz : Below ((w1.setCell ⟨ob, 0, none⟩ (.slice (some qp) (L.length + 1) qc)).setCell ⟨ob, 0, none⟩ (.slice (some qp) (L.length + 1) qc)).heap.size ((w1.setCell ⟨ob, 0, none⟩ (.slice (some qp) (L.length + 1) qc)).setCell ⟨ob, 0, none⟩ (.slice (some qp) (L.length + 1) qc)) (((w1.setCell ⟨ob, 0, none⟩ (.slice (some qp) (L.length + 1) qc)).setCell ⟨ob, 0, none⟩ (.slice (some qp) (L.length + 1) qc)).alloc (.cells #[strV [59]] 9)) := (Below.refl _ _).alloc (Nat.le_refl _) _
    obtain ⟨k3, e3⟩ := SpK.step (M := [[59]]) E2.out bz (by rw [hL1]; exact o3) g3
    rw [← List.append_nil L1] at e3
    have E3 := Hid.of e3
    obtain ⟨sa, sc, hv3, -, -, -⟩ := own_form2 o3
    clear o3 g3 n3 e3 bz
    subst hv3
    have z0 := k3.cell 0 rfl
    have zf := k3.frozen
    clear k3
    go_wp2_with fail
    refine bodyPost_end (results_none rfl _ _ _) rfl ?_
    exact ⟨rfl, _, by rw [HFIN.out]; exact E3.out⟩
  · have HXC := Hid.of hnews
    clear hnews
    go_wp2_with (at_builtin; refine wpList_append_own_at _ rfl (.tmp 9) (.tmp 10) 22 rfl B 9 i0 (.string ⟨#[]⟩) 1 16 Try.underlying22 hi hz0 hz1 hz2 rfl (by decide) _ _ _ rfl HOW1.out ad xs.length c (xs.map strV) rfl (by simp) HXC.out (by intro u hu; obtain ⟨x, -, rfl⟩ := List.mem_map.1 hu; rfl) (by unfold maxLen; omega) (by omega) hB1 ?_)
    intro v2 w2 o2 g2 _ n2
    obtain ⟨k2, e2⟩ := SpK.step (M := xs) E1.out (Below.refl _ _) (by rw [hL1]; exact o2) g2
    have E2 := Hid.of e2
    obtain ⟨ra, rc, hv2, -, -, -⟩ := own_form2 o2
    clear o2 g2 n2 e2 HXC
    subst hv2
    have hL2 : (L1 ++ xs).length = L.length + 1 + xs.length := by rw [List.length_append, hL1]
    obtain ⟨L2, HL2⟩ : ∃ L2, Hid (L1 ++ xs = L2) := ⟨_, rfl⟩
    rw [HL2.out] at E2 hL2
    have HOW2 := Hid.of E2.out.ow
    have z0 := k2.cell 0 rfl
    have zf := k2.frozen
    have y2 := E2.out.ko.cell 0 rfl
    have hB2 := E2.out.sz
    clear k2
    go_wp2_with (at_builtin; refine wpList_append_block _ rfl (.tmp 12) (.tmp 13) 22 rfl B 9 i0 (.string ⟨#[]⟩) 1 16 Try.underlying22 hi hz0 hz1 hz2 rfl (by decide) _ _ _ rfl (World.ownsRow.alloc HOW2.out _) ⟨w2.heap.size, 0, none⟩ 1 1 [strV [59]] rfl rfl ?c1 (by intro u hu; simp at hu; subst hu; rfl) (by decide) (by unfold maxLen; omega) (by omega) (by simp [World.setCell] at hB2 ⊢; omega) ?_)
    case c1 => exact fun j u hu => cell_one_new' (by simp [World.setCell]) j u hu
    intro v3 w3 o3 g3 n3
    have bz : Below (w2.setCell ⟨ob, 0, none⟩ (.slice ra (L.length + 1 + xs.length) rc)).heap.size (w2.setCell ⟨ob, 0, none⟩ (.slice ra (L.length + 1 + xs.length) rc)) ((w2.setCell ⟨ob, 0, none⟩ (.slice ra (L.length + 1 + xs.length) rc)).alloc (.cells #[strV [59]] 9)) := (Below.refl _ _).alloc (Nat.le_refl _) _
    obtain ⟨k3, e3⟩ := SpK.step (M := [[59]]) E2.out bz (by rw [hL2]; exact o3) g3
    rw [← HL2.out] at e3
    have E3 := Hid.of e3
    obtain ⟨sa, sc, hv3, -, -, -⟩ := own_form2 o3
    clear o3 g3 n3 e3 bz
    subst hv3
    have z0 := k3.cell 0 rfl
    have zf := k3.frozen
    clear k3
    go_wp2_with fail
    refine bodyPost_end (results_none rfl _ _ _) rfl ?_
    exact ⟨rfl, _, by rw [HFIN.out]; exact E3.out⟩

end Go.Proofs.Ytbgiliophmofgaa
namespace Go.Proofs.Ytbgiliophmofgaa
open Go.RowKit
set_option linter.unusedVariables false

theorem arrs_more (p : Proj) : ∀ (A : List Arr) (k : Nat) (a : Arr), A[k]? = some a → arrsT p (A.take (k + 1)) = if k = 0 then arrT p a else arrsT p (A.take k) ++ ((false, [44]) :: arrT p a)
  | [], k, a, h => by simp at h
  | b :: r, 0, a, h => by
    have h : b = a := by simpa using h
    subst h
    rw [if_pos rfl]
    show arrT p b ++ moreT p (r.take 0) = _
    simp [moreT]
  | b :: r, k + 1, a, h => by
    have h : r[k]? = some a := by simpa using h
    rw [if_neg (by omega)]
    show arrT p b ++ moreT p (r.take (k + 1)) = (arrT p b ++ moreT p (r.take k)) ++ _
    rw [List.take_add_one, h, List.append_assoc]
    congr 1
    unfold moreT
    rw [List.flatMap_append]
    congr 1
/-- The words of the first arrows. -/
def arrW (p : Proj) (k : Nat) : List Str := (arrsT p (p.m.arrows.take k)).map (·.2)
theorem arrW_first {p : Proj} {a : Arr} (h : p.m.arrows[0]? = some a) : arrW p 1 = [nameAt p.states a.f, nameAt p.events a.e, nameAt p.states a.t] := by
  unfold arrW
  rw [arrs_more p _ 0 a h, if_pos rfl]; rfl
theorem arrW_next {p : Proj} {k : Nat} {a : Arr} (h : p.m.arrows[k]? = some a) (hk : 0 < k) : arrW p (k + 1) = (arrW p k ++ [[44]]) ++ [nameAt p.states a.f, nameAt p.events a.e, nameAt p.states a.t] := by
  unfold arrW
  rw [arrs_more p _ k a h, if_neg (by omega), List.map_append, List.append_assoc]; rfl
theorem arrW_len (p : Proj) : ∀ k, (arrW p k).length ≤ 4 * k := fun k => by
  unfold arrW
  rw [List.length_map]
  have : ∀ A : List Arr, (arrsT p A).length ≤ 4 * A.length := by
    have hm : ∀ r : List Arr, (moreT p r).length = 4 * r.length := by
      intro r
      induction r with
      | nil => rfl
      | cons b q ih => rw [show moreT p (b :: q) = ((false, [44]) :: arrT p b) ++ moreT p q from rfl, List.length_append, ih]; simp [arrT, wordsT]; omega
    intro A
    cases A with
    | nil => simp [arrsT]
    | cons b r => show (arrT p b ++ moreT p r).length ≤ _; rw [List.length_append, hm]; simp [arrT, wordsT]; omega
  exact Nat.le_trans (this _) (by rw [List.length_take]; omega)
theorem sArr {p : Proj} {L : PJL} {w W : World} {gs os ge oe ab af ae at_ : Nat} {nf ne nt : Str} (hsa : L.sa = some ⟨gs, os, none⟩) (hea : L.ea = some ⟨ge, oe, none⟩) (hb : Below w.heap.size w W) (hk : Blk W w.heap.size 28 (pjcells p L)) (ha : Blk W ab 60 #[.int .i64 (af : Int), .int .i64 (ae : Int), .int .i64 (at_ : Int)]) (gs1 : gs < w.heap.size) (ge1 : ge < w.heap.size) (c1 : w.cell? ⟨gs, os + af, none⟩ = some (strV nf)) (c2 : w.cell? ⟨ge, oe + ae, none⟩ = some (strV ne)) (c3 : w.cell? ⟨gs, os + at_, none⟩ = some (strV nt)) :
    W.cell? ⟨w.heap.size, 0, none⟩ = some (.slice (some ⟨gs, os, none⟩) p.states.length L.sc) ∧ W.cell? ⟨w.heap.size, 1, none⟩ = some (.slice (some ⟨ge, oe, none⟩) p.events.length L.ec) ∧ W.cell? ⟨ab, 0, none⟩ = some (.int .i64 (af : Int)) ∧ W.cell? ⟨ab, 1, none⟩ = some (.int .i64 (ae : Int)) ∧ W.cell? ⟨ab, 2, none⟩ = some (.int .i64 (at_ : Int)) ∧ W.cell? ⟨gs, os + af, none⟩ = some (strV nf) ∧ W.cell? ⟨ge, oe + ae, none⟩ = some (strV ne) ∧ W.cell? ⟨gs, os + at_, none⟩ = some (strV nt) := by
  obtain ⟨x0, x1, -⟩ := pjcell_at hk
  rw [hsa] at x0
  rw [hea] at x1
  exact ⟨x0, x1, ha.cell 0 rfl, ha.cell 1 rfl, ha.cell 2 rfl, (hb.cell (p := ⟨gs, _, none⟩) gs1).trans c1, (hb.cell (p := ⟨ge, _, none⟩) ge1).trans c2, (hb.cell (p := ⟨gs, _, none⟩) gs1).trans c3⟩
set_option maxRecDepth 100000 in
set_option maxHeartbeats 8000000 in
theorem spellArrows_any (p : Proj) (L : PJL) (w : World) (h : PjAt w p L) (hin : ∀ a ∈ p.m.arrows, (0 ≤ a.f ∧ a.f < (p.states.length : Int)) ∧ (0 ≤ a.e ∧ a.e < (p.events.length : Int)) ∧ (0 ≤ a.t ∧ a.t < (p.states.length : Int))) (hl : p.m.arrows.length ≤ 4096) (hls : p.states.length ≤ maxLen) (hle : p.events.length ≤ maxLen) :
    Calls Try.prog 55 #[pjval p L] w fun e w' => ∃ v, e = .returned v ∧ OwnSr w' w.heap.size v ((arrsT p p.m.arrows).map (·.2)) ∧ Below w.heap.size w w' := by
  obtain ⟨i0, hi, hz0, hz1, hz2⟩ := info_parts Try.infoStr
  have HP := Hid.of h
  have HIN := Hid.of hin
  unfold maxLen at hls hle
  clear h hin
  have K0 : Hid (Blk (w.alloc (.cells (pjcells p L) 28)) w.heap.size 28 (pjcells p L)) := Blk.new w _ _
  have B0 : Hid (Below w.heap.size w (w.alloc (.cells (pjcells p L) 28))) := (Below.refl _ _).alloc (Nat.le_refl _) _
  obtain ⟨x0, x1, x2, x3, x4, x5, x6, x7, x8, x9, x10⟩ := pjcell_at K0.out
  obtain ⟨a2, HA2⟩ : ∃ a2, Hid (L.l.a2 = a2) := ⟨_, rfl⟩
  rw [HA2.out] at x5
  go_enter Try.func55, Try.ntmps55
  go_wp2_with fail
  clear x0 x1 x2 x3 x4 x5 x6 x7 x8 x9 x10
  revert K0 B0
  generalize (w.alloc (.cells (pjcells p L) 28)) = V0
  intro K0 B0
  go_loopw [3, 10] (fun v iv wr => ∃ k : Nat, iv = .int .i64 k ∧ k ≤ p.m.arrows.length ∧ Hid (OwnSr wr w.heap.size v (arrW p k)) ∧ Hid (Below w.heap.size w wr) ∧ Hid (Blk wr w.heap.size 28 (pjcells p L))) (fun _ iv _ => p.m.arrows.length - (intOf iv).toNat)
  case atStart => exact ⟨0, rfl, Nat.zero_le _, Hid.of (World.ownsRow_nil _ _ _ _), B0, K0⟩
  case round =>
    clear K0 B0
    obtain ⟨k, rfl, hk, HO, HB, HK⟩ := hrel
    have hwz := HB.out.size
    have hwl := arrW_len p k
    obtain ⟨fa, fc, hfa, -, -, -⟩ := own_form2 HO.out
    obtain ⟨T, HT⟩ : ∃ T, Hid (arrW p k = T) := ⟨_, rfl⟩
    rw [HT.out] at HO hfa hwl
    subst hfa
    by_cases hlt : k < p.m.arrows.length
    · skip
      obtain ⟨ar, HAR⟩ : ∃ ar, Hid (p.m.arrows[k]? = some ar) := ⟨_, List.getElem?_eq_getElem hlt⟩
      obtain ⟨⟨f1, f2⟩, ⟨e1, e2⟩, t1, t2⟩ := HIN.out ar (List.mem_of_getElem? HAR.out)
      obtain ⟨fx, ex, tx⟩ := ar
      dsimp only at f1 f2 e1 e2 t1 t2
      obtain ⟨af, rfl⟩ := Int.eq_ofNat_of_zero_le f1
      obtain ⟨ae, rfl⟩ := Int.eq_ofNat_of_zero_le e1
      obtain ⟨at_, rfl⟩ := Int.eq_ofNat_of_zero_le t1
      obtain ⟨gs, os, hsa, hgs, hcs⟩ : ∃ g o, L.sa = some ⟨g, o, none⟩ ∧ g < w.heap.size ∧ CellsS w g o p.states := by
        rcases HP.out.s.at_ with h | ⟨g, o, h1, h2, h3⟩
        · rw [h] at f2; simp at f2; omega
        · exact ⟨g, o, h1, h2, h3⟩
      obtain ⟨ge, oe, hea, hge, hce⟩ : ∃ g o, L.ea = some ⟨g, o, none⟩ ∧ g < w.heap.size ∧ CellsS w g o p.events := by
        rcases HP.out.e.at_ with h | ⟨g, o, h1, h2, h3⟩
        · rw [h] at e2; simp at e2; omega
        · exact ⟨g, o, h1, h2, h3⟩
      obtain ⟨ga, oa, haa, hga, hca⟩ : ∃ g o, L.l.a2 = some ⟨g, o, none⟩ ∧ g < w.heap.size ∧ CellsA w g o p.m.arrows := by
        rcases HP.out.m.a with h | ⟨g, o, h1, h2, h3⟩
        · rw [h] at hlt; simp at hlt
        · exact ⟨g, o, h1, h2, h3⟩
      have haa : a2 = some ⟨ga, oa, none⟩ := HA2.out.symm.trans haa
      subst haa
      have HSA := Hid.of hsa
      have HEA := Hid.of hea
      have HGS := Hid.of hgs
      have HGE := Hid.of hge
      obtain ⟨nf, HNF⟩ : ∃ nf, Hid (p.states[af]?.getD [] = nf) := ⟨_, rfl⟩
      obtain ⟨ne, HNE⟩ : ∃ ne, Hid (p.events[ae]?.getD [] = ne) := ⟨_, rfl⟩
      obtain ⟨nt, HNT⟩ : ∃ nt, Hid (p.states[at_]?.getD [] = nt) := ⟨_, rfl⟩
      have HC1 : Hid (w.cell? ⟨gs, os + af, none⟩ = some (strV nf)) := by rw [← HNF.out]; exact hcs af (by omega)
      have HC2 : Hid (w.cell? ⟨ge, oe + ae, none⟩ = some (strV ne)) := by rw [← HNE.out]; exact hce ae (by omega)
      have HC3 : Hid (w.cell? ⟨gs, os + at_, none⟩ = some (strV nt)) := by rw [← HNT.out]; exact hcs at_ (by omega)
      obtain ⟨x, HA, y0, y1, y2⟩ := hca.at hlt
      have hx : x = ⟨(af : Int), (ae : Int), (at_ : Int)⟩ := by rw [HA.out, HAR.out]; rfl
      subst hx
      have y0 := (HB.out.cell (p := ⟨ga, oa + k * 3, none⟩) hga).trans y0
      have y1 := (HB.out.cell (p := ⟨ga, oa + k * 3 + 1, none⟩) hga).trans y1
      have y2 := (HB.out.cell (p := ⟨ga, oa + k * 3 + 2, none⟩) hga).trans y2
      have hkI : (k : Int) < (p.m.arrows.length : Int) := by omega
      have ff2 : af < p.states.length := by omega
      have ee2 : ae < p.events.length := by omega
      have tt2 : at_ < p.states.length := by omega
      clear hcs hce hca hsa hea hgs hge HA
      dsimp only at y0 y1 y2
      have bx : Below wr.heap.size wr (wr.alloc (.cells #[.int .i64 (af : Int), .int .i64 (ae : Int), .int .i64 (at_ : Int)] 60)) := (Below.refl _ _).alloc (Nat.le_refl _) _
      have XB : Hid (Below w.heap.size w (wr.alloc (.cells #[.int .i64 (af : Int), .int .i64 (ae : Int), .int .i64 (at_ : Int)] 60))) := HB.out.trans (bx.mono hwz)
      have XK := Hid.of (HK.out.below bx HK.out.lt)
      have XA : Hid (Blk (wr.alloc (.cells #[.int .i64 (af : Int), .int .i64 (ae : Int), .int .i64 (at_ : Int)] 60)) wr.heap.size 60 #[.int .i64 (af : Int), .int .i64 (ae : Int), .int .i64 (at_ : Int)]) := Blk.new wr _ _
      have XO : Hid ((wr.alloc (.cells #[.int .i64 (af : Int), .int .i64 (ae : Int), .int .i64 (at_ : Int)] 60)).ownsRow w.heap.size 9 1 (.slice fa T.length fc) T.length (T.map strV)) := World.ownsRow.alloc HO.out _
      clear bx HB HO
      rcases Nat.eq_zero_or_pos k with hk0 | hk0
      · subst hk0
        have hT0 : T = [] := by rw [← HT.out]; rfl
        subst hT0
        have HW : Hid (arrW p (0 + 1) = [] ++ [nf, ne, nt]) := by
          show _ = _
          rw [← HNF.out, ← HNE.out, ← HNT.out, List.nil_append, Nat.zero_add, arrW_first HAR.out]
          rfl
        simp only [Nat.zero_mul, Nat.add_zero] at y0 y1 y2
        go_wp2_with fail
        have XO : Hid ((wr.alloc (.cells #[.int .i64 (af : Int), .int .i64 (ae : Int), .int .i64 (at_ : Int)] 60)).ownsRow w.heap.size 9 1 (.slice fa 0 fc) 0 (([] : List Str).map strV)) := XO.out
        clear y0 y1 y2
        revert XB XK XA XO
        generalize (wr.alloc (.cells #[.int .i64 (af : Int), .int .i64 (ae : Int), .int .i64 (at_ : Int)] 60)) = X
        intro XB XK XA XO
        revert XB XK XA XO
        generalize wr.heap.size = ab
        intro XB XK XA XO
        have SA : Hid (∀ W : World, Below w.heap.size w W → Blk W w.heap.size 28 (pjcells p L) → Blk W ab 60 #[.int .i64 (af : Int), .int .i64 (ae : Int), .int .i64 (at_ : Int)] → W.cell? ⟨w.heap.size, 0, none⟩ = some (.slice (some ⟨gs, os, none⟩) p.states.length L.sc) ∧ W.cell? ⟨w.heap.size, 1, none⟩ = some (.slice (some ⟨ge, oe, none⟩) p.events.length L.ec) ∧ W.cell? ⟨ab, 0, none⟩ = some (.int .i64 (af : Int)) ∧ W.cell? ⟨ab, 1, none⟩ = some (.int .i64 (ae : Int)) ∧ W.cell? ⟨ab, 2, none⟩ = some (.int .i64 (at_ : Int)) ∧ W.cell? ⟨gs, os + af, none⟩ = some (strV nf) ∧ W.cell? ⟨ge, oe + ae, none⟩ = some (strV ne) ∧ W.cell? ⟨gs, os + at_, none⟩ = some (strV nt)) := fun W h1 h2 h3 => sArr HSA.out HEA.out h1 h2 h3 HGS.out HGE.out HC1.out HC2.out HC3.out
        refine wp_region_held_drew (S := fun w' => w'.cell? ⟨w.heap.size, 0, none⟩ = some (.slice (some ⟨gs, os, none⟩) p.states.length L.sc) ∧ w'.cell? ⟨w.heap.size, 1, none⟩ = some (.slice (some ⟨ge, oe, none⟩) p.events.length L.ec) ∧ w'.cell? ⟨ab, 0, none⟩ = some (.int .i64 (af : Int)) ∧ w'.cell? ⟨ab, 1, none⟩ = some (.int .i64 (ae : Int)) ∧ w'.cell? ⟨ab, 2, none⟩ = some (.int .i64 (at_ : Int)) ∧ w'.cell? ⟨gs, os + af, none⟩ = some (strV nf) ∧ w'.cell? ⟨ge, oe + ae, none⟩ = some (strV ne) ∧ w'.cell? ⟨gs, os + at_, none⟩ = some (strV nt)) (by kernel_rfl) (SA.out X XB.out XK.out XA.out) (fun hS => ?_)
        have YB : Hid (Below w.heap.size w X.drew) := XB.out.drew
        have YK : Hid (Blk X.drew w.heap.size 28 (pjcells p L)) := XK.out
        have YA : Hid (Blk X.drew ab 60 #[.int .i64 (af : Int), .int .i64 (ae : Int), .int .i64 (at_ : Int)]) := XA.out
        have YO : Hid (X.drew.ownsRow w.heap.size 9 1 (.slice fa 0 fc) (0) (([] : List Str).map strV)) := XO.out
        clear XB XK XA XO
        revert hS YB YK YA YO
        generalize X.drew = Y0
        intro hS YB YK YA YO
        refine wpAnyH_take (i := 0) (v := .slice fa 0 fc) rfl (by kernel_rfl) (by kernel_rfl) (by kernel_rfl) (fun _ _ _ h => h) (Or.inl ⟨by kernel_rfl, fun w' hw' => by obtain ⟨q0, q1, q2, q3, q4, q5, q6, q7⟩ := hw'; go_simp⟩) hS ?_
        refine wpAnyH_take (i := 1) (v := .pointer (some ⟨w.heap.size, 0, none⟩)) rfl (by kernel_rfl) (by kernel_rfl) (by kernel_rfl) (fun _ _ _ h => h) (Or.inl ⟨by kernel_rfl, fun w' hw' => by obtain ⟨q0, q1, q2, q3, q4, q5, q6, q7⟩ := hw'; go_simp⟩) hS ?_
        refine wpAnyH_take (i := 2) (v := .slice (some ⟨gs, os, none⟩) p.states.length L.sc) rfl (by kernel_rfl) (by kernel_rfl) (by kernel_rfl) (fun _ _ _ h => h) (Or.inl ⟨by kernel_rfl, fun w' hw' => by obtain ⟨q0, q1, q2, q3, q4, q5, q6, q7⟩ := hw'; go_simp⟩) hS ?_
        refine wpAnyH_take (i := 3) (v := .pointer (some ⟨ab, 0, none⟩)) rfl (by kernel_rfl) (by kernel_rfl) (by kernel_rfl) (fun _ _ _ h => h) (Or.inl ⟨by kernel_rfl, fun w' hw' => by obtain ⟨q0, q1, q2, q3, q4, q5, q6, q7⟩ := hw'; go_simp⟩) hS ?_
        refine wpAnyH_take (i := 4) (v := .int .i64 (af : Int)) rfl (by kernel_rfl) (by kernel_rfl) (by kernel_rfl) (fun _ _ _ h => h) (Or.inl ⟨by kernel_rfl, fun w' hw' => by obtain ⟨q0, q1, q2, q3, q4, q5, q6, q7⟩ := hw'; go_simp⟩) hS ?_
        refine wpAnyH_take (i := 5) (v := .pointer (some ⟨gs, os + af, none⟩)) rfl (by kernel_rfl) (by kernel_rfl) (by kernel_rfl) (fun _ _ _ h => h) (Or.inl ⟨by kernel_rfl, fun w' hw' => by obtain ⟨q0, q1, q2, q3, q4, q5, q6, q7⟩ := hw'; go_simp⟩) hS ?_
        refine wpAnyH_take (i := 6) (v := strV nf) rfl (by kernel_rfl) (by kernel_rfl) (by kernel_rfl) (fun _ _ _ h => h) (Or.inl ⟨by kernel_rfl, fun w' hw' => by obtain ⟨q0, q1, q2, q3, q4, q5, q6, q7⟩ := hw'; go_simp⟩) hS ?_
        refine wpAnyH_take (i := 7) (v := .pointer (some ⟨w.heap.size, 1, none⟩)) rfl (by kernel_rfl) (by kernel_rfl) (by kernel_rfl) (fun _ _ _ h => h) (Or.inl ⟨by kernel_rfl, fun w' hw' => by obtain ⟨q0, q1, q2, q3, q4, q5, q6, q7⟩ := hw'; go_simp⟩) hS ?_
        refine wpAnyH_take (i := 8) (v := .slice (some ⟨ge, oe, none⟩) p.events.length L.ec) rfl (by kernel_rfl) (by kernel_rfl) (by kernel_rfl) (fun _ _ _ h => h) (Or.inl ⟨by kernel_rfl, fun w' hw' => by obtain ⟨q0, q1, q2, q3, q4, q5, q6, q7⟩ := hw'; go_simp⟩) hS ?_
        refine wpAnyH_take (i := 9) (v := .pointer (some ⟨ab, 1, none⟩)) rfl (by kernel_rfl) (by kernel_rfl) (by kernel_rfl) (fun _ _ _ h => h) (Or.inl ⟨by kernel_rfl, fun w' hw' => by obtain ⟨q0, q1, q2, q3, q4, q5, q6, q7⟩ := hw'; go_simp⟩) hS ?_
        refine wpAnyH_take (i := 10) (v := .int .i64 (ae : Int)) rfl (by kernel_rfl) (by kernel_rfl) (by kernel_rfl) (fun _ _ _ h => h) (Or.inl ⟨by kernel_rfl, fun w' hw' => by obtain ⟨q0, q1, q2, q3, q4, q5, q6, q7⟩ := hw'; go_simp⟩) hS ?_
        refine wpAnyH_take (i := 11) (v := .pointer (some ⟨ge, oe + ae, none⟩)) rfl (by kernel_rfl) (by kernel_rfl) (by kernel_rfl) (fun _ _ _ h => h) (Or.inl ⟨by kernel_rfl, fun w' hw' => by obtain ⟨q0, q1, q2, q3, q4, q5, q6, q7⟩ := hw'; go_simp⟩) hS ?_
        refine wpAnyH_take (i := 12) (v := strV ne) rfl (by kernel_rfl) (by kernel_rfl) (by kernel_rfl) (fun _ _ _ h => h) (Or.inl ⟨by kernel_rfl, fun w' hw' => by obtain ⟨q0, q1, q2, q3, q4, q5, q6, q7⟩ := hw'; go_simp⟩) hS ?_
        refine wpAnyH_take (i := 13) (v := .pointer (some ⟨w.heap.size, 0, none⟩)) rfl (by kernel_rfl) (by kernel_rfl) (by kernel_rfl) (fun _ _ _ h => h) (Or.inl ⟨by kernel_rfl, fun w' hw' => by obtain ⟨q0, q1, q2, q3, q4, q5, q6, q7⟩ := hw'; go_simp⟩) hS ?_
        refine wpAnyH_take (i := 14) (v := .slice (some ⟨gs, os, none⟩) p.states.length L.sc) rfl (by kernel_rfl) (by kernel_rfl) (by kernel_rfl) (fun _ _ _ h => h) (Or.inl ⟨by kernel_rfl, fun w' hw' => by obtain ⟨q0, q1, q2, q3, q4, q5, q6, q7⟩ := hw'; go_simp⟩) hS ?_
        refine wpAnyH_take (i := 15) (v := .pointer (some ⟨ab, 2, none⟩)) rfl (by kernel_rfl) (by kernel_rfl) (by kernel_rfl) (fun _ _ _ h => h) (Or.inl ⟨by kernel_rfl, fun w' hw' => by obtain ⟨q0, q1, q2, q3, q4, q5, q6, q7⟩ := hw'; go_simp⟩) hS ?_
        refine wpAnyH_take (i := 16) (v := .int .i64 (at_ : Int)) rfl (by kernel_rfl) (by kernel_rfl) (by kernel_rfl) (fun _ _ _ h => h) (Or.inl ⟨by kernel_rfl, fun w' hw' => by obtain ⟨q0, q1, q2, q3, q4, q5, q6, q7⟩ := hw'; go_simp⟩) hS ?_
        refine wpAnyH_take (i := 17) (v := .pointer (some ⟨gs, os + at_, none⟩)) rfl (by kernel_rfl) (by kernel_rfl) (by kernel_rfl) (fun _ _ _ h => h) (Or.inl ⟨by kernel_rfl, fun w' hw' => by obtain ⟨q0, q1, q2, q3, q4, q5, q6, q7⟩ := hw'; go_simp⟩) hS ?_
        refine wpAnyH_take (i := 18) (v := strV nt) rfl (by kernel_rfl) (by kernel_rfl) (by kernel_rfl) (fun _ _ _ h => h) (Or.inl ⟨by kernel_rfl, fun w' hw' => by obtain ⟨q0, q1, q2, q3, q4, q5, q6, q7⟩ := hw'; go_simp⟩) hS ?_
        try simp only [Act.put, List.setIfInBounds_toArray, List.getElem_toArray, List.getElem_cons_succ, List.getElem_cons_zero, List.set_cons_zero, List.set_cons_succ]
        refine wpAnyH_ready (rs := [19]) (by kernel_rfl) (by simp) ?_
        refine AllReadyH.cons rfl (fun K' hK' => ?_) AllReadyH.nil
        have bz : Below Y0.heap.size Y0 (Y0.alloc (.cells #[strV nf, strV ne, strV nt] 9)) := (Below.refl _ _).alloc (Nat.le_refl _) _
        have ZB : Hid (Below w.heap.size w (Y0.alloc (.cells #[strV nf, strV ne, strV nt] 9))) := YB.out.trans (bz.mono YB.out.size)
        have ZK := Hid.of (YK.out.below bz YK.out.lt)
        have ZA := Hid.of (YA.out.below bz YA.out.lt)
        have ZO : Hid ((Y0.alloc (.cells #[strV nf, strV ne, strV nt] 9)).ownsRow w.heap.size 9 1 (.slice fa 0 fc) (0) (([] : List Str).map strV)) := World.ownsRow.alloc YO.out _
        have hyz := YB.out.size
        clear hS bz YB YK YA YO
        go_simp
        refine hK'.out _ _ (SA.out _ ZB.out ZK.out ZA.out) (fun hS => ?_)
        clear hK' K'
        try simp only [Act.put, List.setIfInBounds_toArray, List.getElem_toArray, List.getElem_cons_succ, List.getElem_cons_zero, List.set_cons_zero, List.set_cons_succ]
        refine wpAnyH_ready (rs := [20]) (by kernel_rfl) (by simp) ?_
        refine AllReadyH.cons rfl (fun K' hK' => ?_) AllReadyH.nil
        clear hS
        refine step_append_own rfl (.tmp 20) (.tmp 39) 22 rfl w.heap.size 9 i0 (.string ⟨#[]⟩) 1 16 Try.underlying22 hi hz0 hz1 hz2 rfl (by decide) (.slice fa 0 fc) (0) (([] : List Str).map strV) rfl ZO.out ⟨Y0.heap.size, 0, none⟩ 3 3 [strV nf, strV ne, strV nt] rfl rfl (cell_three_new _ _ _ _ _) (by intro u hu; simp at hu; rcases hu with rfl | rfl | rfl <;> rfl) (by unfold maxLen; omega) (by omega) (by simp; omega) ?_
        intro v9 w9 o9 g9
        have n2 : (.slice fa 0 fc : Value).ownBlock ≠ some w.heap.size := own_blk ZO.out (show (Y0.alloc (.cells #[strV nf, strV ne, strV nt] 9)).heap[w.heap.size]? = _ from ZK.out) (by decide)
        have n3 : (.slice fa 0 fc : Value).ownBlock ≠ some ab := own_blk ZO.out (show (Y0.alloc (.cells #[strV nf, strV ne, strV nt] 9)).heap[ab]? = _ from ZA.out) (by decide)
        have P9 : Hid (Blk w9 w.heap.size 28 (pjcells p L)) := (g9.block _ ZK.out.lt (fun e => n2 e.symm)).trans ZK.out
        have A9 : Blk w9 ab 60 #[.int .i64 (af : Int), .int .i64 (ae : Int), .int .i64 (at_ : Int)] := (g9.block _ ZA.out.lt (fun e => n3 e.symm)).trans ZA.out
        have B9 : Hid (Below w.heap.size w w9) := ZB.out.grown g9 (by simp; omega) (fun j hj => (World.ownsRow.lt ZO.out j hj).1)
        have O9 : Hid (OwnSr w9 w.heap.size v9 (([] : List Str) ++ [nf, ne, nt])) := by
          show World.ownsRow _ _ _ _ _ _ _
          rw [List.length_append, List.map_append]; exact o9
        refine hK'.out _ _ (SA.out _ B9.out P9.out A9) (fun hS => ?_)
        clear hK' K' g9 n2 n3 A9 ZB ZK ZA ZO
        refine wpAnyH_take (i := 21) (v := v9) rfl (by kernel_rfl) (by kernel_rfl) (by kernel_rfl) (fun _ _ _ h => h) (Or.inl ⟨by kernel_rfl, fun w' hw' => by obtain ⟨q0, q1, q2, q3, q4, q5, q6, q7⟩ := hw'; go_simp⟩) hS ?_
        try simp only [Act.put, List.setIfInBounds_toArray, List.getElem_toArray, List.getElem_cons_succ, List.getElem_cons_zero, List.set_cons_zero, List.set_cons_succ]
        clear hS
        refine wpAnyH_done (by kernel_rfl) ?_ _
        have Q9 : Hid (OwnSr w9 w.heap.size v9 (arrW p (0 + 1))) := by
          show OwnSr _ _ _ _
          rw [HW.out]; exact O9.out
        obtain ⟨qa, qc, hv9, -, -, -⟩ := own_form2 o9
        clear o9 O9
        subst hv9
        go_wp2_with fail
        go_roundw
        case rel => exact ⟨0 + 1, by go_num, by omega, Q9, B9, P9⟩
        case measure => simp [intOf]; omega
      · have HW : Hid (arrW p (k + 1) = (T ++ [[44]]) ++ [nf, ne, nt]) := by
          show _ = _
          rw [← HNF.out, ← HNE.out, ← HNT.out, ← HT.out, arrW_next HAR.out hk0]
          rfl
        have hkI0 : (0 : Int) < (k : Int) := by omega
        go_wp2_with (at_builtin; refine wpList_append_block _ rfl (.tmp 17) (.tmp 18) 22 rfl w.heap.size 9 i0 (.string ⟨#[]⟩) 1 16 Try.underlying22 hi hz0 hz1 hz2 rfl (by decide) _ _ _ rfl (World.ownsRow.alloc XO.out _) ⟨wr.heap.size + 1, 0, none⟩ 1 1 [strV [44]] rfl rfl (cell_one_new' (by simp)) (by intro u hu; simp at hu; subst hu; rfl) (by decide) (by unfold maxLen; omega) (by omega) (by simp; omega) ?_)
        intro v8 w8 o8 g8 n8
        have bz : Below (wr.alloc (.cells #[.int .i64 (af : Int), .int .i64 (ae : Int), .int .i64 (at_ : Int)] 60)).heap.size (wr.alloc (.cells #[.int .i64 (af : Int), .int .i64 (ae : Int), .int .i64 (at_ : Int)] 60)) ((wr.alloc (.cells #[.int .i64 (af : Int), .int .i64 (ae : Int), .int .i64 (at_ : Int)] 60)).alloc (.cells #[strV [44]] 9)) := (Below.refl _ _).alloc (Nat.le_refl _) _
        have m2 : (Value.slice fa T.length fc).ownBlock ≠ some w.heap.size := own_blk XO.out (show (wr.alloc (.cells #[.int .i64 (af : Int), .int .i64 (ae : Int), .int .i64 (at_ : Int)] 60)).heap[w.heap.size]? = _ from XK.out) (by decide)
        have m3 : (Value.slice fa T.length fc).ownBlock ≠ some wr.heap.size := own_blk XO.out (show (wr.alloc (.cells #[.int .i64 (af : Int), .int .i64 (ae : Int), .int .i64 (at_ : Int)] 60)).heap[wr.heap.size]? = _ from XA.out) (by decide)
        replace XK : Hid (Blk w8 w.heap.size 28 (pjcells p L)) := (g8.block _ (XK.out.below bz XK.out.lt).lt (fun e => m2 e.symm)).trans (XK.out.below bz XK.out.lt)
        replace XA : Hid (Blk w8 wr.heap.size 60 #[.int .i64 (af : Int), .int .i64 (ae : Int), .int .i64 (at_ : Int)]) := (g8.block _ (XA.out.below bz XA.out.lt).lt (fun e => m3 e.symm)).trans (XA.out.below bz XA.out.lt)
        replace XB : Hid (Below w.heap.size w w8) := (XB.out.trans (bz.mono XB.out.size)).grown g8 (by simp; omega) (fun j hj => (World.ownsRow.lt XO.out j hj).1)
        obtain ⟨ra, rc, hv8, -, -, -⟩ := own_form2 o8
        have XO : Hid (w8.ownsRow w.heap.size 9 1 v8 (T.length + 1) ((T ++ [[44]]).map strV)) := by rw [List.map_append]; exact o8
        clear o8 g8 n8 m2 m3 bz y0 y1 y2
        subst hv8
        obtain ⟨T2, HT2⟩ : ∃ T2 : List Str, Hid (T ++ ([[44]] : List Str) = T2) := ⟨_, Hid.of rfl⟩
        have hl2 : T2.length = T.length + 1 := by rw [← HT2.out, List.length_append, List.length_singleton]
        rw [HT2.out] at XO HW
        go_wp2_with fail
        revert XA
        generalize wr.heap.size = ab
        intro XA
        have SA : Hid (∀ W : World, Below w.heap.size w W → Blk W w.heap.size 28 (pjcells p L) → Blk W ab 60 #[.int .i64 (af : Int), .int .i64 (ae : Int), .int .i64 (at_ : Int)] → W.cell? ⟨w.heap.size, 0, none⟩ = some (.slice (some ⟨gs, os, none⟩) p.states.length L.sc) ∧ W.cell? ⟨w.heap.size, 1, none⟩ = some (.slice (some ⟨ge, oe, none⟩) p.events.length L.ec) ∧ W.cell? ⟨ab, 0, none⟩ = some (.int .i64 (af : Int)) ∧ W.cell? ⟨ab, 1, none⟩ = some (.int .i64 (ae : Int)) ∧ W.cell? ⟨ab, 2, none⟩ = some (.int .i64 (at_ : Int)) ∧ W.cell? ⟨gs, os + af, none⟩ = some (strV nf) ∧ W.cell? ⟨ge, oe + ae, none⟩ = some (strV ne) ∧ W.cell? ⟨gs, os + at_, none⟩ = some (strV nt)) := fun W h1 h2 h3 => sArr HSA.out HEA.out h1 h2 h3 HGS.out HGE.out HC1.out HC2.out HC3.out
        refine wp_region_held_drew (S := fun w' => w'.cell? ⟨w.heap.size, 0, none⟩ = some (.slice (some ⟨gs, os, none⟩) p.states.length L.sc) ∧ w'.cell? ⟨w.heap.size, 1, none⟩ = some (.slice (some ⟨ge, oe, none⟩) p.events.length L.ec) ∧ w'.cell? ⟨ab, 0, none⟩ = some (.int .i64 (af : Int)) ∧ w'.cell? ⟨ab, 1, none⟩ = some (.int .i64 (ae : Int)) ∧ w'.cell? ⟨ab, 2, none⟩ = some (.int .i64 (at_ : Int)) ∧ w'.cell? ⟨gs, os + af, none⟩ = some (strV nf) ∧ w'.cell? ⟨ge, oe + ae, none⟩ = some (strV ne) ∧ w'.cell? ⟨gs, os + at_, none⟩ = some (strV nt)) (by kernel_rfl) (SA.out w8 XB.out XK.out XA.out) (fun hS => ?_)
        have YB : Hid (Below w.heap.size w w8.drew) := XB.out.drew
        have YK : Hid (Blk w8.drew w.heap.size 28 (pjcells p L)) := XK.out
        have YA : Hid (Blk w8.drew ab 60 #[.int .i64 (af : Int), .int .i64 (ae : Int), .int .i64 (at_ : Int)]) := XA.out
        have YO : Hid (w8.drew.ownsRow w.heap.size 9 1 (.slice ra (T.length + 1) rc) (T.length + 1) (T2.map strV)) := XO.out
        clear XB XK XA XO
        revert hS YB YK YA YO
        generalize w8.drew = Y0
        intro hS YB YK YA YO
        refine wpAnyH_take (i := 0) (v := .slice ra (T.length + 1) rc) rfl (by kernel_rfl) (by kernel_rfl) (by kernel_rfl) (fun _ _ _ h => h) (Or.inl ⟨by kernel_rfl, fun w' hw' => by obtain ⟨q0, q1, q2, q3, q4, q5, q6, q7⟩ := hw'; go_simp⟩) hS ?_
        refine wpAnyH_take (i := 1) (v := .pointer (some ⟨w.heap.size, 0, none⟩)) rfl (by kernel_rfl) (by kernel_rfl) (by kernel_rfl) (fun _ _ _ h => h) (Or.inl ⟨by kernel_rfl, fun w' hw' => by obtain ⟨q0, q1, q2, q3, q4, q5, q6, q7⟩ := hw'; go_simp⟩) hS ?_
        refine wpAnyH_take (i := 2) (v := .slice (some ⟨gs, os, none⟩) p.states.length L.sc) rfl (by kernel_rfl) (by kernel_rfl) (by kernel_rfl) (fun _ _ _ h => h) (Or.inl ⟨by kernel_rfl, fun w' hw' => by obtain ⟨q0, q1, q2, q3, q4, q5, q6, q7⟩ := hw'; go_simp⟩) hS ?_
        refine wpAnyH_take (i := 3) (v := .pointer (some ⟨ab, 0, none⟩)) rfl (by kernel_rfl) (by kernel_rfl) (by kernel_rfl) (fun _ _ _ h => h) (Or.inl ⟨by kernel_rfl, fun w' hw' => by obtain ⟨q0, q1, q2, q3, q4, q5, q6, q7⟩ := hw'; go_simp⟩) hS ?_
        refine wpAnyH_take (i := 4) (v := .int .i64 (af : Int)) rfl (by kernel_rfl) (by kernel_rfl) (by kernel_rfl) (fun _ _ _ h => h) (Or.inl ⟨by kernel_rfl, fun w' hw' => by obtain ⟨q0, q1, q2, q3, q4, q5, q6, q7⟩ := hw'; go_simp⟩) hS ?_
        refine wpAnyH_take (i := 5) (v := .pointer (some ⟨gs, os + af, none⟩)) rfl (by kernel_rfl) (by kernel_rfl) (by kernel_rfl) (fun _ _ _ h => h) (Or.inl ⟨by kernel_rfl, fun w' hw' => by obtain ⟨q0, q1, q2, q3, q4, q5, q6, q7⟩ := hw'; go_simp⟩) hS ?_
        refine wpAnyH_take (i := 6) (v := strV nf) rfl (by kernel_rfl) (by kernel_rfl) (by kernel_rfl) (fun _ _ _ h => h) (Or.inl ⟨by kernel_rfl, fun w' hw' => by obtain ⟨q0, q1, q2, q3, q4, q5, q6, q7⟩ := hw'; go_simp⟩) hS ?_
        refine wpAnyH_take (i := 7) (v := .pointer (some ⟨w.heap.size, 1, none⟩)) rfl (by kernel_rfl) (by kernel_rfl) (by kernel_rfl) (fun _ _ _ h => h) (Or.inl ⟨by kernel_rfl, fun w' hw' => by obtain ⟨q0, q1, q2, q3, q4, q5, q6, q7⟩ := hw'; go_simp⟩) hS ?_
        refine wpAnyH_take (i := 8) (v := .slice (some ⟨ge, oe, none⟩) p.events.length L.ec) rfl (by kernel_rfl) (by kernel_rfl) (by kernel_rfl) (fun _ _ _ h => h) (Or.inl ⟨by kernel_rfl, fun w' hw' => by obtain ⟨q0, q1, q2, q3, q4, q5, q6, q7⟩ := hw'; go_simp⟩) hS ?_
        refine wpAnyH_take (i := 9) (v := .pointer (some ⟨ab, 1, none⟩)) rfl (by kernel_rfl) (by kernel_rfl) (by kernel_rfl) (fun _ _ _ h => h) (Or.inl ⟨by kernel_rfl, fun w' hw' => by obtain ⟨q0, q1, q2, q3, q4, q5, q6, q7⟩ := hw'; go_simp⟩) hS ?_
        refine wpAnyH_take (i := 10) (v := .int .i64 (ae : Int)) rfl (by kernel_rfl) (by kernel_rfl) (by kernel_rfl) (fun _ _ _ h => h) (Or.inl ⟨by kernel_rfl, fun w' hw' => by obtain ⟨q0, q1, q2, q3, q4, q5, q6, q7⟩ := hw'; go_simp⟩) hS ?_
        refine wpAnyH_take (i := 11) (v := .pointer (some ⟨ge, oe + ae, none⟩)) rfl (by kernel_rfl) (by kernel_rfl) (by kernel_rfl) (fun _ _ _ h => h) (Or.inl ⟨by kernel_rfl, fun w' hw' => by obtain ⟨q0, q1, q2, q3, q4, q5, q6, q7⟩ := hw'; go_simp⟩) hS ?_
        refine wpAnyH_take (i := 12) (v := strV ne) rfl (by kernel_rfl) (by kernel_rfl) (by kernel_rfl) (fun _ _ _ h => h) (Or.inl ⟨by kernel_rfl, fun w' hw' => by obtain ⟨q0, q1, q2, q3, q4, q5, q6, q7⟩ := hw'; go_simp⟩) hS ?_
        refine wpAnyH_take (i := 13) (v := .pointer (some ⟨w.heap.size, 0, none⟩)) rfl (by kernel_rfl) (by kernel_rfl) (by kernel_rfl) (fun _ _ _ h => h) (Or.inl ⟨by kernel_rfl, fun w' hw' => by obtain ⟨q0, q1, q2, q3, q4, q5, q6, q7⟩ := hw'; go_simp⟩) hS ?_
        refine wpAnyH_take (i := 14) (v := .slice (some ⟨gs, os, none⟩) p.states.length L.sc) rfl (by kernel_rfl) (by kernel_rfl) (by kernel_rfl) (fun _ _ _ h => h) (Or.inl ⟨by kernel_rfl, fun w' hw' => by obtain ⟨q0, q1, q2, q3, q4, q5, q6, q7⟩ := hw'; go_simp⟩) hS ?_
        refine wpAnyH_take (i := 15) (v := .pointer (some ⟨ab, 2, none⟩)) rfl (by kernel_rfl) (by kernel_rfl) (by kernel_rfl) (fun _ _ _ h => h) (Or.inl ⟨by kernel_rfl, fun w' hw' => by obtain ⟨q0, q1, q2, q3, q4, q5, q6, q7⟩ := hw'; go_simp⟩) hS ?_
        refine wpAnyH_take (i := 16) (v := .int .i64 (at_ : Int)) rfl (by kernel_rfl) (by kernel_rfl) (by kernel_rfl) (fun _ _ _ h => h) (Or.inl ⟨by kernel_rfl, fun w' hw' => by obtain ⟨q0, q1, q2, q3, q4, q5, q6, q7⟩ := hw'; go_simp⟩) hS ?_
        refine wpAnyH_take (i := 17) (v := .pointer (some ⟨gs, os + at_, none⟩)) rfl (by kernel_rfl) (by kernel_rfl) (by kernel_rfl) (fun _ _ _ h => h) (Or.inl ⟨by kernel_rfl, fun w' hw' => by obtain ⟨q0, q1, q2, q3, q4, q5, q6, q7⟩ := hw'; go_simp⟩) hS ?_
        refine wpAnyH_take (i := 18) (v := strV nt) rfl (by kernel_rfl) (by kernel_rfl) (by kernel_rfl) (fun _ _ _ h => h) (Or.inl ⟨by kernel_rfl, fun w' hw' => by obtain ⟨q0, q1, q2, q3, q4, q5, q6, q7⟩ := hw'; go_simp⟩) hS ?_
        try simp only [Act.put, List.setIfInBounds_toArray, List.getElem_toArray, List.getElem_cons_succ, List.getElem_cons_zero, List.set_cons_zero, List.set_cons_succ]
        refine wpAnyH_ready (rs := [19]) (by kernel_rfl) (by simp) ?_
        refine AllReadyH.cons rfl (fun K' hK' => ?_) AllReadyH.nil
        have bz : Below Y0.heap.size Y0 (Y0.alloc (.cells #[strV nf, strV ne, strV nt] 9)) := (Below.refl _ _).alloc (Nat.le_refl _) _
        have ZB : Hid (Below w.heap.size w (Y0.alloc (.cells #[strV nf, strV ne, strV nt] 9))) := YB.out.trans (bz.mono YB.out.size)
        have ZK := Hid.of (YK.out.below bz YK.out.lt)
        have ZA := Hid.of (YA.out.below bz YA.out.lt)
        have ZO : Hid ((Y0.alloc (.cells #[strV nf, strV ne, strV nt] 9)).ownsRow w.heap.size 9 1 (.slice ra (T.length + 1) rc) (T.length + 1) (T2.map strV)) := World.ownsRow.alloc YO.out _
        have hyz := YB.out.size
        clear hS bz YB YK YA YO
        go_simp
        refine hK'.out _ _ (SA.out _ ZB.out ZK.out ZA.out) (fun hS => ?_)
        clear hK' K'
        try simp only [Act.put, List.setIfInBounds_toArray, List.getElem_toArray, List.getElem_cons_succ, List.getElem_cons_zero, List.set_cons_zero, List.set_cons_succ]
        refine wpAnyH_ready (rs := [20]) (by kernel_rfl) (by simp) ?_
        refine AllReadyH.cons rfl (fun K' hK' => ?_) AllReadyH.nil
        clear hS
        refine step_append_own rfl (.tmp 20) (.tmp 39) 22 rfl w.heap.size 9 i0 (.string ⟨#[]⟩) 1 16 Try.underlying22 hi hz0 hz1 hz2 rfl (by decide) (.slice ra (T.length + 1) rc) (T.length + 1) (T2.map strV) rfl ZO.out ⟨Y0.heap.size, 0, none⟩ 3 3 [strV nf, strV ne, strV nt] rfl rfl (cell_three_new _ _ _ _ _) (by intro u hu; simp at hu; rcases hu with rfl | rfl | rfl <;> rfl) (by unfold maxLen; omega) (by omega) (by simp; omega) ?_
        intro v9 w9 o9 g9
        have n2 : (.slice ra (T.length + 1) rc : Value).ownBlock ≠ some w.heap.size := own_blk ZO.out (show (Y0.alloc (.cells #[strV nf, strV ne, strV nt] 9)).heap[w.heap.size]? = _ from ZK.out) (by decide)
        have n3 : (.slice ra (T.length + 1) rc : Value).ownBlock ≠ some ab := own_blk ZO.out (show (Y0.alloc (.cells #[strV nf, strV ne, strV nt] 9)).heap[ab]? = _ from ZA.out) (by decide)
        have P9 : Hid (Blk w9 w.heap.size 28 (pjcells p L)) := (g9.block _ ZK.out.lt (fun e => n2 e.symm)).trans ZK.out
        have A9 : Blk w9 ab 60 #[.int .i64 (af : Int), .int .i64 (ae : Int), .int .i64 (at_ : Int)] := (g9.block _ ZA.out.lt (fun e => n3 e.symm)).trans ZA.out
        have B9 : Hid (Below w.heap.size w w9) := ZB.out.grown g9 (by simp; omega) (fun j hj => (World.ownsRow.lt ZO.out j hj).1)
        have O9 : Hid (OwnSr w9 w.heap.size v9 (T2 ++ [nf, ne, nt])) := by
          show World.ownsRow _ _ _ _ _ _ _
          rw [List.length_append, List.map_append]; exact (by rw [hl2]; exact o9)
        refine hK'.out _ _ (SA.out _ B9.out P9.out A9) (fun hS => ?_)
        clear hK' K' g9 n2 n3 A9 ZB ZK ZA ZO
        refine wpAnyH_take (i := 21) (v := v9) rfl (by kernel_rfl) (by kernel_rfl) (by kernel_rfl) (fun _ _ _ h => h) (Or.inl ⟨by kernel_rfl, fun w' hw' => by obtain ⟨q0, q1, q2, q3, q4, q5, q6, q7⟩ := hw'; go_simp⟩) hS ?_
        try simp only [Act.put, List.setIfInBounds_toArray, List.getElem_toArray, List.getElem_cons_succ, List.getElem_cons_zero, List.set_cons_zero, List.set_cons_succ]
        clear hS
        refine wpAnyH_done (by kernel_rfl) ?_ _
        have Q9 : Hid (OwnSr w9 w.heap.size v9 (arrW p (k + 1))) := by
          show OwnSr _ _ _ _
          rw [HW.out]; exact O9.out
        obtain ⟨qa, qc, hv9, -, -, -⟩ := own_form2 o9
        clear o9 O9
        subst hv9
        go_wp2_with fail
        go_roundw
        case rel => exact ⟨k + 1, by go_num, by omega, Q9, B9, P9⟩
        case measure => simp [intOf]; omega
    · have hke : k = p.m.arrows.length := by omega
      have Q1 : Hid (OwnSr wr w.heap.size (.slice fa T.length fc) ((arrsT p p.m.arrows).map (·.2))) := by
        have e : (arrsT p p.m.arrows).map (·.2) = T := by rw [← HT.out, hke]; unfold arrW; rw [List.take_length]
        show OwnSr _ _ _ _
        rw [e]; exact HO.out
      go_wp2
      go_ret
      exact ⟨_, rfl, Q1.out, HB.out⟩

end Go.Proofs.Ytbgiliophmofgaa
namespace Go.Proofs.Ytbgiliophmofgaa
open Go.RowKit
set_option linter.unusedVariables false

theorem SpK.below {B : Nat} {w0 W W' : World} {pb ob : Nat} {cs : Array Value} {v : Value} {L : List Str} (h : SpK B w0 W pb ob cs v L) (hb : Below W.heap.size W W') : SpK B w0 W' pb ob cs v L :=
  ⟨h.bel.trans (hb.mono h.sz), Nat.le_trans h.sz hb.size, h.kp.below hb h.kp.lt, h.lp, h.ko.below hb h.ko.lt, h.lo, own_same h.ow (fun k hk => hb.block k (World.ownsRow.lt h.ow k hk).2)⟩
theorem nm_old {w W : World} {pb ob c : Nat} {cs : Array Value} {v : Value} {L : List Str} {a : Option Addr} {xs : List Str} (h : SpK w.heap.size w W pb ob cs v L) (ha : AtS w a xs) : NmK W v ob a xs := by
  rcases ha with ha | ⟨g, o, h1, h2, h3⟩
  · exact .inl ha
  · refine .inr ⟨g, o, h1, Nat.lt_of_lt_of_le h2 h.sz, fun e => ?_, fun e => ?_, fun j hj => (h.bel.cell (p := ⟨g, _, none⟩) h2).trans (h3 j hj)⟩
    · have := (World.ownsRow.lt h.ow g e).1
      omega
    · have := h.lo
      omega
theorem nm_new {B : Nat} {w0 W W' : World} {pb ob n c : Nat} {cs : Array Value} {v : Value} {L : List Str} {a : Option Addr} {xs : List Str} (h : SpK B w0 W pb ob cs v L) (ho : OwnSr W' W.heap.size (.slice a n c) xs) : NmK W' v ob a xs := by
  obtain ⟨a', c', hv, hat, -, -, -⟩ := OwnSr.at ho
  cases hv
  rcases hat with hat | ⟨g, o, h1, h2, h3⟩
  · exact .inl hat
  · have hg : W.heap.size ≤ g := (World.ownsRow.lt ho g (by rw [h1]; rfl)).1
    refine .inr ⟨g, o, h1, h2, fun e => ?_, fun e => ?_, h3⟩
    · have := (World.ownsRow.lt h.ow g e).2
      omega
    · have := h.ko.lt
      omega
/-- The words of the first k parts. -/
def spW (p : Proj) : Nat → List Str
  | 0 => []
  | k + 1 => spW p k ++ partW k :: (rowNames p k ++ [[59]])
theorem spW_head (p : Proj) : ∀ k, (headT p k).map (·.2) = spW p k
  | 0 => rfl
  | k + 1 => by
    have ih := spW_head p k
    unfold headT at ih ⊢
    rw [List.range_succ, List.flatMap_append, List.map_append, ih]
    have e : List.map ((fun x : Bool × Str => x.snd) ∘ fun x => (true, x)) (rowNames p k) = rowNames p k := by
      rw [show ((fun x : Bool × Str => x.snd) ∘ fun x => (true, x)) = id from rfl, List.map_id]
    simp [spW, partT, wordsT, endT, e]
theorem spW_len (p : Proj) (h : ∀ k, k < 8 → (rowNames p k).length ≤ 4096) : ∀ k, k ≤ 8 → (spW p k).length ≤ k * 4098
  | 0, _ => Nat.le_refl _
  | k + 1, hk => by
    have h1 := spW_len p h k (by omega)
    have h2 := h k (by omega)
    rw [spW]
    simp
    omega
theorem spW_all (p : Proj) : (toksP p).map (·.2) = spW p 8 ++ partW 8 :: ((arrsT p p.m.arrows).map (·.2) ++ [[59]]) := by
  unfold toksP lastT
  rw [List.map_append, spW_head]
  simp [endT]
set_option maxRecDepth 100000 in
set_option maxHeartbeats 8000000 in
theorem spell_any (p : Proj) (L : PJL) (w : World) (h0 : PjAt w p L) (hm : MayT p) (hrl : ∀ k, k < 8 → (rowNames p k).length ≤ 4096) (hal : p.m.arrows.length ≤ 4096) :
    Calls Try.prog 31 #[pjval p L] w fun e w' => ∃ v, e = .returned v ∧ OwnSr w' w.heap.size v ((toksP p).map (·.2)) ∧ Below w.heap.size w w' := by
  have hmf : ∀ (fn : Fn) (first cap : Array Value) (w : World), (Instr.makeFunc fn first cap).run Try.prog w = .ok (.func fn first cap) w := fun _ _ _ _ => rfl
  have H := Hid.of h0
  have HM := Hid.of hm
  have HRL := Hid.of hrl
  have KP0 : Hid (Blk ((w.alloc (.cells (pjcells p L) 28)).alloc (.cells #[.slice none 0 0] 22)) w.heap.size 28 (pjcells p L)) := (Blk.new w _ _).alloc _
  have KO0 : Hid (Blk ((w.alloc (.cells (pjcells p L) 28)).alloc (.cells #[.slice none 0 0] 22)) (w.heap.size + 1) 22 #[.slice none 0 0]) := by
    have := Blk.new (w.alloc (.cells (pjcells p L) 28)) 22 #[.slice none 0 0]
    rwa [World.size_alloc] at this
  have K0 : Hid (SpK w.heap.size w ((w.alloc (.cells (pjcells p L) 28)).alloc (.cells #[.slice none 0 0] 22)) w.heap.size (w.heap.size + 1) (pjcells p L) (.slice none 0 0) (spW p 0)) := ⟨((Below.refl _ _).alloc (Nat.le_refl _) _).alloc (by simp) _, by simp; omega, KP0.out, Nat.le_refl _, KO0.out, by omega, World.ownsRow_nil _ _ _ _⟩
  obtain ⟨x0, x1, x2, x3, x4, x5, x6, x7, x8, x9, x10⟩ := pjcell_at KP0.out
  clear h0 hm hrl KP0 KO0
  go_enter Try.func31, Try.ntmps31
  go_wp2_with fail
  revert K0
  generalize ((w.alloc (.cells (pjcells p L) 28)).alloc (.cells #[.slice none 0 0] 22)) = V0
  clear x0 x1 x2 x3 x4 x5 x6 x7 x8 x9 x10
  intro K0
  have LN := Hid.of (spW_len p HRL.out)
  have NM := Hid.of (nm_old (c := 0) K0.out H.out.s.at_)
  have KK := K0
  have HXL : Hid (p.states.length ≤ 20000) := Nat.le_trans (HRL.out 0 (by omega)) (by omega)
  refine (spellPart_any [115, 116, 97, 116, 101, 115] L.sa L.sc p.states V0 w.heap.size (w.heap.size + 1) (pjcells p L) _ (spW p 0) KK NM (Nat.le_trans (LN.out 0 (by omega)) (by omega)) HXL.out).mono ?_
  rintro e V1 ⟨rfl, v1, kk⟩
  have K1 : Hid (SpK w.heap.size w V1 w.heap.size (w.heap.size + 1) (pjcells p L) v1 (spW p 1)) := kk
  clear kk KK NM K0 HXL
  obtain ⟨x0, x1, -⟩ := pjcell_at K1.out.kp
  go_wp2_with fail
  clear x0 x1
  have NM := Hid.of (nm_old (c := 0) K1.out H.out.e.at_)
  have KK := K1
  have HXL : Hid (p.events.length ≤ 20000) := Nat.le_trans (HRL.out 1 (by omega)) (by omega)
  refine (spellPart_any [101, 118, 101, 110, 116, 115] L.ea L.ec p.events V1 w.heap.size (w.heap.size + 1) (pjcells p L) _ (spW p 1) KK NM (Nat.le_trans (LN.out 1 (by omega)) (by omega)) HXL.out).mono ?_
  rintro e V2 ⟨rfl, v2, kk⟩
  have K2 : Hid (SpK w.heap.size w V2 w.heap.size (w.heap.size + 1) (pjcells p L) v2 (spW p 2)) := kk
  clear kk KK NM K1 HXL
  obtain ⟨x0, x1, x2, x3, x4, x5, x6, x7, x8, x9, x10⟩ := pjcell_at K2.out.kp
  have PJ2 := Hid.of (H.out.below K2.out.bel (Nat.le_refl _))
  have hrl2 : p.seen.length ≤ 4096 := by have := HRL.out 2 (by omega); simpa [rowNames] using this
  go_wp2_with fail
  clear x0 x1 x2 x3 x4 x5 x6 x7 x8 x9 x10
  refine (pick_any L.ea L.na L.ec L.nc p.events p.seen V2 PJ2.out.e.at_ (Nat.le_trans PJ2.out.e.le PJ2.out.e.max) PJ2.out.n.at_ hrl2 (rowP_in HM.out (k := 2) (by omega) (by omega)).2).mono ?_
  rintro e U2 ⟨v, rfl, ho, hb⟩
  have HXL : Hid ((p.seen.map (nameAt p.events)).length ≤ 20000) := Nat.le_trans (HRL.out 2 (by omega)) (by omega)
  obtain ⟨xs, HXS⟩ : ∃ xs, Hid (p.seen.map (nameAt p.events) = xs) := ⟨_, rfl⟩
  rw [HXS.out] at ho HXL
  obtain ⟨pa, pc, hv, -, -, -⟩ := own_form2 ho
  subst hv
  have NM := Hid.of (nm_new (cs := pjcells p L) K2.out ho)
  have KK := Hid.of (K2.out.below hb)
  clear ho hb PJ2 hrl2 K2
  go_wp2_with fail
  refine (spellPart_any [115, 101, 101, 110] pa pc xs U2 w.heap.size (w.heap.size + 1) (pjcells p L) _ (spW p 2) KK NM (Nat.le_trans (LN.out 2 (by omega)) (by omega)) HXL.out).mono ?_
  rintro e V3 ⟨rfl, v3, kk⟩
  have K3 : Hid (SpK w.heap.size w V3 w.heap.size (w.heap.size + 1) (pjcells p L) v3 (spW p 3)) := by rw [← HXS.out] at kk; exact kk
  clear kk KK NM HXS HXL
  obtain ⟨x0, x1, x2, x3, x4, x5, x6, x7, x8, x9, x10⟩ := pjcell_at K3.out.kp
  have PJ3 := Hid.of (H.out.below K3.out.bel (Nat.le_refl _))
  have hrl3 : p.free.length ≤ 4096 := by have := HRL.out 3 (by omega); simpa [rowNames] using this
  go_wp2_with fail
  clear x0 x1 x2 x3 x4 x5 x6 x7 x8 x9 x10
  refine (pick_any L.ea L.fa L.ec L.fc p.events p.free V3 PJ3.out.e.at_ (Nat.le_trans PJ3.out.e.le PJ3.out.e.max) PJ3.out.f.at_ hrl3 (rowP_in HM.out (k := 3) (by omega) (by omega)).2).mono ?_
  rintro e U3 ⟨v, rfl, ho, hb⟩
  have HXL : Hid ((p.free.map (nameAt p.events)).length ≤ 20000) := Nat.le_trans (HRL.out 3 (by omega)) (by omega)
  obtain ⟨xs, HXS⟩ : ∃ xs, Hid (p.free.map (nameAt p.events) = xs) := ⟨_, rfl⟩
  rw [HXS.out] at ho HXL
  obtain ⟨pa, pc, hv, -, -, -⟩ := own_form2 ho
  subst hv
  have NM := Hid.of (nm_new (cs := pjcells p L) K3.out ho)
  have KK := Hid.of (K3.out.below hb)
  clear ho hb PJ3 hrl3 K3
  go_wp2_with fail
  refine (spellPart_any [102, 114, 101, 101] pa pc xs U3 w.heap.size (w.heap.size + 1) (pjcells p L) _ (spW p 3) KK NM (Nat.le_trans (LN.out 3 (by omega)) (by omega)) HXL.out).mono ?_
  rintro e V4 ⟨rfl, v4, kk⟩
  have K4 : Hid (SpK w.heap.size w V4 w.heap.size (w.heap.size + 1) (pjcells p L) v4 (spW p 4)) := by rw [← HXS.out] at kk; exact kk
  clear kk KK NM HXS HXL
  obtain ⟨x0, x1, x2, x3, x4, x5, x6, x7, x8, x9, x10⟩ := pjcell_at K4.out.kp
  have PJ4 := Hid.of (H.out.below K4.out.bel (Nat.le_refl _))
  have hrl4 : p.faults.length ≤ 4096 := by have := HRL.out 4 (by omega); simpa [rowNames] using this
  go_wp2_with fail
  clear x0 x1 x2 x3 x4 x5 x6 x7 x8 x9 x10
  refine (pick_any L.ea L.ta L.ec L.tc p.events p.faults V4 PJ4.out.e.at_ (Nat.le_trans PJ4.out.e.le PJ4.out.e.max) PJ4.out.t.at_ hrl4 (rowP_in HM.out (k := 4) (by omega) (by omega)).2).mono ?_
  rintro e U4 ⟨v, rfl, ho, hb⟩
  have HXL : Hid ((p.faults.map (nameAt p.events)).length ≤ 20000) := Nat.le_trans (HRL.out 4 (by omega)) (by omega)
  obtain ⟨xs, HXS⟩ : ∃ xs, Hid (p.faults.map (nameAt p.events) = xs) := ⟨_, rfl⟩
  rw [HXS.out] at ho HXL
  obtain ⟨pa, pc, hv, -, -, -⟩ := own_form2 ho
  subst hv
  have NM := Hid.of (nm_new (cs := pjcells p L) K4.out ho)
  have KK := Hid.of (K4.out.below hb)
  clear ho hb PJ4 hrl4 K4
  go_wp2_with fail
  refine (spellPart_any [102, 97, 117, 108, 116, 115] pa pc xs U4 w.heap.size (w.heap.size + 1) (pjcells p L) _ (spW p 4) KK NM (Nat.le_trans (LN.out 4 (by omega)) (by omega)) HXL.out).mono ?_
  rintro e V5 ⟨rfl, v5, kk⟩
  have K5 : Hid (SpK w.heap.size w V5 w.heap.size (w.heap.size + 1) (pjcells p L) v5 (spW p 5)) := by rw [← HXS.out] at kk; exact kk
  clear kk KK NM HXS HXL
  obtain ⟨x0, x1, x2, x3, x4, x5, x6, x7, x8, x9, x10⟩ := pjcell_at K5.out.kp
  have PJ5 := Hid.of (H.out.below K5.out.bel (Nat.le_refl _))
  have hrl5 : p.secret.length ≤ 4096 := by have := HRL.out 5 (by omega); simpa [rowNames] using this
  go_wp2_with fail
  clear x0 x1 x2 x3 x4 x5 x6 x7 x8 x9 x10
  refine (pick_any L.sa L.ca L.sc L.cc p.states p.secret V5 PJ5.out.s.at_ (Nat.le_trans PJ5.out.s.le PJ5.out.s.max) PJ5.out.c.at_ hrl5 (rowP_in HM.out (k := 5) (by omega) (by omega)).2).mono ?_
  rintro e U5 ⟨v, rfl, ho, hb⟩
  have HXL : Hid ((p.secret.map (nameAt p.states)).length ≤ 20000) := Nat.le_trans (HRL.out 5 (by omega)) (by omega)
  obtain ⟨xs, HXS⟩ : ∃ xs, Hid (p.secret.map (nameAt p.states) = xs) := ⟨_, rfl⟩
  rw [HXS.out] at ho HXL
  obtain ⟨pa, pc, hv, -, -, -⟩ := own_form2 ho
  subst hv
  have NM := Hid.of (nm_new (cs := pjcells p L) K5.out ho)
  have KK := Hid.of (K5.out.below hb)
  clear ho hb PJ5 hrl5 K5
  go_wp2_with fail
  refine (spellPart_any [115, 101, 99, 114, 101, 116] pa pc xs U5 w.heap.size (w.heap.size + 1) (pjcells p L) _ (spW p 5) KK NM (Nat.le_trans (LN.out 5 (by omega)) (by omega)) HXL.out).mono ?_
  rintro e V6 ⟨rfl, v6, kk⟩
  have K6 : Hid (SpK w.heap.size w V6 w.heap.size (w.heap.size + 1) (pjcells p L) v6 (spW p 6)) := by rw [← HXS.out] at kk; exact kk
  clear kk KK NM HXS HXL
  obtain ⟨x0, x1, x2, x3, x4, x5, x6, x7, x8, x9, x10⟩ := pjcell_at K6.out.kp
  have PJ6 := Hid.of (H.out.below K6.out.bel (Nat.le_refl _))
  have hrl6 : p.m.starts.length ≤ 4096 := by have := HRL.out 6 (by omega); simpa [rowNames] using this
  go_wp2_with fail
  clear x0 x1 x2 x3 x4 x5 x6 x7 x8 x9 x10
  refine (pick_any L.sa L.l.a1 L.sc L.l.c1 p.states p.m.starts V6 PJ6.out.s.at_ (Nat.le_trans PJ6.out.s.le PJ6.out.s.max) PJ6.out.m.s hrl6 (rowP_in HM.out (k := 6) (by omega) (by omega)).2).mono ?_
  rintro e U6 ⟨v, rfl, ho, hb⟩
  have HXL : Hid ((p.m.starts.map (nameAt p.states)).length ≤ 20000) := Nat.le_trans (HRL.out 6 (by omega)) (by omega)
  obtain ⟨xs, HXS⟩ : ∃ xs, Hid (p.m.starts.map (nameAt p.states) = xs) := ⟨_, rfl⟩
  rw [HXS.out] at ho HXL
  obtain ⟨pa, pc, hv, -, -, -⟩ := own_form2 ho
  subst hv
  have NM := Hid.of (nm_new (cs := pjcells p L) K6.out ho)
  have KK := Hid.of (K6.out.below hb)
  clear ho hb PJ6 hrl6 K6
  go_wp2_with fail
  refine (spellPart_any [115, 116, 97, 114, 116, 115] pa pc xs U6 w.heap.size (w.heap.size + 1) (pjcells p L) _ (spW p 6) KK NM (Nat.le_trans (LN.out 6 (by omega)) (by omega)) HXL.out).mono ?_
  rintro e V7 ⟨rfl, v7, kk⟩
  have K7 : Hid (SpK w.heap.size w V7 w.heap.size (w.heap.size + 1) (pjcells p L) v7 (spW p 7)) := by rw [← HXS.out] at kk; exact kk
  clear kk KK NM HXS HXL
  obtain ⟨x0, x1, x2, x3, x4, x5, x6, x7, x8, x9, x10⟩ := pjcell_at K7.out.kp
  have PJ7 := Hid.of (H.out.below K7.out.bel (Nat.le_refl _))
  have hrl7 : p.m.ends.length ≤ 4096 := by have := HRL.out 7 (by omega); simpa [rowNames] using this
  go_wp2_with fail
  clear x0 x1 x2 x3 x4 x5 x6 x7 x8 x9 x10
  refine (pick_any L.sa L.l.a3 L.sc L.l.c3 p.states p.m.ends V7 PJ7.out.s.at_ (Nat.le_trans PJ7.out.s.le PJ7.out.s.max) PJ7.out.m.e hrl7 (rowP_in HM.out (k := 7) (by omega) (by omega)).2).mono ?_
  rintro e U7 ⟨v, rfl, ho, hb⟩
  have HXL : Hid ((p.m.ends.map (nameAt p.states)).length ≤ 20000) := Nat.le_trans (HRL.out 7 (by omega)) (by omega)
  obtain ⟨xs, HXS⟩ : ∃ xs, Hid (p.m.ends.map (nameAt p.states) = xs) := ⟨_, rfl⟩
  rw [HXS.out] at ho HXL
  obtain ⟨pa, pc, hv, -, -, -⟩ := own_form2 ho
  subst hv
  have NM := Hid.of (nm_new (cs := pjcells p L) K7.out ho)
  have KK := Hid.of (K7.out.below hb)
  clear ho hb PJ7 hrl7 K7
  go_wp2_with fail
  refine (spellPart_any [101, 110, 100, 115] pa pc xs U7 w.heap.size (w.heap.size + 1) (pjcells p L) _ (spW p 7) KK NM (Nat.le_trans (LN.out 7 (by omega)) (by omega)) HXL.out).mono ?_
  rintro e V8 ⟨rfl, v8, kk⟩
  have K8 : Hid (SpK w.heap.size w V8 w.heap.size (w.heap.size + 1) (pjcells p L) v8 (spW p 8)) := by rw [← HXS.out] at kk; exact kk
  clear kk KK NM HXS HXL
  obtain ⟨x0, x1, x2, x3, x4, x5, x6, x7, x8, x9, x10⟩ := pjcell_at K8.out.kp
  have PJ8 := Hid.of (H.out.below K8.out.bel (Nat.le_refl _))
  go_wp2_with fail
  clear x0 x1 x2 x3 x4 x5 x6 x7 x8 x9 x10
  refine (spellArrows_any p L V8 PJ8.out (fun a ha => by
    have := may_arrs HM.out.m a ha
    rw [HM.out.ms, HM.out.me] at this
    unfold arrIn at this
    exact ⟨⟨this.1, this.2.1⟩, ⟨this.2.2.2.2.1, this.2.2.2.2.2⟩, this.2.2.1, this.2.2.2.1⟩) (by omega) (Nat.le_trans PJ8.out.s.le PJ8.out.s.max) (Nat.le_trans PJ8.out.e.le PJ8.out.e.max)).mono ?_
  rintro e U8 ⟨v, rfl, ho, hb⟩
  have HXL : Hid (((arrsT p p.m.arrows).map (·.2)).length ≤ 20000) := by
    have := arrW_len p p.m.arrows.length
    unfold arrW at this
    rw [List.take_length] at this
    show _ ≤ _
    omega
  have HALL := Hid.of (spW_all p)
  obtain ⟨xs, HXS⟩ : ∃ xs, Hid ((arrsT p p.m.arrows).map (·.2) = xs) := ⟨_, rfl⟩
  rw [HXS.out] at ho HXL HALL
  obtain ⟨pa, pc, hv, -, -, -⟩ := own_form2 ho
  subst hv
  have NM := Hid.of (nm_new (cs := pjcells p L) K8.out ho)
  have KK := Hid.of (K8.out.below hb)
  clear ho hb PJ8 K8
  go_wp2_with fail
  refine (spellPart_any [97, 114, 114, 111, 119, 115] pa pc xs U8 w.heap.size (w.heap.size + 1) (pjcells p L) _ (spW p 8) KK NM (Nat.le_trans (LN.out 8 (by omega)) (by omega)) HXL.out).mono ?_
  rintro e V9 ⟨rfl, v9, kk⟩
  have K9 : Hid (SpK w.heap.size w V9 w.heap.size (w.heap.size + 1) (pjcells p L) v9 ((toksP p).map (·.2))) := by rw [HALL.out]; exact kk
  clear kk KK NM HXL
  obtain ⟨ws, HWS⟩ : ∃ ws, Hid ((toksP p).map (·.2) = ws) := ⟨_, rfl⟩
  rw [HWS.out] at K9
  obtain ⟨qa, qc, hv9, -, -, -⟩ := own_form2 K9.out.ow
  subst hv9
  have y0 := K9.out.ko.cell 0 rfl
  go_wp2_with fail
  go_ret
  exact ⟨_, rfl, by rw [HWS.out]; exact K9.out.ow, K9.out.bel⟩

end Go.Proofs.Ytbgiliophmofgaa
namespace Go.Proofs.Ytbgiliophmofgaa
open Go.RowKit
set_option linter.unusedVariables false

theorem join_spc : ∀ (r : List (Bool × Str)) (t : Bool × Str), Lib.join ((t :: r).map (·.2)) [32] = t.2 ++ spcT r
  | [], t => by simp [Lib.join, spcT]
  | u :: r, t => by
    have ih := join_spc r u
    rw [show spcT (u :: r) = 32 :: (u.2 ++ spcT r) from rfl, ← ih]
    simp [Lib.join]
theorem join_text (p : Proj) : Lib.join ((toksP p).map (·.2)) [32] = textL p := by
  unfold textL
  cases h : toksP p with
  | nil => simp [Lib.join, joinT]
  | cons t r => exact join_spc r t

end Go.Proofs.Ytbgiliophmofgaa
