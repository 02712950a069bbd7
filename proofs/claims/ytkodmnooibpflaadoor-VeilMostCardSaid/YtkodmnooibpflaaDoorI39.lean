/-
  What is said of a row of rows of places (jalousieref15).
  The walk of jalousieref15.Keeps; what sets leaves is a hypothesis.
  What jalousieref15.sets knows: plain facts of its rows, and what lies in the memory.
  What is said of a row of places with a node each (jalousieref15.Covers).
-/
import Derived.Test.YtkodmnooibpflaaDoorEROHol
import Derived.Deep.RegionHeld3
import Derived.Test.YtkodmnooibpflaaDoorI15
import Derived.Test.YtkodmnooibpflaaDoorI35
namespace Go.Proofs.YtkodmnooibpflaaDoor
open Go.RowKit
set_option linter.unusedVariables false

theorem Tryd.infoRowQ : (Tryd.prog.info? 133).map (fun i => (i.zero, i.size, i.bytes)) = some (some (.slice none 0 0), 1, 24) := by kernel_rfl
/-- All blocks are as they were but those of one type from n on. -/
structure KepT (T0 : TypeId) (n : Nat) (W W' : World) : Prop where
  sz : W.heap.size ≤ W'.heap.size
  low : ∀ j, j < n → W'.heap[j]? = W.heap[j]?
  ty : ∀ (g : Nat) (cs : Array Value) (t : TypeId), t ≠ T0 → W.heap[g]? = some (.cells cs t (0, 0)) → W'.heap[g]? = W.heap[g]?
theorem kepT_grown {T0 : TypeId} {n B s k : Nat} {W W2 : World} {v : Value} {vs : List Value} (ho : W.ownsRow B T0 s v k vs) (g : W.grownBy W2 v.ownBlock) (hn : n ≤ B) (hB : B ≤ W.heap.size) : KepT T0 n W W2 := by
  refine ⟨g.size, fun j hj => g.block j (by omega) (fun e => by have := (World.ownsRow.lt ho j e.symm).1; omega), fun q cs t ht hq => g.block q (Array.getElem?_eq_some_iff.1 hq).1 (fun e => ?_)⟩
  obtain ⟨c2, h2⟩ := own_type ho e.symm
  rw [hq] at h2; cases h2; exact ht rfl
theorem AtQ.kep {T0 : TypeId} {n : Nat} {W W' : World} {a : Option Addr} {l : List PlO} (h : AtQ n W a l) (k : KepT T0 n W W') (h1 : (3 : TypeId) ≠ T0) (h2 : (135 : TypeId) ≠ T0) : AtQ n W' a l :=
  h.kept k.sz k.low (fun g cs hg => k.ty g cs _ h1 hg) (fun g cs hg => k.ty g cs _ h2 hg)
theorem kepT_below {T0 : TypeId} {n : Nat} {W W' : World} (hb : Below W.heap.size W W') (hn : n ≤ W.heap.size) : KepT T0 n W W' :=
  ⟨hb.size, fun j hj => hb.block j (by omega), fun g cs t _ hg => hb.block g (Array.getElem?_eq_some_iff.1 hg).1⟩

/-- A row of whereabouts. -/
def OwnQQ (n : Nat) (W : World) (B : Nat) (v : Value) (QL : List (List PlO)) : Prop := ∃ vs : List Value, W.ownsRow B 133 1 v QL.length vs ∧ ∀ (j : Nat) (l : List PlO), QL[j]? = some l → ∃ a c, vs[j]? = some (.slice a l.length c) ∧ AtQ n W a l
section
variable {n : Nat} {W : World} {B : Nat} {v : Value}
theorem OwnQQ.form {QL : List (List PlO)} (h : OwnQQ n W B v QL) : ∃ a c, v = .slice a QL.length c := by
  obtain ⟨vs, ho, -⟩ := h
  obtain ⟨a, c, e, -⟩ := own_form2 ho
  exact ⟨a, c, e⟩
theorem OwnQQ.get {QL : List (List PlO)} (h : OwnQQ n W B v QL) {j : Nat} {l : List PlO} (hj : QL[j]? = some l) : ∃ g cap a c, v = .slice (some ⟨g, 0, none⟩) QL.length cap ∧ g < W.heap.size ∧ W.cell? ⟨g, j, none⟩ = some (.slice a l.length c) ∧ AtQ n W a l := by
  obtain ⟨vs, ho, hi⟩ := h
  rcases ho.2 with ⟨rfl, hn⟩ | ⟨g, cap, cur, rfl, hg, hh, hnc, hcm, hcs, ht⟩
  · have := (List.getElem?_eq_some_iff.1 hj).1; omega
  · obtain ⟨a, c, h1, h2⟩ := hi j l hj
    have hc := ho.cells (g := g) rfl j _ h1
    rw [addr0_add, Nat.zero_add] at hc
    exact ⟨g, cap, a, c, rfl, (Array.getElem?_eq_some_iff.1 hh).1, hc, h2⟩
theorem OwnQQ.kep {T0 : TypeId} {W' : World} {QL : List (List PlO)} (h : OwnQQ n W B v QL) (k : KepT T0 n W W') (h0 : (133 : TypeId) ≠ T0) (h1 : (3 : TypeId) ≠ T0) (h2 : (135 : TypeId) ≠ T0) : OwnQQ n W' B v QL := by
  obtain ⟨vs, ho, hi⟩ := h
  refine ⟨vs, own_same ho (fun q hq => ?_), fun j l hl => ?_⟩
  · obtain ⟨cs, hc⟩ := own_type ho hq
    exact k.ty q cs _ h0 hc
  · obtain ⟨a, c, e1, e2⟩ := hi j l hl
    exact ⟨a, c, e1, e2.kep k h1 h2⟩
theorem OwnQQ.below {W' : World} {QL : List (List PlO)} (h : OwnQQ n W B v QL) (hb : Below W.heap.size W W') (hn : n ≤ W.heap.size) : OwnQQ n W' B v QL := h.kep (T0 := 25) (kepT_below hb hn) (by decide) (by decide) (by decide)
theorem OwnQQ.push {W2 : World} {v' : Value} {QL : List (List PlO)} {l : List PlO} {a : Option Addr} {c : Nat} {vs : List Value} (hn : n ≤ B) (hB : B ≤ W.heap.size) (ho : W.ownsRow B 133 1 v QL.length vs) (hi : ∀ (j : Nat) (l : List PlO), QL[j]? = some l → ∃ a c, vs[j]? = some (.slice a l.length c) ∧ AtQ n W a l) (hl : AtQ n W a l) (o1 : W2.ownsRow B 133 1 v' (QL.length + 1) (vs ++ [.slice a l.length c])) (g : W.grownBy W2 v.ownBlock) : OwnQQ n W2 B v' (QL ++ [l]) := by
  have hk := kepT_grown ho g hn hB
  have hlen : vs.length = QL.length := by rw [ho.1, Nat.mul_one]
  refine ⟨vs ++ [.slice a l.length c], by rw [List.length_append]; exact o1, fun j q hq => ?_⟩
  by_cases hj : j < QL.length
  · rw [List.getElem?_append_left hj] at hq
    obtain ⟨a', c', e1, e2⟩ := hi j q hq
    exact ⟨a', c', by rw [List.getElem?_append_left (by omega)]; exact e1, e2.kep hk (by decide) (by decide)⟩
  · have hj' := (List.getElem?_eq_some_iff.1 hq).1
    simp at hj'
    have e : j = QL.length := by omega
    subst e
    rw [List.getElem?_append_right (Nat.le_refl _)] at hq
    have : l = q := by simpa using hq
    subst this
    exact ⟨a, c, by rw [List.getElem?_append_right (by omega), hlen, Nat.sub_self]; rfl, hl.kep hk (by decide) (by decide)⟩
theorem ownQQ_one {a : Option Addr} {c : Nat} {l : List PlO} (h : AtQ n W a l) (hn : n ≤ W.heap.size) (hB : B ≤ W.heap.size) : OwnQQ n (W.alloc (.cells #[.slice a l.length c] 133)) B (.slice (some ⟨W.heap.size, 0, none⟩) 1 1) [l] := by
  refine ⟨[.slice a l.length c], World.ownsRow_lit W (base := B) (e := 133) (size := 1) #[.slice a l.length c] 1 hB (by decide) rfl, fun j q hq => ?_⟩
  match j, hq with
  | 0, hq =>
    have : l = q := by simpa using hq
    subst this
    exact ⟨a, c, rfl, h.below ((Below.refl _ _).alloc (Nat.le_refl _) _) hn⟩
  | j + 1, hq => simp at hq
end

end Go.Proofs.YtkodmnooibpflaaDoor
namespace Go.Proofs.YtkodmnooibpflaaDoor
open Go.RowKit
set_option linter.unusedVariables false

/-- What sets leaves. -/
def SetsPost (w : World) (o : Option (List (List PlO))) (e : Ending) (w' : World) : Prop := match o with
 | none => e = .returned (.tuple #[.slice none 0 0, .bool false]) ∧ Below w.heap.size w w'
 | some QL => ∃ v, e = .returned (.tuple #[v, .bool true]) ∧ OwnQQ w.heap.size w' w.heap.size v QL ∧ (QL.length ≤ 10000 ∧ ∀ L ∈ QL, L.length ≤ 384) ∧ Below w.heap.size w w'

set_option maxRecDepth 100000 in
set_option maxHeartbeats 16000000 in
theorem rokeeps_go (p : Plant) (Pl : ML) (sa : Option Addr) (sc : Nat) (ta : Option Addr) (tc : Nat) (o : Mach) (lo : ML) (fa : Option Addr) (fc : Nat) (free : List Int) (x0 : PlO) (w : World) (hp : Hid (PAt w p ⟨Pl, sa, sc, ta, tc⟩)) (ho : Hid (MAt w o lo)) (hF : Hid (At w fa free)) (hFl : Hid (free.length ≤ maxLen)) (hm : Hid (mayB p.m = true)) (hmo : Hid (mayB o = true))
  (HSE : Hid (∀ u : World, PAt u p ⟨Pl, sa, sc, ta, tc⟩ → MAt u o lo → Calls Tryd.prog 94 #[ptval p ⟨Pl, sa, sc, ta, tc⟩, mval o lo] u fun e w' => SetsPost u (setsO p o x0) e w')) :
  Calls Tryd.prog 49 #[ptval p ⟨Pl, sa, sc, ta, tc⟩, .slice fa free.length fc, mval o lo] w fun e w' => e = .returned (.bool (keepsO p free o x0)) ∧ Below w.heap.size w w' := by
 have HVB : Hid (Below w.heap.size w ((w.alloc (.cells (ptcells p ⟨Pl, sa, sc, ta, tc⟩) 44)).alloc (.cells (mcells o lo) 25))) := ((Below.refl _ _).alloc (Nat.le_refl _) _).alloc (by simp) _
 have KP : Hid (Blk ((w.alloc (.cells (ptcells p ⟨Pl, sa, sc, ta, tc⟩) 44)).alloc (.cells (mcells o lo) 25)) w.heap.size 44 (ptcells p ⟨Pl, sa, sc, ta, tc⟩)) := (Blk.new w _ _).alloc _
 have KO : Hid (Blk ((w.alloc (.cells (ptcells p ⟨Pl, sa, sc, ta, tc⟩) 44)).alloc (.cells (mcells o lo) 25)) (w.heap.size + 1) 25 (mcells o lo)) := by
  have := Blk.new (w.alloc (.cells (ptcells p ⟨Pl, sa, sc, ta, tc⟩) 44)) 25 (mcells o lo)
  rwa [World.size_alloc] at this
 obtain ⟨x0_, x1, x2, x3, x4, x5, x6⟩ := ptcell_at KP.out
 obtain ⟨y0, y1, y2, y3, y4⟩ := mcell_at KO.out
 go_enter Tryd.func49, Tryd.ntmps49
 go_wp2_with fail
 clear x0_ x1 x2 x3 x4 x5 x6 y0 y1 y2 y3 y4
 revert HVB KP KO
 generalize ((w.alloc (.cells (ptcells p ⟨Pl, sa, sc, ta, tc⟩) 44)).alloc (.cells (mcells o lo) 25)) = V0
 intro HVB KP KO
 refine (HSE.out V0 (hp.out.below HVB.out (Nat.le_refl _)) (ho.out.below HVB.out (Nat.le_refl _))).mono ?_
 rintro e1 V1 hS
 cases hse : setsO p o x0 with
 | none =>
  rw [hse] at hS
  obtain ⟨rfl, hb⟩ := hS
  have HE : Hid (keepsO p free o x0 = false) := by show _ = _; unfold keepsO; rw [hse]
  have HWB := Hid.of (HVB.out.trans (hb.mono HVB.out.size))
  clear hb hse
  go_wp2_with fail
  exact bodyPost_ret (v := .bool false) (by simp [results, go_sem]) rfl ⟨by rw [HE.out], HWB.out⟩
 | some QL =>
  rw [hse] at hS
  obtain ⟨v, rfl, hq, ⟨hql, hqL⟩, hb⟩ := hS
  have HE : Hid (keepsO p free o x0 = QL.all (holdsO p free o)) := by show _ = _; unfold keepsO; rw [hse]
  have HQ := Hid.of hq
  have HQL := Hid.of hqL
  replace HVB := Hid.of (HVB.out.trans (hb.mono HVB.out.size))
  have HV01 : Hid (V0.heap.size ≤ V1.heap.size) := hb.size
  replace KP := Hid.of (KP.out.below hb KP.out.lt)
  replace KO := Hid.of (KO.out.below hb KO.out.lt)
  clear hb hse hq hqL
  obtain ⟨qa, qc, hv⟩ := HQ.out.form
  subst hv
  go_wp2_with fail
  go_loopw [9] (fun i wr => ∃ k : Nat, i = .int .i64 (k : Int) ∧ k ≤ QL.length ∧ Hid (∀ (q : Nat) (L : List PlO), q < k → QL[q]? = some L → holdsO p free o L = true) ∧ Hid (Below V1.heap.size V1 wr)) (fun i _ => QL.length - (intOf i).toNat)
  case atStart => exact ⟨0, rfl, Nat.zero_le _, fun q L h => absurd h (by omega), Below.refl _ _⟩
  case round =>
   obtain ⟨k, rfl, hk, HAL, HYV⟩ := hrel
   have HWB := Hid.of (HVB.out.trans (HYV.out.mono HVB.out.size))
   by_cases hlt : k < QL.length
   ·obtain ⟨Lk, HLK⟩ : ∃ y, Hid (QL[k]? = some y) := ⟨_, List.getElem?_eq_getElem hlt⟩
    have hkD : decide ((k : Int) < (QL.length : Int)) = true := by simp; omega
    have hk0 : (0 : Int) ≤ (k : Int) := by omega
    have hk1 : (k : Int) < (QL.length : Int) := by omega
    have HLL : Hid (Lk.length ≤ 384) := HQL.out Lk (List.mem_of_getElem? HLK.out)
    obtain ⟨g, cap, ra, rc, eg, hg, cg, hat⟩ := HQ.out.get HLK.out
    cases eg
    have HG := Hid.of hg
    have CG := Hid.of cg
    have HRA0 := Hid.of hat
    clear hg cg hat
    have HNV : Hid (V0.heap.size ≤ wr.heap.size) := Nat.le_trans HV01.out HYV.out.size
    have HRA : Hid (AtQ V0.heap.size wr ra Lk) := AtQ.kept HRA0.out HYV.out.size (fun j hj => HYV.out.block j (by have := HV01.out; omega)) (fun g cs hg => HYV.out.block g (Array.getElem?_eq_some_iff.1 hg).1) (fun g cs hg => HYV.out.block g (Array.getElem?_eq_some_iff.1 hg).1)
    have SA : Hid (∀ W, Below wr.heap.size wr W → W.cell? ⟨w.heap.size, 0, none⟩ = some (.int .i64 p.m.st) ∧ W.cell? ⟨w.heap.size, 1, none⟩ = some (.int .i64 p.m.ev) ∧ W.cell? ⟨w.heap.size, 2, none⟩ = some (.slice Pl.a1 p.m.starts.length Pl.c1) ∧ W.cell? ⟨w.heap.size, 3, none⟩ = some (.slice Pl.a2 p.m.arrows.length Pl.c2) ∧ W.cell? ⟨w.heap.size, 4, none⟩ = some (.slice Pl.a3 p.m.ends.length Pl.c3) ∧ W.cell? ⟨w.heap.size, 5, none⟩ = some (.slice sa p.seen.length sc) ∧ W.cell? ⟨w.heap.size, 6, none⟩ = some (.slice ta p.secret.length tc) ∧ W.cell? ⟨w.heap.size + 1, 0, none⟩ = some (.int .i64 o.st) ∧ W.cell? ⟨w.heap.size + 1, 1, none⟩ = some (.int .i64 o.ev) ∧ W.cell? ⟨w.heap.size + 1, 2, none⟩ = some (.slice lo.a1 o.starts.length lo.c1) ∧ W.cell? ⟨w.heap.size + 1, 3, none⟩ = some (.slice lo.a2 o.arrows.length lo.c2) ∧ W.cell? ⟨w.heap.size + 1, 4, none⟩ = some (.slice lo.a3 o.ends.length lo.c3) ∧ W.cell? ⟨g, k, none⟩ = some (.slice ra Lk.length rc)) := fun W hb => by
     have q := HYV.out.trans (hb.mono HYV.out.size)
     obtain ⟨x0, x1, x2, x3, x4, x5, x6⟩ := ptcell_at (KP.out.below q KP.out.lt)
     obtain ⟨y0, y1, y2, y3, y4⟩ := mcell_at (KO.out.below q KO.out.lt)
     exact ⟨x0, x1, x2, x3, x4, x5, x6, y0, y1, y2, y3, y4, (q.cell (p := ⟨g, k, none⟩) HG.out).trans CG.out⟩
    cases hhd : holdsO p free o Lk with
    | true =>
     have HHD := Hid.of hhd
     have HAN : Hid (∀ (q : Nat) (L : List PlO), q < k + 1 → QL[q]? = some L → holdsO p free o L = true) := fun q L hq hx => by
      rcases Nat.lt_succ_iff_lt_or_eq.1 hq with c | c
      ·exact HAL.out q L c hx
      ·rw [c, HLK.out] at hx
       cases hx
       exact HHD.out
     clear hhd
     go_wp2_with fail
     refine wp_region_held_drew (S := fun w' => w'.cell? ⟨w.heap.size, 0, none⟩ = some (.int .i64 p.m.st) ∧ w'.cell? ⟨w.heap.size, 1, none⟩ = some (.int .i64 p.m.ev) ∧ w'.cell? ⟨w.heap.size, 2, none⟩ = some (.slice Pl.a1 p.m.starts.length Pl.c1) ∧ w'.cell? ⟨w.heap.size, 3, none⟩ = some (.slice Pl.a2 p.m.arrows.length Pl.c2) ∧ w'.cell? ⟨w.heap.size, 4, none⟩ = some (.slice Pl.a3 p.m.ends.length Pl.c3) ∧ w'.cell? ⟨w.heap.size, 5, none⟩ = some (.slice sa p.seen.length sc) ∧ w'.cell? ⟨w.heap.size, 6, none⟩ = some (.slice ta p.secret.length tc) ∧ w'.cell? ⟨w.heap.size + 1, 0, none⟩ = some (.int .i64 o.st) ∧ w'.cell? ⟨w.heap.size + 1, 1, none⟩ = some (.int .i64 o.ev) ∧ w'.cell? ⟨w.heap.size + 1, 2, none⟩ = some (.slice lo.a1 o.starts.length lo.c1) ∧ w'.cell? ⟨w.heap.size + 1, 3, none⟩ = some (.slice lo.a2 o.arrows.length lo.c2) ∧ w'.cell? ⟨w.heap.size + 1, 4, none⟩ = some (.slice lo.a3 o.ends.length lo.c3) ∧ w'.cell? ⟨g, k, none⟩ = some (.slice ra Lk.length rc)) (by kernel_rfl) (SA.out _ (Below.refl _ _).drew) (fun hS => ?_)
     have HY : Hid (Below wr.heap.size wr wr.drew) := (Below.refl _ _).drew
     revert hS HY
     generalize wr.drew = Y0
     intro hS HY
     refine tkH 0 (ptval p ⟨Pl, sa, sc, ta, tc⟩) rfl (fun w' hw' => by obtain ⟨q0, q1, q2, q3, q4, q5, q6, q7, q8, q9, q10, q11, q12⟩ := hw'; go_simp) hS ?_
     refine tkH 1 (.slice fa free.length fc) rfl (fun w' hw' => by obtain ⟨q0, q1, q2, q3, q4, q5, q6, q7, q8, q9, q10, q11, q12⟩ := hw'; go_simp) hS ?_
     refine tkH 2 (mval o lo) rfl (fun w' hw' => by obtain ⟨q0, q1, q2, q3, q4, q5, q6, q7, q8, q9, q10, q11, q12⟩ := hw'; go_simp) hS ?_
     refine tkH 3 (.slice (some ⟨g, 0, none⟩) QL.length qc) rfl (fun w' hw' => by obtain ⟨q0, q1, q2, q3, q4, q5, q6, q7, q8, q9, q10, q11, q12⟩ := hw'; go_simp) hS ?_
     refine tkH 4 (.int .i64 (k : Int)) rfl (fun w' hw' => by obtain ⟨q0, q1, q2, q3, q4, q5, q6, q7, q8, q9, q10, q11, q12⟩ := hw'; go_simp) hS ?_
     refine tkH 5 (.pointer (some ⟨g, k, none⟩)) rfl (fun w' hw' => by obtain ⟨q0, q1, q2, q3, q4, q5, q6, q7, q8, q9, q10, q11, q12⟩ := hw'; go_simp) hS ?_
     refine tkH 6 (.slice ra Lk.length rc) rfl (fun w' hw' => by obtain ⟨q0, q1, q2, q3, q4, q5, q6, q7, q8, q9, q10, q11, q12⟩ := hw'; go_simp) hS ?_
     simp only [Act.put, List.setIfInBounds_toArray]
     refine wpAnyH_ready (rs := [7]) (by kernel_rfl) (by simp) ?_
     refine AllReadyH.cons rfl (fun K' hK' => ?_) AllReadyH.nil
     clear hS
     go_simp
     refine (roholds_any p Pl sa sc ta tc o lo fa fc free ra rc Lk V0.heap.size Y0 (Hid.of (hp.out.below (HWB.out.trans (HY.out.mono HWB.out.size)) (Nat.le_refl _))) (Hid.of (ho.out.below (HWB.out.trans (HY.out.mono HWB.out.size)) (Nat.le_refl _))) (Hid.of (hF.out.below (HWB.out.trans (HY.out.mono HWB.out.size)) (Nat.le_refl _))) hFl hm hmo (Hid.of (HRA.out.below HY.out HNV.out)) HLL.out (Hid.of (Nat.le_trans HNV.out HY.out.size))).mono ?_
     rw [HHD.out]
     rintro e1 Y1 ⟨rfl, hb⟩
     replace HY := Hid.of (HY.out.trans (hb.mono HY.out.size))
     refine hK'.out _ _ (SA.out _ HY.out) (fun hS => ?_)
     clear hK' K' hb
     refine tkH 8 (.bool false) rfl (fun w' hw' => by obtain ⟨q0, q1, q2, q3, q4, q5, q6, q7, q8, q9, q10, q11, q12⟩ := hw'; go_simp) hS ?_
     refine wpAnyH_done (by kernel_rfl) ?_ _
     clear hS
     have HZ := Hid.of (HYV.out.trans (HY.out.mono HYV.out.size))
     go_wp2_with fail
     go_roundw
     case rel => exact ⟨k + 1, by go_num, by omega, HAN, HZ⟩
     case measure => simp [intOf]; omega
    | false =>
     have HHD := Hid.of hhd
     have HNO : Hid (keepsO p free o x0 = false) := by
      show _ = _
      rw [HE.out]
      apply Classical.byContradiction
      intro hc
      have hc : QL.all (holdsO p free o) = true := by simpa using hc
      have := List.all_eq_true.1 hc Lk (List.mem_of_getElem? HLK.out)
      rw [hhd] at this
      cases this
     clear hhd
     go_wp2_with fail
     refine wp_region_held_drew (S := fun w' => w'.cell? ⟨w.heap.size, 0, none⟩ = some (.int .i64 p.m.st) ∧ w'.cell? ⟨w.heap.size, 1, none⟩ = some (.int .i64 p.m.ev) ∧ w'.cell? ⟨w.heap.size, 2, none⟩ = some (.slice Pl.a1 p.m.starts.length Pl.c1) ∧ w'.cell? ⟨w.heap.size, 3, none⟩ = some (.slice Pl.a2 p.m.arrows.length Pl.c2) ∧ w'.cell? ⟨w.heap.size, 4, none⟩ = some (.slice Pl.a3 p.m.ends.length Pl.c3) ∧ w'.cell? ⟨w.heap.size, 5, none⟩ = some (.slice sa p.seen.length sc) ∧ w'.cell? ⟨w.heap.size, 6, none⟩ = some (.slice ta p.secret.length tc) ∧ w'.cell? ⟨w.heap.size + 1, 0, none⟩ = some (.int .i64 o.st) ∧ w'.cell? ⟨w.heap.size + 1, 1, none⟩ = some (.int .i64 o.ev) ∧ w'.cell? ⟨w.heap.size + 1, 2, none⟩ = some (.slice lo.a1 o.starts.length lo.c1) ∧ w'.cell? ⟨w.heap.size + 1, 3, none⟩ = some (.slice lo.a2 o.arrows.length lo.c2) ∧ w'.cell? ⟨w.heap.size + 1, 4, none⟩ = some (.slice lo.a3 o.ends.length lo.c3) ∧ w'.cell? ⟨g, k, none⟩ = some (.slice ra Lk.length rc)) (by kernel_rfl) (SA.out _ (Below.refl _ _).drew) (fun hS => ?_)
     have HY : Hid (Below wr.heap.size wr wr.drew) := (Below.refl _ _).drew
     revert hS HY
     generalize wr.drew = Y0
     intro hS HY
     refine tkH 0 (ptval p ⟨Pl, sa, sc, ta, tc⟩) rfl (fun w' hw' => by obtain ⟨q0, q1, q2, q3, q4, q5, q6, q7, q8, q9, q10, q11, q12⟩ := hw'; go_simp) hS ?_
     refine tkH 1 (.slice fa free.length fc) rfl (fun w' hw' => by obtain ⟨q0, q1, q2, q3, q4, q5, q6, q7, q8, q9, q10, q11, q12⟩ := hw'; go_simp) hS ?_
     refine tkH 2 (mval o lo) rfl (fun w' hw' => by obtain ⟨q0, q1, q2, q3, q4, q5, q6, q7, q8, q9, q10, q11, q12⟩ := hw'; go_simp) hS ?_
     refine tkH 3 (.slice (some ⟨g, 0, none⟩) QL.length qc) rfl (fun w' hw' => by obtain ⟨q0, q1, q2, q3, q4, q5, q6, q7, q8, q9, q10, q11, q12⟩ := hw'; go_simp) hS ?_
     refine tkH 4 (.int .i64 (k : Int)) rfl (fun w' hw' => by obtain ⟨q0, q1, q2, q3, q4, q5, q6, q7, q8, q9, q10, q11, q12⟩ := hw'; go_simp) hS ?_
     refine tkH 5 (.pointer (some ⟨g, k, none⟩)) rfl (fun w' hw' => by obtain ⟨q0, q1, q2, q3, q4, q5, q6, q7, q8, q9, q10, q11, q12⟩ := hw'; go_simp) hS ?_
     refine tkH 6 (.slice ra Lk.length rc) rfl (fun w' hw' => by obtain ⟨q0, q1, q2, q3, q4, q5, q6, q7, q8, q9, q10, q11, q12⟩ := hw'; go_simp) hS ?_
     simp only [Act.put, List.setIfInBounds_toArray]
     refine wpAnyH_ready (rs := [7]) (by kernel_rfl) (by simp) ?_
     refine AllReadyH.cons rfl (fun K' hK' => ?_) AllReadyH.nil
     clear hS
     go_simp
     refine (roholds_any p Pl sa sc ta tc o lo fa fc free ra rc Lk V0.heap.size Y0 (Hid.of (hp.out.below (HWB.out.trans (HY.out.mono HWB.out.size)) (Nat.le_refl _))) (Hid.of (ho.out.below (HWB.out.trans (HY.out.mono HWB.out.size)) (Nat.le_refl _))) (Hid.of (hF.out.below (HWB.out.trans (HY.out.mono HWB.out.size)) (Nat.le_refl _))) hFl hm hmo (Hid.of (HRA.out.below HY.out HNV.out)) HLL.out (Hid.of (Nat.le_trans HNV.out HY.out.size))).mono ?_
     rw [HHD.out]
     rintro e1 Y1 ⟨rfl, hb⟩
     replace HY := Hid.of (HY.out.trans (hb.mono HY.out.size))
     refine hK'.out _ _ (SA.out _ HY.out) (fun hS => ?_)
     clear hK' K' hb
     refine tkH 8 (.bool true) rfl (fun w' hw' => by obtain ⟨q0, q1, q2, q3, q4, q5, q6, q7, q8, q9, q10, q11, q12⟩ := hw'; go_simp) hS ?_
     refine wpAnyH_done (by kernel_rfl) ?_ _
     clear hS
     go_wp2_with fail
     exact bodyPost_ret (v := .bool false) (by simp [results, go_sem]) rfl ⟨by rw [HNO.out], HWB.out.trans (HY.out.mono HWB.out.size)⟩
   ·have hkD : decide ((k : Int) < (QL.length : Int)) = false := by simp; omega
    have HET : Hid (keepsO p free o x0 = true) := by
     show _ = _
     rw [HE.out, List.all_eq_true]
     intro L hL
     obtain ⟨q, hq⟩ := List.mem_iff_getElem?.1 hL
     have := (List.getElem?_eq_some_iff.1 hq).1
     exact HAL.out q L (by omega) hq
    go_wp2_with fail
    exact bodyPost_ret (v := .bool true) (by simp [results, go_sem]) rfl ⟨by rw [HET.out], HWB.out⟩

end Go.Proofs.YtkodmnooibpflaaDoor
namespace Go.Proofs.YtkodmnooibpflaaDoor
open Go.RowKit
set_option linter.unusedVariables false

def GoodL (p : Plant) (o : Mach) (L : List PlO) : Prop := L.Nodup ∧ ∀ x ∈ L, OkP p o x
theorem GoodL.len {p : Plant} {o : Mach} {L : List PlO} (h : GoodL p o L) (z6 : p.m.st ≤ 6) (zo : o.st ≤ 6) : L.length ≤ 384 := Nat.le_trans (nodup_sub h.1 (fun x hx => mem_allO zo (h.2 x hx))) (allO_len z6)
theorem setRow_step (p : Plant) (o : Mach) (L : List PlO) (l : List (List PlO)) (e : Int) : setStep p o L l e = l ∨ setStep p o L l e = l ++ [seeO p o L e] := by
  unfold setStep; split
  · exact .inl rfl
  · exact .inr rfl
theorem setRow_at {p : Plant} {o : Mach} {L x : List PlO} {l : List (List PlO)} {k : Nat} (h : l[k]? = some x) : ∀ i, (setRow p o L l i)[k]? = some x := by
  intro i
  unfold setRow
  generalize p.seen.take i = es
  induction es generalizing l with
  | nil => exact h
  | cons e r ih =>
    rw [List.foldl_cons]
    refine ih ?_
    rcases setRow_step p o L l e with q | q <;> rw [q]
    · exact h
    · rw [List.getElem?_append_left (List.getElem?_eq_some_iff.1 h).1]; exact h
theorem setRow_len {p : Plant} {o : Mach} {L : List PlO} {l : List (List PlO)} (i : Nat) : (setRow p o L l i).length ≤ l.length + i := by
  unfold setRow
  have hl : (p.seen.take i).length ≤ i := by rw [List.length_take]; omega
  refine Nat.le_trans ?_ (Nat.add_le_add_left hl l.length)
  generalize p.seen.take i = es
  clear hl
  induction es generalizing l with
  | nil => simp
  | cons e r ih =>
    rw [List.foldl_cons]
    refine Nat.le_trans ih ?_
    rcases setRow_step p o L l e with q | q <;> rw [q] <;> simp <;> omega
theorem setRow_good {p : Plant} {o : Mach} {L : List PlO} {l : List (List PlO)} (hm : mayB p.m = true) (ho : mayB o = true) (z6 : p.m.st ≤ 6) (zo : o.st ≤ 6) (h : ∀ x ∈ l, GoodL p o x) (i : Nat) : ∀ x ∈ setRow p o L l i, GoodL p o x := by
  unfold setRow
  generalize p.seen.take i = es
  induction es generalizing l with
  | nil => exact h
  | cons e r ih =>
    rw [List.foldl_cons]
    refine ih ?_
    have hs := seeO_spec hm ho z6 zo (p := p) (o := o) L e
    rcases setRow_step p o L l e with q | q <;> rw [q]
    · exact h
    · intro x hx
      rcases List.mem_append.1 hx with hx | hx
      · exact h x hx
      · have : x = seeO p o L e := by simpa using hx
        rw [this]; exact ⟨hs.1, hs.2.1⟩
/-- The first places of a row, gone on from. -/
def stpT (p : Plant) (o : Mach) (L : List PlO) (e : Int) (j : Nat) : List PlO := cRow [] ((L.take j).filterMap fun x => onO p o x e)
theorem stpT_none {p : Plant} {o : Mach} {L : List PlO} {e : Int} {j : Nat} {y : PlO} (hy : L[j]? = some y) (h : onO p o y e = none) : stpT p o L e (j + 1) = stpT p o L e j := by
  unfold stpT
  rw [List.take_add_one, hy, List.filterMap_append]; simp [h]
theorem stpT_some {p : Plant} {o : Mach} {L : List PlO} {e : Int} {j : Nat} {y z : PlO} (hy : L[j]? = some y) (h : onO p o y e = some z) : stpT p o L e (j + 1) = cAdd (stpT p o L e j) z := by
  unfold stpT
  rw [List.take_add_one, hy, List.filterMap_append]
  simp only [Option.toList_some, List.filterMap_cons, h, List.filterMap_nil]
  unfold cRow
  rw [List.foldl_append]; rfl
theorem stpT_full (p : Plant) (o : Mach) (L : List PlO) (e : Int) : stpT p o L e L.length = stpO p o L e := by
  unfold stpT stpO
  rw [List.take_of_length_le (Nat.le_refl _)]
theorem stpT_good {p : Plant} {o : Mach} (hm : mayB p.m = true) (ho : mayB o = true) (L : List PlO) (e : Int) (j : Nat) : GoodL p o (stpT p o L e j) := by
  refine ⟨nodup_cRow _ List.nodup_nil, fun x hx => ?_⟩
  unfold stpT at hx
  rw [mem_cRow, List.mem_filterMap] at hx
  rcases hx with hx | ⟨y, -, hy⟩
  · simp at hx
  · exact onO_ok hm ho hy
theorem knownO_snoc {l : List (List PlO)} {n x : List PlO} {q : Nat} (h : l[q]? = some x) : knownO (l.take (q + 1)) n = (knownO (l.take q) n || sameO x n) := by
  unfold knownO
  rw [List.take_add_one, h, List.any_append]; simp
theorem knownO_more {l : List (List PlO)} {n : List PlO} {q : Nat} (h : knownO (l.take q) n = true) : knownO l n = true := by
  unfold knownO at h ⊢
  rw [List.any_eq_true] at h ⊢
  obtain ⟨x, hx, hh⟩ := h
  exact ⟨x, List.mem_of_mem_take hx, hh⟩

/-- What sets knows of the memory. -/
structure LO (w W : World) (p : Plant) (P : PTL) (o : Mach) (lo : ML) (v : Value) (QL : List (List PlO)) : Prop where
  qq : OwnQQ w.heap.size W w.heap.size v QL
  bel : Below w.heap.size w W
  kp : Blk W w.heap.size 44 (ptcells p P)
  ko : Blk W (w.heap.size + 1) 25 (mcells o lo)
theorem LO.below {w W W' : World} {p : Plant} {P : PTL} {o : Mach} {lo : ML} {v : Value} {QL : List (List PlO)} (h : LO w W p P o lo v QL) (hb : Below W.heap.size W W') : LO w W' p P o lo v QL :=
  ⟨h.qq.below hb h.bel.size, h.bel.trans (hb.mono h.bel.size), h.kp.below hb h.kp.lt, h.ko.below hb h.ko.lt⟩
theorem LO.push {w W W2 : World} {p : Plant} {P : PTL} {o : Mach} {lo : ML} {v v' : Value} {QL : List (List PlO)} {l : List PlO} {a : Option Addr} {c : Nat} {vs : List Value} (h : LO w W p P o lo v QL) (ho : W.ownsRow w.heap.size 133 1 v QL.length vs) (hi : ∀ (j : Nat) (l : List PlO), QL[j]? = some l → ∃ a c, vs[j]? = some (.slice a l.length c) ∧ AtQ w.heap.size W a l) (hl : AtQ w.heap.size W a l) (o1 : W2.ownsRow w.heap.size 133 1 v' (QL.length + 1) (vs ++ [.slice a l.length c])) (g : W.grownBy W2 v.ownBlock) : LO w W2 p P o lo v' (QL ++ [l]) := by
  have hty : ∀ (q : Nat) (cs : Array Value), W.heap[q]? = some (.cells cs 25 (0, 0)) → W2.heap[q]? = W.heap[q]? := fun q cs hq => g.block q (Array.getElem?_eq_some_iff.1 hq).1 (fun e => by
    obtain ⟨c2, h2⟩ := own_type ho e.symm
    rw [hq] at h2; cases h2)
  have htp : ∀ (q : Nat) (cs : Array Value), W.heap[q]? = some (.cells cs 44 (0, 0)) → W2.heap[q]? = W.heap[q]? := fun q cs hq => g.block q (Array.getElem?_eq_some_iff.1 hq).1 (fun e => by
    obtain ⟨c2, h2⟩ := own_type ho e.symm
    rw [hq] at h2; cases h2)
  exact ⟨OwnQQ.push (Nat.le_refl _) h.bel.size ho hi hl o1 g, h.bel.grown g h.bel.size (fun j hj => (World.ownsRow.lt ho j hj).1), (htp _ _ h.kp).trans h.kp, (hty _ _ h.ko).trans h.ko⟩
/-- The row that comes next. -/
structure NXo (Wn W : World) (n : Nat) (v : Value) (l : List PlO) : Prop where
  ow : OwnQ n W Wn.heap.size v l
  bel : Below Wn.heap.size Wn W
theorem NXo.below {Wn W W' : World} {n : Nat} {v : Value} {l : List PlO} (h : NXo Wn W n v l) (hn : n ≤ Wn.heap.size) (hb : Below W.heap.size W W') : NXo Wn W' n v l :=
  ⟨h.ow.below hb (Nat.le_trans hn h.bel.size), h.bel.trans (hb.mono h.bel.size)⟩
theorem NXo.push {Wn W W2 : World} {n : Nat} {v v' z : Value} {l : List PlO} {x : PlO} {vs : List Value} (h : NXo Wn W n v l) (hn : n ≤ Wn.heap.size) (ho : W.ownsRow Wn.heap.size 135 2 v l.length vs) (hi : ∀ (k : Nat) (x : PlO), l[k]? = some x → vs[k * 2]? = some (.int .i64 x.1) ∧ ∃ z, vs[k * 2 + 1]? = some z ∧ InnW n W z x.2) (hz : InnW n W z x.2) (o1 : W2.ownsRow Wn.heap.size 135 2 v' (l.length + 1) (vs ++ [.int .i64 x.1, z])) (g : W.grownBy W2 v.ownBlock) : NXo Wn W2 n v' (l ++ [x]) :=
  ⟨OwnQ.push hn h.bel.size ho hi hz o1 g, h.bel.grown g h.bel.size (fun j hj => (World.ownsRow.lt ho j hj).1)⟩
theorem ownQ_one {n : Nat} {W : World} {B : Nat} {x : Int} {z : Value} {xs : List Int} (h : InnW n W z xs) (hn : n ≤ W.heap.size) (hB : B ≤ W.heap.size) : OwnQ n (W.alloc (.cells #[.int .i64 x, z] 135)) B (.slice (some ⟨W.heap.size, 0, none⟩) 1 1) [(x, xs)] := by
  refine ⟨[.int .i64 x, z], World.ownsRow_lit W (base := B) (e := 135) (size := 2) #[.int .i64 x, z] 1 hB (by decide) rfl, fun j q hq => ?_⟩
  match j, hq with
  | 0, hq =>
    have : (x, xs) = q := by simpa using hq
    subst this
    exact ⟨rfl, z, rfl, h.below ((Below.refl _ _).alloc (Nat.le_refl _) _) hn⟩
  | j + 1, hq => simp at hq

end Go.Proofs.YtkodmnooibpflaaDoor
namespace Go.Proofs.YtkodmnooibpflaaDoor
open Go.RowKit
set_option linter.unusedVariables false

abbrev Bo := PlO × Nat
theorem Tryd.infoBo : (Tryd.prog.info? 137).map (fun i => (i.zero, i.size, i.bytes)) = some (some (.agg #[.int .i64 0, .slice none 0 0, .int .i64 0]), 3, 40) := by kernel_rfl
theorem cells_triC (W W' : World) (hW : W'.heap = W.heap) (t : TypeId) (x y z : Value) : ∀ j u, ([x, y, z] : List Value)[j]? = some u → (W'.alloc (.cells #[x, y, z] t)).cell? ((⟨W.heap.size, 0, none⟩ : Addr).add j) = some u := by
  intro j u hu
  rw [addr0_add, Nat.zero_add, ← hW]
  exact (Blk.new W' t #[x, y, z]).cell j (by rw [← Array.getElem?_toList]; exact hu)
def OwnCO (n : Nat) (W : World) (B : Nat) (v : Value) (l : List Bo) : Prop := ∃ vs : List Value, W.ownsRow B 137 3 v l.length vs ∧ ∀ (k : Nat) (x : Bo), l[k]? = some x → vs[k * 3]? = some (.int .i64 x.1.1) ∧ (∃ z, vs[k * 3 + 1]? = some z ∧ InnW n W z x.1.2) ∧ vs[k * 3 + 2]? = some (.int .i64 (x.2 : Int))
theorem OwnCO.get {n : Nat} {W : World} {B : Nat} {v : Value} {l : List Bo} (h : OwnCO n W B v l) {k : Nat} {x : Bo} (hx : l[k]? = some x) : ∃ g cap sa sc, v = .slice (some ⟨g, 0, none⟩) l.length cap ∧ g < W.heap.size ∧ W.cell? ⟨g, k * 3, none⟩ = some (.int .i64 x.1.1) ∧ W.cell? ⟨g, k * 3 + 1, none⟩ = some (.slice sa x.1.2.length sc) ∧ W.cell? ⟨g, k * 3 + 2, none⟩ = some (.int .i64 (x.2 : Int)) ∧ At W sa x.1.2 ∧ x.1.2.length ≤ maxLen ∧ InnW n W (.slice sa x.1.2.length sc) x.1.2 := by
  obtain ⟨vs, ho, hi⟩ := h
  rcases ho.2 with ⟨rfl, hn⟩ | ⟨g, cap, cur, rfl, hg, hh, hnc, hcm, hcs, ht⟩
  · have := (List.getElem?_eq_some_iff.1 hx).1; omega
  · obtain ⟨c1, ⟨z, c2, hz⟩, c3⟩ := hi k x hx
    have d1 := ho.cells (g := g) rfl _ _ c1
    have d2 := ho.cells (g := g) rfl _ _ c2
    have d3 := ho.cells (g := g) rfl _ _ c3
    rw [addr0_add, Nat.zero_add] at d1 d2 d3
    obtain ⟨sa, sc, rfl, i1, i2, -⟩ := hz.at
    exact ⟨g, cap, sa, sc, rfl, (Array.getElem?_eq_some_iff.1 hh).1, d1, d2, d3, i1, i2, hz⟩
theorem OwnCO.form {n : Nat} {W : World} {B : Nat} {v : Value} {l : List Bo} (h : OwnCO n W B v l) : ∃ a c, v = .slice a l.length c := by
  obtain ⟨vs, ho, -⟩ := h
  obtain ⟨a, c, e, -⟩ := own_form2 ho
  exact ⟨a, c, e⟩
theorem OwnCO.below {n : Nat} {W W' : World} {B : Nat} {v : Value} {l : List Bo} (h : OwnCO n W B v l) (hb : Below W.heap.size W W') (hn : n ≤ W.heap.size) : OwnCO n W' B v l := by
  obtain ⟨vs, ho, hi⟩ := h
  refine ⟨vs, own_same ho (fun q hq => hb.block q (World.ownsRow.lt ho q hq).2), fun k x hx => ?_⟩
  obtain ⟨c1, ⟨z, c2, hz⟩, c3⟩ := hi k x hx
  exact ⟨c1, ⟨z, c2, hz.below hb hn⟩, c3⟩
theorem OwnCO.push {n : Nat} {W W2 : World} {B : Nat} {v v' z : Value} {l : List Bo} {x : Bo} {vs : List Value} (hn : n ≤ B) (hB : B ≤ W.heap.size) (ho : W.ownsRow B 137 3 v l.length vs) (hi : ∀ (k : Nat) (x : Bo), l[k]? = some x → vs[k * 3]? = some (.int .i64 x.1.1) ∧ (∃ z, vs[k * 3 + 1]? = some z ∧ InnW n W z x.1.2) ∧ vs[k * 3 + 2]? = some (.int .i64 (x.2 : Int))) (hz : InnW n W z x.1.2) (o1 : W2.ownsRow B 137 3 v' (l.length + 1) (vs ++ [.int .i64 x.1.1, z, .int .i64 (x.2 : Int)])) (g : W.grownBy W2 v.ownBlock) : OwnCO n W2 B v' (l ++ [x]) := by
  have low : ∀ j, j < n → W2.heap[j]? = W.heap[j]? := fun j hj => g.block j (by omega) (fun e => by have := (World.ownsRow.lt ho j e.symm).1; omega)
  have hty : ∀ (q : Nat) (cs : Array Value), W.heap[q]? = some (.cells cs 3 (0, 0)) → W2.heap[q]? = W.heap[q]? := fun q cs hq => g.block q (Array.getElem?_eq_some_iff.1 hq).1 (fun e => by
    obtain ⟨c2, h2⟩ := own_type ho e.symm
    rw [hq] at h2; cases h2)
  have hl : vs.length = l.length * 3 := ho.1
  refine ⟨vs ++ [.int .i64 x.1.1, z, .int .i64 (x.2 : Int)], by rw [List.length_append]; exact o1, fun k y hy => ?_⟩
  by_cases hk : k < l.length
  · rw [List.getElem?_append_left hk] at hy
    obtain ⟨c1, ⟨u, c2, hu⟩, c3⟩ := hi k y hy
    exact ⟨by rw [List.getElem?_append_left (by omega)]; exact c1, ⟨u, by rw [List.getElem?_append_left (by omega)]; exact c2, hu.kept g.size low hty⟩, by rw [List.getElem?_append_left (by omega)]; exact c3⟩
  · have hk' := (List.getElem?_eq_some_iff.1 hy).1
    simp at hk'
    have e : k = l.length := by omega
    subst e
    rw [List.getElem?_append_right (Nat.le_refl _)] at hy
    have : x = y := by simpa using hy
    subst this
    refine ⟨?_, ⟨z, ?_, hz.kept g.size low hty⟩, ?_⟩
    · rw [List.getElem?_append_right (by omega), hl, Nat.sub_self]; rfl
    · rw [List.getElem?_append_right (by omega), hl]
      have : l.length * 3 + 1 - l.length * 3 = 1 := by omega
      rw [this]; rfl
    · rw [List.getElem?_append_right (by omega), hl]
      have : l.length * 3 + 2 - l.length * 3 = 2 := by omega
      rw [this]; rfl
theorem ownCO_one {n : Nat} {W : World} {B : Nat} {x : Int} {z : Value} {xs : List Int} {nd : Nat} (h : InnW n W z xs) (hn : n ≤ W.heap.size) (hB : B ≤ W.heap.size) : OwnCO n (W.alloc (.cells #[.int .i64 x, z, .int .i64 (nd : Int)] 137)) B (.slice (some ⟨W.heap.size, 0, none⟩) 1 1) [((x, xs), nd)] := by
  refine ⟨[.int .i64 x, z, .int .i64 (nd : Int)], World.ownsRow_lit W (base := B) (e := 137) (size := 3) #[.int .i64 x, z, .int .i64 (nd : Int)] 1 hB (by decide) rfl, fun j q hq => ?_⟩
  match j, hq with
  | 0, hq =>
    have : ((x, xs), nd) = q := by simpa using hq
    subst this
    exact ⟨rfl, ⟨z, rfl, h.below ((Below.refl _ _).alloc (Nat.le_refl _) _) hn⟩, rfl⟩
  | j + 1, hq => simp at hq
theorem three_vals {n : Nat} {W : World} {z : Value} {x : Bo} (hz : InnW n W z x.1.2) : ∀ u ∈ ([.int .i64 x.1.1, z, .int .i64 (x.2 : Int)] : List Value), u.oneCell' = true := fun u hu => by
  rcases List.mem_cons.1 hu with rfl | hu
  · rfl
  · rcases List.mem_cons.1 hu with rfl | hu
    · exact hz.one
    · rw [List.mem_singleton.1 hu]; rfl

/-- What is asked of the places that Covers finds. -/
structure CovJ (p : Plant) (o : Mach) (v : VS) (J : Bo → Prop) : Prop where
  ok : ∀ x, J x → OkP p o x.1 ∧ x.2 < v.1.length
  un : ∀ x e z, J x → 0 ≤ e → e < p.m.ev → hasB p.seen e = false → onO p o x.1 e = some z → J (z, x.2)
  se : ∀ x e z, J x → 0 ≤ e → e < p.m.ev → hasB p.seen e = true → onO p o x.1 e = some z → ∃ m, mvF v.2 x.2 e = some m ∧ hasB m.st x.1.1 = true ∧ m.to < v.1.length ∧ J (z, m.to)
theorem nodup_lenB {p : Plant} {o : Mach} {v : VS} {J : Bo → Prop} (h : CovJ p o v J) (z6 : p.m.st ≤ 6) (zo : o.st ≤ 6) (hv : v.1.length ≤ 64) {l : List Bo} (hn : l.Nodup) (hl : ∀ x ∈ l, J x) : l.length ≤ 24576 := by
  have hsub : ∀ x ∈ l, x ∈ (allO p).flatMap (fun y => (List.range 64).map fun k => (y, k)) := fun x hx => by
    obtain ⟨h1, h2⟩ := h.ok x (hl x hx)
    refine List.mem_flatMap.2 ⟨x.1, mem_allO zo h1, List.mem_map.2 ⟨x.2, List.mem_range.2 (by omega), rfl⟩⟩
  refine Nat.le_trans (nodup_sub hn hsub) ?_
  rw [List.length_flatMap]
  have := allO_len z6
  have e : (List.map (fun y => (List.map (fun k => ((y, k) : Bo)) (List.range 64)).length) (allO p)).sum = (allO p).length * 64 := by
    simp only [List.length_map, List.length_range]
    generalize allO p = L
    induction L with
    | nil => rfl
    | cons a r ih => rw [List.map_cons, List.sum_cons, ih, List.length_cons]; omega
  rw [e]; omega

end Go.Proofs.YtkodmnooibpflaaDoor
