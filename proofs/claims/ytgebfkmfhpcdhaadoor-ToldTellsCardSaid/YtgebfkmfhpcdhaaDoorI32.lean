/-
  Plain: of a plain plant where it is is what it did. No program, no model.
  Plain: the least list of low events that tells that something high was done. No program, no model.
  The walk of jalousieref12.Low.
  What jalousieref12.Told knows: of the memory, and of its search.
-/
import Derived.Test.YtgebfkmfhpcdhaaDoorI30
import Derived.Deep.RegionHeld3
import Derived.Test.YtgebfkmfhpcdhaaDoorI05
import Derived.Test.YtgebfkmfhpcdhaaDoorI03
import Derived.Test.YtgebfkmfhpcdhaaDoorI17
import Derived.Test.YtgebfkmfhpcdhaaDoorI19
import Derived.Test.YtgebfkmfhpcdhaaDoorI06
import Derived.Test.YtgebfkmfhpcdhaaDoorI04
import Derived.Test.YtgebfkmfhpcdhaaDoorERQLeak
namespace Go.Proofs.YtgebfkmfhpcdhaaDoor
open Go.RowKit
set_option linter.unusedVariables false
set_option linter.unusedSectionVars false

section
variable {m s : Mach}
theorem run_can (hm : mayB m = true) (hs : mayB s = true) (zm : m.st ≤ 6) (zs : s.st ≤ 4) {seen : List Int} (u : List Int) : runF (qD m s seen) (qF m s seen) u = canG (allQ m s) (afterQ m s seen (wordS seen u)) := by
  have hin : ∀ x ∈ afterQ m s seen (wordS seen u), x ∈ allQ m s := by
    unfold afterQ
    rcases List.eq_nil_or_concat (wordS seen u) with e | ⟨a, b, e⟩
    · rw [e]; exact (first_in hm hs zm zs).2.1
    · rw [e, List.concat_eq_append, List.foldl_append]; exact (seeQ_in hm hs zm zs).2
  rcases List.eq_nil_or_concat u with rfl | ⟨a, b, rfl⟩
  · rfl
  · rw [List.concat_eq_append] at hin ⊢
    rw [runF_snoc]
    have hmem := run_after hm hs zm zs (seen := seen) (a ++ [b])
    rw [runF_snoc] at hmem
    show canG (allQ m s) (seeQ m s seen (runF (qD m s seen) (qF m s seen) a) (seen[b.toNat]?.getD 0)) = _
    refine (canG_iff (seeQ_in hm hs zm zs).2 hin).2 (fun x => ?_)
    rw [← hmem x]
    show _ ↔ x ∈ canG (allQ m s) (seeQ m s seen (runF (qD m s seen) (qF m s seen) a) (seen[b.toNat]?.getD 0))
    rw [mem_canG (seeQ_in hm hs zm zs).2]
end
end Go.Proofs.YtgebfkmfhpcdhaaDoor
namespace Go.Proofs.YtgebfkmfhpcdhaaDoor
open Go.RowKit
set_option linter.unusedVariables false
set_option linter.unusedSectionVars false

def lowA (m : Mach) (high : List Int) : List Arr := m.arrows.filter fun a => !hasB high a.e
def seenH (m : Mach) (high : List Int) : List Int := (rngI m.ev.toNat).filter fun e => !hasB high e
abbrev oneM (m : Mach) : Mach := ⟨1, m.ev, [], [], []⟩
/-- What is known of a machine when low events are seen. -/
abbrev lowP (m : Mach) (high : List Int) : Plant := ⟨m, seenH m high, []⟩
theorem may_one {m : Mach} (hm : mayB m = true) : mayB (oneM m) = true := by
  have hz := mayB_size hm
  unfold sizeOk at hz
  rw [mayB_go (m := oneM m) ⟨by show (1 : Int) ≤ 1; omega, by show (1 : Int) ≤ 256; omega, hz.2.2.1, hz.2.2.2.1, by show (0 : Nat) ≤ 4096; omega⟩ ((rowB_iff _ (by show (1 : Int) ≤ _; omega) _).2 ⟨by show Inc []; simp [Inc], fun x hx => by have hx : x ∈ ([] : List Int) := hx; simp at hx⟩) ((rowB_iff _ (by show (1 : Int) ≤ _; omega) _).2 ⟨by show Inc []; simp [Inc], fun x hx => by have hx : x ∈ ([] : List Int) := hx; simp at hx⟩)]
  rw [arrsFrom_iff]
  exact ⟨fun a ha => by have ha : a ∈ ([] : List Arr) := ha; simp at ha, by show IncA []; simp [IncA], fun _ _ => rfl⟩
theorem after_none : ∀ t : List Int, afterL [] [] t = []
  | [] => rfl
  | e :: t => by
    show afterL [] (stepL [] [] e) t = []
    have : stepL [] [] e = [] := by
      rw [List.eq_nil_iff_forall_not_mem]
      intro y hy
      obtain ⟨a, h, -⟩ := (mem_stepL _ _ _ _).1 hy
      simp at h
    rw [this]; exact after_none t
theorem inc_seenH (m : Mach) (high : List Int) : Inc (seenH m high) := inc_flt (inc_rng9 _) _
/-- Does a list tell it (L2)? -/
def tellW (m : Mach) (high word : List Int) : Bool := decide (0 < ((estL (lowP m high) word).filter fun n => hasB m.ends n == true).length) && decide (((afterL (lowA m high) m.starts word).filter fun n => hasB m.ends n == true).length = 0)
def tD (m : Mach) (high : List Int) (x : List Pla × List Int) (k : Nat) : List Pla × List Int := (qD m (oneM m) (seenH m high) x.1 k, stepL (lowA m high) x.2 ((seenH m high)[k]?.getD 0))
def t0 (m : Mach) (high : List Int) : List Pla × List Int := (qF m (oneM m) (seenH m high), m.starts)
def tellT (m : Mach) (x : List Pla × List Int) : Bool := opnQ m (oneM m) x.1 && decide ((x.2.filter fun n => hasB m.ends n == true).length = 0)
def fndT (m : Mach) (high : List Int) : List ((List Pla × List Int) × List Int) := bfGo (tD m high) (seenH m high).length 4097 0 [(t0 m high, [])]
/-- The least one. -/
def outT (m : Mach) (high : List Int) : Option (List Int) := ((fndT m high).find? fun x => tellT m x.1).map fun x => wordS (seenH m high) x.2
section
variable {m : Mach}
theorem low_after (hm : mayB m = true) (zm : m.st ≤ 6) (high : List Int) {word : List Int} (hw : ∀ e ∈ word, e ∈ seenH m high) (x : Pla) : x ∈ afterQ m (oneM m) (seenH m high) word ↔ x ∈ (estL (lowP m high) word).map fun y => ((y, []) : Pla) := by
  rw [mem_afterQ hm (may_one hm) zm (by show (1 : Int) ≤ 4; omega) hw, List.mem_map]
  constructor
  · rintro ⟨t, k1, k2, k3⟩
    have k3 : x.2 = [] := by rw [k3]; exact after_none t
    exact ⟨x.1, (mem_from (p := lowP m high) hm hw x.1).2 ⟨t, k1, k2⟩, Prod.ext rfl k3.symm⟩
  · rintro ⟨y, hy, rfl⟩
    obtain ⟨t, k1, k2⟩ := (mem_from (p := lowP m high) hm hw y).1 hy
    exact ⟨t, k1, k2, (after_none t).symm⟩
theorem run_t (hm : mayB m = true) (zm : m.st ≤ 6) (high : List Int) : ∀ (u : List Int) (c : List Pla) (o : List Int), runF (tD m high) (c, o) u = (runF (qD m (oneM m) (seenH m high)) c u, afterL (lowA m high) o (wordS (seenH m high) u))
  | [], c, o => rfl
  | k :: u, c, o => by
    show runF (tD m high) (qD m (oneM m) (seenH m high) c k.toNat, stepL (lowA m high) o ((seenH m high)[k.toNat]?.getD 0)) u = _
    rw [run_t hm zm high u]; rfl
theorem tell_run (hm : mayB m = true) (zm : m.st ≤ 6) (high : List Int) {u : List Int} (hu : ∀ e ∈ u, 0 ≤ e ∧ e < ((seenH m high).length : Int)) : tellT m (runF (tD m high) (t0 m high) u) = tellW m high (wordS (seenH m high) u) := by
  have hw := word_in hu
  unfold t0
  rw [run_t hm zm high]
  unfold tellT tellW
  congr 1
  have hsame : ∀ x, x ∈ runF (qD m (oneM m) (seenH m high)) (qF m (oneM m) (seenH m high)) u ↔ x ∈ (estL (lowP m high) (wordS (seenH m high) u)).map fun y => ((y, []) : Pla) := fun x => by
    rw [run_after hm (may_one hm) zm (by show (1 : Int) ≤ 4; omega), low_after hm zm high hw]
  unfold opnQ
  dsimp only
  rw [any_same _ hsame, List.any_map, Bool.eq_iff_iff, List.any_eq_true, decide_eq_true_eq, List.length_pos_iff_exists_mem]
  constructor
  · rintro ⟨y, hy, q⟩
    refine ⟨y, List.mem_filter.2 ⟨hy, ?_⟩⟩
    simp only [Function.comp, Bool.and_eq_true] at q
    rw [q.1]; rfl
  · rintro ⟨y, hy⟩
    obtain ⟨h1, h2⟩ := List.mem_filter.1 hy
    refine ⟨y, h1, ?_⟩
    simp only [Function.comp]
    have h3 : hasB m.ends y = true := by simpa using h2
    rw [h3]; simp
theorem low_in (hm : mayB m = true) (zm : m.st ≤ 6) (high : List Int) (t ss : List Int) (h : Inc ss ∧ ∀ x ∈ ss, 0 ≤ x ∧ x < m.st) : Inc (afterL (lowA m high) ss t) ∧ ∀ x ∈ afterL (lowA m high) ss t, 0 ≤ x ∧ x < m.st := by
  induction t generalizing ss with
  | nil => exact h
  | cons e t ih =>
    refine ih (stepL (lowA m high) ss e) ⟨inc_srt _, fun x hx => ?_⟩
    obtain ⟨a, h1, -, -, rfl⟩ := (mem_stepL _ _ _ _).1 hx
    have := may_arrs hm a (List.mem_filter.1 h1).1
    exact ⟨this.2.2.1, this.2.2.2.1⟩
theorem t_bound (hm : mayB m = true) (zm : m.st ≤ 6) (high : List Int) {k n : Nat} {l : List ((List Pla × List Int) × List Int)} (h : BI (tD m high) (t0 m high) (seenH m high).length k n l) : l.length ≤ 4096 := by
  have z1 : (oneM m).st ≤ 4 := by show (1 : Int) ≤ 4; omega
  have hsub := nodup_sub (m := ((subs 6).map fun R => canG (allQ m (oneM m)) (R.map fun y => ((y, []) : Pla))).flatMap fun c => (subs 6).map fun o => (c, o)) h.nd (fun c hc => by
    obtain ⟨x, hx, rfl⟩ := List.mem_map.1 hc
    obtain ⟨e1, e2⟩ := h.run x hx
    have hw := word_in e2
    have ei := est_in (p := lowP m high) hm (wordS (seenH m high) x.2)
    have oi := low_in hm zm high (wordS (seenH m high) x.2) m.starts (may_starts hm)
    unfold t0 at e1
    rw [run_t hm zm high, run_can hm (may_one hm) zm z1] at e1
    rw [List.mem_flatMap]
    refine ⟨x.1.1, List.mem_map.2 ⟨estL (lowP m high) (wordS (seenH m high) x.2), mem_subs 6 _ ei.1 (fun y hy => by have := ei.2 y hy; have : y < m.st := this.2; omega), ?_⟩, List.mem_map.2 ⟨x.1.2, ?_, rfl⟩⟩
    · rw [e1]
      have hA : ∀ y ∈ afterQ m (oneM m) (seenH m high) (wordS (seenH m high) x.2), y ∈ allQ m (oneM m) := by
        unfold afterQ
        rcases List.eq_nil_or_concat (wordS (seenH m high) x.2) with e | ⟨a, b, e⟩
        · rw [e]; exact (first_in hm (may_one hm) zm z1).2.1
        · rw [e, List.concat_eq_append, List.foldl_append]; exact (seeQ_in hm (may_one hm) zm z1).2
      exact (canG_iff (fun y hy => hA y ((low_after hm zm high hw y).2 hy)) hA).2 (fun y => (low_after hm zm high hw y).symm)
    · rw [e1]
      exact mem_subs 6 _ oi.1 (fun y hy => by have := oi.2 y hy; omega))
  rw [List.length_map] at hsub
  have hl : (((subs 6).map fun R => canG (allQ m (oneM m)) (R.map fun y => ((y, []) : Pla))).flatMap fun c => (subs 6).map fun o => (c, o)).length = 4096 := by
    rw [List.length_flatMap]
    have : (((subs 6).map fun R => canG (allQ m (oneM m)) (R.map fun y => ((y, []) : Pla))).map fun c => ((subs 6).map fun o => (c, o)).length) = ((subs 6).map fun R => canG (allQ m (oneM m)) (R.map fun y => ((y, []) : Pla))).map fun _ => 64 := by
      refine List.map_congr_left fun c _ => ?_
      rw [List.length_map, subs_len]
    rw [this, List.map_const', List.sum_replicate_nat, List.length_map, subs_len]
  omega
theorem t_all (hm : mayB m = true) (zm : m.st ≤ 6) (high : List Int) : BI (tD m high) (t0 m high) (seenH m high).length (fndT m high).length 0 (fndT m high) :=
  bi_end (N := 4096) (fun k n l h => t_bound hm zm high h) 4097 0 _ (bi_start _ _ _) (Nat.zero_le _) (by omega)
theorem outT_none (hm : mayB m = true) (zm : m.st ≤ 6) (high : List Int) (h : outT m high = none) {word : List Int} (hw : ∀ e ∈ word, e ∈ seenH m high) : tellW m high word = false := by
  have hI := t_all hm zm high
  obtain ⟨x, hx, e1, -⟩ := bi_all _ hI (idxS (seenH m high) word) (idx_in hw)
  unfold outT at h
  rw [Option.map_eq_none_iff, List.find?_eq_none] at h
  have h1 := h x hx
  rw [e1, tell_run hm zm high (idx_in hw), word_idx hw] at h1
  simpa using h1
theorem outT_some (hm : mayB m = true) (zm : m.st ≤ 6) (high : List Int) {v : List Int} (h : outT m high = some v) : tellW m high v = true ∧ (∀ e ∈ v, e ∈ seenH m high) ∧ v.length ≤ 4096 ∧ ∀ word : List Int, (∀ e ∈ word, e ∈ seenH m high) → tellW m high word = true → lessB word v = false := by
  have hi := inc_seenH m high
  have hI := t_all hm zm high
  unfold outT at h
  rw [Option.map_eq_some_iff] at h
  obtain ⟨x, hx, rfl⟩ := h
  have hxo := List.find?_some hx
  rw [List.find?_eq_some_iff_getElem] at hx
  obtain ⟨-, i, hil, e0, hlow⟩ := hx
  have hxi : (fndT m high)[i]? = some x := by rw [List.getElem?_eq_getElem hil, e0]
  have hxm := List.mem_of_getElem? hxi
  have hr := hI.run x hxm
  have hbd := t_bound hm zm high hI
  refine ⟨?_, word_in hr.2, ?_, fun word hw hb' => ?_⟩
  · rw [← tell_run hm zm high hr.2, ← hr.1]; exact hxo
  · have := bi_wlen hI i x hxi; rw [wordS_len]; omega
  · obtain ⟨q, hq, e1, e2⟩ := bi_all _ hI (idxS (seenH m high) word) (idx_in hw)
    have hqo : tellT m q.1 = true := by
      rw [e1, tell_run hm zm high (idx_in hw), word_idx hw]; exact hb'
    obtain ⟨j, hj⟩ := List.mem_iff_getElem?.1 hq
    have hjl := (List.getElem?_eq_some_iff.1 hj).1
    have hqe := (List.getElem?_eq_some_iff.1 hj).2
    have hij : i ≤ j := by
      rcases Nat.lt_or_ge j i with h1 | h1
      · have := hlow j h1
        rw [hqe, hqo] at this; simp at this
      · exact h1
    have hle : leW x.2 q.2 := by
      rcases Nat.lt_or_ge i j with h1 | h1
      · have := List.pairwise_iff_getElem.1 hI.inc i j hil hjl h1
        rw [hqe, e0] at this
        exact .inr this
      · have : i = j := by omega
        subst this
        rw [hxi] at hj
        have := Option.some.inj hj
        subst this
        exact leW_refl _
    have hn := leW_not (leW_trans hle e2)
    rw [← lessB_word hi (idx_in hw) hr.2, word_idx hw] at hn
    exact hn
end

end Go.Proofs.YtgebfkmfhpcdhaaDoor
namespace Go.Proofs.YtgebfkmfhpcdhaaDoor
open Go.RowKit
set_option linter.unusedVariables false

theorem own_snocA {W : World} {B : Nat} {v : Value} {L : List Arr} {a : Arr} (h : W.ownsRow B 75 3 v (L.length + 1) (aflat L ++ [.int .i64 a.f, .int .i64 a.e, .int .i64 a.t])) : OwnA W B v (L ++ [a]) := by
  show W.ownsRow B 75 3 v (L ++ [a]).length (aflat (L ++ [a]))
  rw [List.length_append, aflat_append]
  exact h
theorem OwnA.low {w : World} {B B' : Nat} {v : Value} {L : List Arr} (h : OwnA w B v L) (hB : B' ≤ B) : OwnA w B' v L := by
  refine ⟨h.1, ?_⟩
  rcases h.2 with hn | ⟨g, cap, cur, rfl, hg, rest⟩
  · exact .inl hn
  · exact .inr ⟨g, cap, cur, rfl, Nat.le_trans hB hg, rest⟩
abbrev lowM (m : Mach) (high : List Int) : Mach := ⟨m.st, m.ev, m.starts, lowA m high, m.ends⟩
def lowT (ars : List Arr) (high : List Int) : List Arr := ars.filter fun a => !hasB high a.e
theorem lowT_yes {ars : List Arr} {high : List Int} {j : Nat} {a : Arr} (h : ars[j]? = some a) (hh : hasB high a.e = true) : lowT (ars.take (j + 1)) high = lowT (ars.take j) high := by
  unfold lowT
  rw [List.take_add_one, h, Option.toList_some, List.filter_append, List.filter_cons_of_neg (by rw [hh]; simp)]; simp
theorem lowT_no {ars : List Arr} {high : List Int} {j : Nat} {a : Arr} (h : ars[j]? = some a) (hh : hasB high a.e = false) : lowT (ars.take (j + 1)) high = lowT (ars.take j) high ++ [a] := by
  unfold lowT
  rw [List.take_add_one, h, Option.toList_some, List.filter_append, List.filter_cons_of_pos (by rw [hh]; rfl)]; rfl
theorem lowT_len (ars : List Arr) (high : List Int) (j : Nat) : (lowT (ars.take j) high).length ≤ ars.length := by
  unfold lowT
  exact Nat.le_trans (List.length_filter_le _ _) (by rw [List.length_take]; omega)
abbrev ncellsQ (m : Mach) (l : ML) (v : Value) : Array Value := #[.int .i64 m.st, .int .i64 m.ev, .slice l.a1 m.starts.length l.c1, v, .slice l.a3 m.ends.length l.c3]
/-- What Low knows of the memory. -/
structure LW (w W : World) (m : Mach) (l : ML) (v : Value) (A : List Arr) : Prop where
  bel : Below w.heap.size w W
  km : Blk W w.heap.size 25 (mcells m l)
  kr : Blk W (w.heap.size + 1) 25 zcells
  kn : Blk W (w.heap.size + 1 + 1) 25 (ncellsQ m l v)
  oa : OwnA W (w.heap.size + 1 + 1 + 1) v A
  hB : w.heap.size + 1 + 1 + 1 ≤ W.heap.size
section
variable {w W : World} {m : Mach} {l : ML} {v : Value} {A : List Arr}
theorem LW.below {W' : World} (h : LW w W m l v A) (hb : Below W.heap.size W W') : LW w W' m l v A :=
  ⟨h.bel.trans (hb.mono h.bel.size), h.km.below hb h.km.lt, h.kr.below hb h.kr.lt, h.kn.below hb h.kn.lt, h.oa.kept hb (Nat.le_refl _), Nat.le_trans h.hB hb.size⟩
theorem LW.mid {W2 : World} (h : LW w W m l v A) (g : W.grownBy W2 v.ownBlock) : Below w.heap.size w W2 ∧ Blk W2 w.heap.size 25 (mcells m l) ∧ Blk W2 (w.heap.size + 1) 25 zcells ∧ Blk W2 (w.heap.size + 1 + 1) 25 (ncellsQ m l v) ∧ w.heap.size + 1 + 1 + 1 ≤ W2.heap.size := by
  have hB := h.hB
  have hl : ∀ j, j < w.heap.size + 1 + 1 + 1 → W2.heap[j]? = W.heap[j]? := fun j hj => g.block j (by omega) (fun e => by have := (World.ownsRow.lt h.oa j e.symm).1; omega)
  exact ⟨h.bel.grown g h.bel.size (fun j hj => by have := (World.ownsRow.lt h.oa j hj).1; omega), (hl _ (by omega)).trans h.km, (hl _ (by omega)).trans h.kr, (hl _ (by omega)).trans h.kn, Nat.le_trans hB g.size⟩
theorem LW.store {v' : Value} (bel : Below w.heap.size w W) (km : Blk W w.heap.size 25 (mcells m l)) (kr : Blk W (w.heap.size + 1) 25 zcells) (kn : Blk W (w.heap.size + 1 + 1) 25 (ncellsQ m l v)) (oa : OwnA W (w.heap.size + 1 + 1 + 1) v' A) (hB : w.heap.size + 1 + 1 + 1 ≤ W.heap.size) : LW w (W.setCell ⟨w.heap.size + 1 + 1, 3, none⟩ v') m l v' A := by
  refine ⟨bel.setCell (p := ⟨w.heap.size + 1 + 1, 3, none⟩) (by show _ ≤ w.heap.size + 1 + 1; omega) _, km.other (j := 3) (by omega) _, kr.other (j := 3) (by omega) _, kn.set 3 v', oa.set (by omega) _, ?_⟩
  have : (W.setCell ⟨w.heap.size + 1 + 1, 3, none⟩ v').heap.size = W.heap.size := by simp [World.setCell]
  omega
end

set_option maxRecDepth 100000 in
set_option maxHeartbeats 8000000 in
theorem rqlow_go (st ev : Int) (starts : List Int) (ars : List Arr) (ends : List Int) (a1 : Option Addr) (c1 : Nat) (a2 : Option Addr) (c2 : Nat) (a3 : Option Addr) (c3 : Nat) (ha : Option Addr) (hc : Nat) (high : List Int) (w : World) (hma : Hid (MAt w ⟨st, ev, starts, ars, ends⟩ ⟨a1, c1, a2, c2, a3, c3⟩)) (hh : Hid (At w ha high)) (hhl : Hid (high.length ≤ maxLen)) (hlen : ars.length ≤ 4096) :
    Calls Tryd.prog 54 #[mval ⟨st, ev, starts, ars, ends⟩ ⟨a1, c1, a2, c2, a3, c3⟩, .slice ha high.length hc] w fun e w' => ∃ va vc, e = .returned (mval (lowM ⟨st, ev, starts, ars, ends⟩ high) ⟨a1, c1, va, vc, a3, c3⟩) ∧ OwnA w' w.heap.size (.slice va (lowA ⟨st, ev, starts, ars, ends⟩ high).length vc) (lowA ⟨st, ev, starts, ars, ends⟩ high) ∧ Below w.heap.size w w' := by
  obtain ⟨i0, hi, hz0, hz1, hz2⟩ := info_parts Tryd.infoArrow
  have HW0 : Hid (LW w (((w.alloc (.cells (mcells ⟨st, ev, starts, ars, ends⟩ ⟨a1, c1, a2, c2, a3, c3⟩) 25)).alloc (.cells zcells 25)).alloc (.cells #[.int .i64 st, .int .i64 ev, .slice a1 starts.length c1, .slice none 0 0, .slice a3 ends.length c3] 25)) ⟨st, ev, starts, ars, ends⟩ ⟨a1, c1, a2, c2, a3, c3⟩ (.slice none 0 0) []) := by
    have b1 : Below w.heap.size w (w.alloc (.cells (mcells ⟨st, ev, starts, ars, ends⟩ ⟨a1, c1, a2, c2, a3, c3⟩) 25)) := (Below.refl _ _).alloc (Nat.le_refl _) _
    refine ⟨(b1.alloc (by simp) _).alloc (by simp; omega) _, ((Blk.new w _ _).alloc _).alloc _, ?_, ?_, ownA_nil _ _, by simp⟩
    · have := (Blk.new (w.alloc (.cells (mcells ⟨st, ev, starts, ars, ends⟩ ⟨a1, c1, a2, c2, a3, c3⟩) 25)) 25 zcells).alloc (.cells #[.int .i64 st, .int .i64 ev, .slice a1 starts.length c1, .slice none 0 0, .slice a3 ends.length c3] 25)
      rwa [World.size_alloc] at this
    · have := Blk.new ((w.alloc (.cells (mcells ⟨st, ev, starts, ars, ends⟩ ⟨a1, c1, a2, c2, a3, c3⟩) 25)).alloc (.cells zcells 25)) 25 #[.int .i64 st, .int .i64 ev, .slice a1 starts.length c1, .slice none 0 0, .slice a3 ends.length c3]
      rwa [World.size_alloc, World.size_alloc] at this
  have KX : Hid (Blk ((w.alloc (.cells (mcells ⟨st, ev, starts, ars, ends⟩ ⟨a1, c1, a2, c2, a3, c3⟩) 25)).alloc (.cells zcells 25)) w.heap.size 25 (mcells ⟨st, ev, starts, ars, ends⟩ ⟨a1, c1, a2, c2, a3, c3⟩)) := (Blk.new w _ _).alloc _
  go_enter Tryd.func54, Tryd.ntmps54
  obtain ⟨x0, x1, x2, x3, x4⟩ := mcell_at KX.out
  dsimp only at x0 x1 x2 x3 x4
  go_wp2_with fail
  clear x0 x1 x2 x3 x4 KX
  revert HW0
  generalize (((w.alloc (.cells (mcells ⟨st, ev, starts, ars, ends⟩ ⟨a1, c1, a2, c2, a3, c3⟩) 25)).alloc (.cells zcells 25)).alloc (.cells #[.int .i64 st, .int .i64 ev, .slice a1 starts.length c1, .slice none 0 0, .slice a3 ends.length c3] 25)) = V0
  intro HW0
  go_loopw [6] (fun i wr => ∃ (j : Nat) (v : Value), i = .int .i64 j ∧ j ≤ ars.length ∧ Hid (LW w wr ⟨st, ev, starts, ars, ends⟩ ⟨a1, c1, a2, c2, a3, c3⟩ v (lowT (ars.take j) high))) (fun i _ => ars.length - (intOf i).toNat)
  case atStart => exact ⟨0, _, rfl, Nat.zero_le _, HW0⟩
  case round =>
    clear HW0
    obtain ⟨j, v, rfl, hj, HW⟩ := hrel
    have hcl := lowT_len ars high j
    obtain ⟨cur, HC⟩ : ∃ cur, Hid (cur = lowT (ars.take j) high) := ⟨_, rfl⟩
    rw [← HC.out] at HW hcl
    obtain ⟨va, vc, hv, -⟩ := own_form2 HW.out.oa
    subst hv
    obtain ⟨x0, x1, x2, x3, x4⟩ := mcell_at HW.out.km
    dsimp only at x0 x1 x2 x3 x4
    by_cases hjl : j < ars.length
    · have hjD : decide ((j : Int) < (ars.length : Int)) = true := by simp; omega
      rcases hma.out.a with h0a | ⟨b, off, hab, hbl, hca⟩
      · rw [show ars = [] from h0a] at hjl; simp at hjl
      dsimp only at hab hca
      subst hab
      obtain ⟨a, HA, y0, y1, y2⟩ := hca.at hjl
      have HAR : Hid (ars[j]? = some a) := by show _ = _; rw [HA.out, List.getElem?_eq_getElem hjl, Option.getD_some]
      have SA : Hid (∀ W, Below w.heap.size w W → Blk W w.heap.size 25 (mcells ⟨st, ev, starts, ars, ends⟩ ⟨a1, c1, some ⟨b, off, none⟩, c2, a3, c3⟩) → W.cell? ⟨w.heap.size, 3, none⟩ = some (.slice (some ⟨b, off, none⟩) ars.length c2) ∧ W.cell? ⟨b, off + j * 3, none⟩ = some (.int .i64 a.f) ∧ W.cell? ⟨b, off + j * 3 + 1, none⟩ = some (.int .i64 a.e) ∧ W.cell? ⟨b, off + j * 3 + 2, none⟩ = some (.int .i64 a.t)) := fun W hb hk => ⟨hk.cell 3 rfl, (hb.cell (p := ⟨b, off + j * 3, none⟩) hbl).trans y0, (hb.cell (p := ⟨b, off + j * 3 + 1, none⟩) hbl).trans y1, (hb.cell (p := ⟨b, off + j * 3 + 2, none⟩) hbl).trans y2⟩
      clear y0 y1 y2
      obtain ⟨-, -, y1, -⟩ := SA.out _ HW.out.bel HW.out.km
      have KEY := Hid.of (refHas_any ha hc high a.e wr (hh.out.below HW.out.bel (Nat.le_refl _)) hhl.out)
      go_wp2_with fail
      refine KEY.out.mono ?_
      rintro e W1 ⟨rfl, rfl⟩
      clear KEY y1 x0 x1 x2 x3 x4
      cases hbb : hasB high a.e with
      | true =>
        have HNX : Hid (lowT (ars.take (j + 1)) high = cur) := by show _ = _; rw [lowT_yes HAR.out hbb, HC.out]
        clear hbb
        go_wp2_with fail
        go_roundw
        case rel => exact ⟨j + 1, _, by go_num, by omega, by rw [HNX.out]; exact HW⟩
        case measure => simp [intOf]; omega
      | false =>
        have HNX : Hid (lowT (ars.take (j + 1)) high = cur ++ [a]) := by show _ = _; rw [lowT_no HAR.out hbb, HC.out]
        clear hbb
        go_wp2_with fail
        have bd : Below W1.heap.size W1 W1.drew := (Below.refl _ _).drew
        replace HW := Hid.of (HW.out.below bd)
        refine wp_region_held_drew (S := fun w' => w'.cell? ⟨w.heap.size, 3, none⟩ = some (.slice (some ⟨b, off, none⟩) ars.length c2) ∧ w'.cell? ⟨b, off + j * 3, none⟩ = some (.int .i64 a.f) ∧ w'.cell? ⟨b, off + j * 3 + 1, none⟩ = some (.int .i64 a.e) ∧ w'.cell? ⟨b, off + j * 3 + 2, none⟩ = some (.int .i64 a.t)) (by kernel_rfl) (SA.out _ HW.out.bel HW.out.km) (fun hS => ?_)
        clear bd
        revert HW hS
        generalize W1.drew = Y0
        intro HW hS
        refine wpAnyH_take (i := 0) (v := .pointer (some ⟨w.heap.size + 1 + 1, 3, none⟩)) rfl (by kernel_rfl) (by kernel_rfl) (by kernel_rfl) (fun _ _ _ h => h) (Or.inl ⟨by kernel_rfl, fun w' hw' => by obtain ⟨q0, q1, q2, q3⟩ := hw'; go_simp⟩) hS ?_
        refine wpAnyH_take (i := 2) (v := .pointer (some ⟨w.heap.size, 3, none⟩)) rfl (by kernel_rfl) (by kernel_rfl) (by kernel_rfl) (fun _ _ _ h => h) (Or.inl ⟨by kernel_rfl, fun w' hw' => by obtain ⟨q0, q1, q2, q3⟩ := hw'; go_simp⟩) hS ?_
        refine wpAnyH_take (i := 3) (v := .slice (some ⟨b, off, none⟩) ars.length c2) rfl (by kernel_rfl) (by kernel_rfl) (by kernel_rfl) (fun _ _ _ h => h) (Or.inl ⟨by kernel_rfl, fun w' hw' => by obtain ⟨q0, q1, q2, q3⟩ := hw'; go_simp⟩) hS ?_
        refine wpAnyH_take (i := 4) (v := .int .i64 j) rfl (by kernel_rfl) (by kernel_rfl) (by kernel_rfl) (fun _ _ _ h => h) (Or.inl ⟨by kernel_rfl, fun w' hw' => by obtain ⟨q0, q1, q2, q3⟩ := hw'; go_simp⟩) hS ?_
        refine wpAnyH_take (i := 5) (v := .pointer (some ⟨b, off + j * 3, none⟩)) rfl (by kernel_rfl) (by kernel_rfl) (by kernel_rfl) (fun _ _ _ h => h) (Or.inl ⟨by kernel_rfl, fun w' hw' => by obtain ⟨q0, q1, q2, q3⟩ := hw'; go_simp⟩) hS ?_
        refine wpAnyH_take (i := 6) (v := .agg #[.int .i64 a.f, .int .i64 a.e, .int .i64 a.t]) rfl (by kernel_rfl) (by kernel_rfl) (by kernel_rfl) (fun _ _ _ h => h) (Or.inl ⟨by kernel_rfl, fun w' hw' => by obtain ⟨q0, q1, q2, q3⟩ := hw'; go_simp⟩) hS ?_
        simp only [Act.put, List.setIfInBounds_toArray]
        refine wpAnyH_ready (rs := [1, 7]) (by kernel_rfl) (by simp) ?_
        refine AllReadyH.cons rfl (fun K' hK' => ?_) (AllReadyH.cons rfl (fun K' hK' => ?_) AllReadyH.nil)
        · clear hS
          have c3 := HW.out.kn.cell 3 rfl
          go_simp
          refine hK'.out _ _ (SA.out _ HW.out.bel HW.out.km) (fun hS => ?_)
          clear hK' K' c3
          refine wpAnyH_ready (rs := [7]) (by kernel_rfl) (by simp) ?_
          refine AllReadyH.cons rfl (fun K' hK' => ?_) AllReadyH.nil
          clear hS
          go_simp
          have hb : Below Y0.heap.size Y0 (Y0.alloc (.cells #[.int .i64 a.f, .int .i64 a.e, .int .i64 a.t] 75)) := (Below.refl _ _).alloc (Nat.le_refl _) _
          replace HW := Hid.of (HW.out.below hb)
          have KB : Hid (∀ i u, [.int .i64 a.f, .int .i64 a.e, .int .i64 a.t][i]? = some u → (Y0.alloc (.cells #[.int .i64 a.f, .int .i64 a.e, .int .i64 a.t] 75)).cell? ((⟨Y0.heap.size, 0, none⟩ : Addr).add i) = some u) := cell_three_new Y0 _ _ _ _
          refine hK'.out _ _ (SA.out _ HW.out.bel HW.out.km) (fun hS => ?_)
          clear hK' K' hb
          revert HW KB hS
          generalize Y0.alloc (.cells #[.int .i64 a.f, .int .i64 a.e, .int .i64 a.t] 75) = Y2
          generalize Y0.heap.size = pb
          intro HW KB hS
          refine wpAnyH_ready (rs := [8]) (by kernel_rfl) (by simp) ?_
          refine AllReadyH.cons rfl (fun K' hK' => ?_) AllReadyH.nil
          clear hS
          have ho := HW.out.oa
          have hB0 := HW.out.hB
          refine step_append_block rfl (.tmp 26) (.tmp 32) 23 rfl (w.heap.size + 1 + 1 + 1) 75 i0 _ 3 24 Tryd.underlying23 hi hz0 hz1 hz2 rfl (by decide) _ _ _ rfl ho ⟨pb, 0, none⟩ 1 1 [.int .i64 a.f, .int .i64 a.e, .int .i64 a.t] rfl rfl KB.out (by intro u hu; simp at hu; rcases hu with rfl | rfl | rfl <;> rfl) (by decide) (by unfold maxLen; omega) (by omega) hB0 ?_
          intro v9 Y3 o9 g9 n9
          have o9 : OwnA Y3 (w.heap.size + 1 + 1 + 1) v9 (cur ++ [a]) := own_snocA o9
          obtain ⟨kb, km2, kr2, kn2, hs2⟩ := LW.mid HW.out g9
          obtain ⟨va9, vc9, hv9, -⟩ := own_form2 o9
          rw [List.length_append, List.length_cons, List.length_nil, Nat.zero_add] at hv9
          subst hv9
          have O9 := Hid.of o9
          have KB2 := Hid.of kb
          have KM2 := Hid.of km2
          have KR2 := Hid.of kr2
          have KN2 := Hid.of kn2
          have HS2 := Hid.of hs2
          refine hK'.out _ _ (SA.out _ KB2.out KM2.out) (fun hS => ?_)
          clear hK' K' o9 g9 n9 ho hB0 kb km2 kr2 kn2 hs2 HW KB
          refine wpAnyH_take (i := 9) (v := .pointer (some ⟨w.heap.size + 1 + 1, 3, none⟩)) rfl (by kernel_rfl) (by kernel_rfl) (by kernel_rfl) (fun _ _ _ h => h) (Or.inl ⟨by kernel_rfl, fun w' hw' => by obtain ⟨q0, q1, q2, q3⟩ := hw'; go_simp⟩) hS ?_
          refine wpAnyH_ready (rs := [10]) (by kernel_rfl) (by simp) ?_
          refine AllReadyH.cons rfl (fun K' hK' => ?_) AllReadyH.nil
          clear hS
          have c3 := KN2.out.cell 3 rfl
          have fz := KN2.out.frozen
          go_simp
          have HWN := Hid.of (LW.store KB2.out KM2.out KR2.out KN2.out O9.out HS2.out)
          refine hK'.out _ _ (SA.out _ HWN.out.bel HWN.out.km) (fun hS => ?_)
          clear hK' K' c3 fz KB2 KM2 KR2 KN2 O9 HS2
          refine wpAnyH_done (by kernel_rfl) ?_ _
          clear hS SA
          go_wp2_with fail
          go_roundw
          case rel => exact ⟨j + 1, .slice va9 (cur.length + 1) vc9, by go_num, by omega, by rw [HNX.out]; exact HWN⟩
          case measure => simp [intOf]; omega
        · clear hS
          go_simp
          have hb : Below Y0.heap.size Y0 (Y0.alloc (.cells #[.int .i64 a.f, .int .i64 a.e, .int .i64 a.t] 75)) := (Below.refl _ _).alloc (Nat.le_refl _) _
          replace HW := Hid.of (HW.out.below hb)
          have KB : Hid (∀ i u, [.int .i64 a.f, .int .i64 a.e, .int .i64 a.t][i]? = some u → (Y0.alloc (.cells #[.int .i64 a.f, .int .i64 a.e, .int .i64 a.t] 75)).cell? ((⟨Y0.heap.size, 0, none⟩ : Addr).add i) = some u) := cell_three_new Y0 _ _ _ _
          refine hK'.out _ _ (SA.out _ HW.out.bel HW.out.km) (fun hS => ?_)
          clear hK' K' hb
          revert HW KB hS
          generalize Y0.alloc (.cells #[.int .i64 a.f, .int .i64 a.e, .int .i64 a.t] 75) = Y5
          generalize Y0.heap.size = pb
          intro HW KB hS
          refine wpAnyH_ready (rs := [1]) (by kernel_rfl) (by simp) ?_
          refine AllReadyH.cons rfl (fun K' hK' => ?_) AllReadyH.nil
          clear hS
          have c3 := HW.out.kn.cell 3 rfl
          go_simp
          refine hK'.out _ _ (SA.out _ HW.out.bel HW.out.km) (fun hS => ?_)
          clear hK' K' c3
          refine wpAnyH_ready (rs := [8]) (by kernel_rfl) (by simp) ?_
          refine AllReadyH.cons rfl (fun K' hK' => ?_) AllReadyH.nil
          clear hS
          have ho := HW.out.oa
          have hB0 := HW.out.hB
          refine step_append_block rfl (.tmp 26) (.tmp 32) 23 rfl (w.heap.size + 1 + 1 + 1) 75 i0 _ 3 24 Tryd.underlying23 hi hz0 hz1 hz2 rfl (by decide) _ _ _ rfl ho ⟨pb, 0, none⟩ 1 1 [.int .i64 a.f, .int .i64 a.e, .int .i64 a.t] rfl rfl KB.out (by intro u hu; simp at hu; rcases hu with rfl | rfl | rfl <;> rfl) (by decide) (by unfold maxLen; omega) (by omega) hB0 ?_
          intro v9 Y7 o9 g9 n9
          have o9 : OwnA Y7 (w.heap.size + 1 + 1 + 1) v9 (cur ++ [a]) := own_snocA o9
          obtain ⟨kb, km2, kr2, kn2, hs2⟩ := LW.mid HW.out g9
          obtain ⟨va9, vc9, hv9, -⟩ := own_form2 o9
          rw [List.length_append, List.length_cons, List.length_nil, Nat.zero_add] at hv9
          subst hv9
          have O9 := Hid.of o9
          have KB2 := Hid.of kb
          have KM2 := Hid.of km2
          have KR2 := Hid.of kr2
          have KN2 := Hid.of kn2
          have HS2 := Hid.of hs2
          refine hK'.out _ _ (SA.out _ KB2.out KM2.out) (fun hS => ?_)
          clear hK' K' o9 g9 n9 ho hB0 kb km2 kr2 kn2 hs2 HW KB
          refine wpAnyH_take (i := 9) (v := .pointer (some ⟨w.heap.size + 1 + 1, 3, none⟩)) rfl (by kernel_rfl) (by kernel_rfl) (by kernel_rfl) (fun _ _ _ h => h) (Or.inl ⟨by kernel_rfl, fun w' hw' => by obtain ⟨q0, q1, q2, q3⟩ := hw'; go_simp⟩) hS ?_
          refine wpAnyH_ready (rs := [10]) (by kernel_rfl) (by simp) ?_
          refine AllReadyH.cons rfl (fun K' hK' => ?_) AllReadyH.nil
          clear hS
          have c3 := KN2.out.cell 3 rfl
          have fz := KN2.out.frozen
          go_simp
          have HWN := Hid.of (LW.store KB2.out KM2.out KR2.out KN2.out O9.out HS2.out)
          refine hK'.out _ _ (SA.out _ HWN.out.bel HWN.out.km) (fun hS => ?_)
          clear hK' K' c3 fz KB2 KM2 KR2 KN2 O9 HS2
          refine wpAnyH_done (by kernel_rfl) ?_ _
          clear hS SA
          go_wp2_with fail
          go_roundw
          case rel => exact ⟨j + 1, .slice va9 (cur.length + 1) vc9, by go_num, by omega, by rw [HNX.out]; exact HWN⟩
          case measure => simp [intOf]; omega
    · have hjD : decide ((j : Int) < (ars.length : Int)) = false := by simp; omega
      have HE : Hid (cur = lowA ⟨st, ev, starts, ars, ends⟩ high) := by show _ = _; rw [HC.out, List.take_of_length_le (by omega)]; rfl
      have n0 := HW.out.kn.cell 0 rfl
      have n1 := HW.out.kn.cell 1 rfl
      have n2 := HW.out.kn.cell 2 rfl
      have n3 := HW.out.kn.cell 3 rfl
      have n4 := HW.out.kn.cell 4 rfl
      have rz := HW.out.kr.frozen
      have r0 := HW.out.kr.cell 0 rfl
      have r1 := HW.out.kr.cell 1 rfl
      have r2 := HW.out.kr.cell 2 rfl
      have r3 := HW.out.kr.cell 3 rfl
      have r4 := HW.out.kr.cell 4 rfl
      have RR := Hid.of (HW.out.kr.set5 (.int .i64 st) (.int .i64 ev) (.slice a1 starts.length c1) (.slice va cur.length vc) (.slice a3 ends.length c3))
      have BB := Hid.of (below_set5 HW.out.bel (b' := w.heap.size + 1) (by omega) (.int .i64 st) (.int .i64 ev) (.slice a1 starts.length c1) (.slice va cur.length vc) (.slice a3 ends.length c3))
      have OO := Hid.of (OwnA.set5 HW.out.oa (b := w.heap.size + 1) (by omega) (.int .i64 st) (.int .i64 ev) (.slice a1 starts.length c1) (.slice va cur.length vc) (.slice a3 ends.length c3))
      clear HW
      go_wp2_with fail
      clear n0 n1 n2 n3 n4 r0 r1 r2 r3 r4 rz x0 x1 x2 x3 x4
      revert RR BB OO
      generalize (((((wr.setCell ⟨w.heap.size + 1, 0, none⟩ (.int .i64 st)).setCell ⟨w.heap.size + 1, 1, none⟩ (.int .i64 ev)).setCell ⟨w.heap.size + 1, 2, none⟩ (.slice a1 starts.length c1)).setCell ⟨w.heap.size + 1, 3, none⟩ (.slice va cur.length vc)).setCell ⟨w.heap.size + 1, 4, none⟩ (.slice a3 ends.length c3)) = Z
      intro RR BB OO
      have r0 := RR.out.cell 0 rfl
      have r1 := RR.out.cell 1 rfl
      have r2 := RR.out.cell 2 rfl
      have r3 := RR.out.cell 3 rfl
      have r4 := RR.out.cell 4 rfl
      refine bodyPost_ret (v := .agg #[.int .i64 st, .int .i64 ev, .slice a1 starts.length c1, .slice va cur.length vc, .slice a3 ends.length c3]) (by simp [results, go_sem, r0, r1, r2, r3, r4]) rfl ⟨va, vc, ?_, ?_, BB.out⟩
      · rw [HE.out]
      · rw [← HE.out]; exact OwnA.low OO.out (by omega)

theorem rqlow_any (m : Mach) (l : ML) (ha : Option Addr) (hc : Nat) (high : List Int) (w : World) (hma : MAt w m l) (hh : At w ha high) (hhl : high.length ≤ maxLen) (hlen : m.arrows.length ≤ 4096) :
    Calls Tryd.prog 54 #[mval m l, .slice ha high.length hc] w fun e w' => ∃ va vc, e = .returned (mval (lowM m high) ⟨l.a1, l.c1, va, vc, l.a3, l.c3⟩) ∧ OwnA w' w.heap.size (.slice va (lowA m high).length vc) (lowA m high) ∧ Below w.heap.size w w' := by
  obtain ⟨st, ev, starts, ars, ends⟩ := m
  obtain ⟨a1, c1, a2, c2, a3, c3⟩ := l
  exact rqlow_go st ev starts ars ends a1 c1 a2 c2 a3 c3 ha hc high w (Hid.of hma) (Hid.of hh) (Hid.of hhl) hlen

end Go.Proofs.YtgebfkmfhpcdhaaDoor
namespace Go.Proofs.YtgebfkmfhpcdhaaDoor
open Go.RowKit
set_option linter.unusedVariables false

theorem own_kepI {T0 : TypeId} {n B : Nat} {W W' : World} {v : Value} {xs : List Int} (h : Own W B v xs) (k : KepT T0 n W W') (h1 : (3 : TypeId) ≠ T0) : Own W' B v xs := own_same h (fun q hq => by
  obtain ⟨cs, hc⟩ := own_type h hq
  exact k.ty q cs _ h1 hc)
theorem own_kepA {T0 : TypeId} {n B : Nat} {W W' : World} {v : Value} {xs : List Arr} (h : OwnA W B v xs) (k : KepT T0 n W W') (h1 : (75 : TypeId) ≠ T0) : OwnA W' B v xs := own_same h (fun q hq => by
  obtain ⟨cs, hc⟩ := own_type h hq
  exact k.ty q cs _ h1 hc)
theorem os_cell {W : World} {B n c g o : Nat} {xs : List Int} {k : Nat} {x : Int} (h : Own W B (.slice (some ⟨g, o, none⟩) n c) xs) (hx : xs[k]? = some x) : W.cell? ⟨g, o + k, none⟩ = some (.int .i64 x) := by
  obtain ⟨a, cap, e, hat, -⟩ := h.at
  cases e
  rcases hat with h0 | ⟨b, off, e2, -, hc⟩
  · rw [h0] at hx; simp at hx
  · cases e2
    have hk := (List.getElem?_eq_some_iff.1 hx).1
    have := hc k hk
    rw [List.getD_eq_getElem?_getD, hx, Option.getD_some] at this
    exact this
theorem os_some {W : World} {B n c : Nat} {a : Option Addr} {xs : List Int} (h : Own W B (.slice a n c) xs) (hl : 0 < xs.length) : ∃ g o, a = some ⟨g, o, none⟩ := by
  obtain ⟨a', cap, e, hat, -⟩ := h.at
  cases e
  rcases hat with h0 | ⟨b, off, e2, -⟩
  · rw [h0] at hl; simp at hl
  · exact ⟨b, off, e2⟩
/-- What Told knows of the memory. -/
structure TS (w W : World) (m : Mach) (l : ML) (LA : List Arr) (pl p1 : Nat) (la : Option Addr) (lc : Nat) (sv : Value) (seen : List Int) (vq vo vw : Value) (QL : List (List Pla)) (OL WL : List (List Int)) : Prop where
  bel : Below w.heap.size w W
  km : Blk W w.heap.size 25 (mcells m l)
  kl : Blk W pl 25 (mcells ⟨m.st, m.ev, m.starts, LA, m.ends⟩ ⟨l.a1, l.c1, la, lc, l.a3, l.c3⟩)
  k1 : Blk W p1 25 (mcells ⟨1, m.ev, [], [], []⟩ ml0)
  oa : OwnA W w.heap.size (.slice la LA.length lc) LA
  os : Own W w.heap.size sv seen
  oq : OwnQQ w.heap.size W w.heap.size vq QL
  oo : OwnV w.heap.size W w.heap.size vo OL
  ow : OwnV w.heap.size W w.heap.size vw WL
  ne : vo.ownBlock ≠ vw.ownBlock
section
variable {w W : World} {m : Mach} {l : ML} {LA : List Arr} {pl p1 : Nat} {la : Option Addr} {lc : Nat} {sv : Value} {seen : List Int} {vq vo vw : Value} {QL : List (List Pla)} {OL WL : List (List Int)}
theorem TS.below {W' : World} (h : TS w W m l LA pl p1 la lc sv seen vq vo vw QL OL WL) (hb : Below W.heap.size W W') : TS w W' m l LA pl p1 la lc sv seen vq vo vw QL OL WL :=
  ⟨h.bel.trans (hb.mono h.bel.size), h.km.below hb h.km.lt, h.kl.below hb h.kl.lt, h.k1.below hb h.k1.lt, h.oa.kept hb (Nat.le_refl _), own_kepI h.os (kepT_below (T0 := 25) (n := 0) hb (Nat.zero_le _)) (by decide), h.oq.below hb h.bel.size, h.oo.below hb h.bel.size, h.ow.below hb h.bel.size, h.ne⟩
theorem TS.pushQ {W2 : World} {v' : Value} {q : List Pla} {a : Option Addr} {c : Nat} {vs : List Value} (h : TS w W m l LA pl p1 la lc sv seen vq vo vw QL OL WL) (ho : W.ownsRow w.heap.size 60 1 vq QL.length vs) (hi : ∀ (j : Nat) (l : List Pla), QL[j]? = some l → ∃ a c, vs[j]? = some (.slice a l.length c) ∧ AtQ w.heap.size W a l) (hl : AtQ w.heap.size W a q) (o1 : W2.ownsRow w.heap.size 60 1 v' (QL.length + 1) (vs ++ [.slice a q.length c])) (g : W.grownBy W2 vq.ownBlock) : TS w W2 m l LA pl p1 la lc sv seen v' vo vw (QL ++ [q]) OL WL := by
  have hk := kepT_grown ho g (Nat.le_refl _) h.bel.size
  exact ⟨h.bel.grown g h.bel.size (fun j hj => (World.ownsRow.lt ho j hj).1), (hk.ty _ _ _ (by decide) h.km).trans h.km, (hk.ty _ _ _ (by decide) h.kl).trans h.kl, (hk.ty _ _ _ (by decide) h.k1).trans h.k1, own_kepA h.oa hk (by decide), own_kepI h.os hk (by decide), OwnQQ.push (Nat.le_refl _) h.bel.size ho hi hl o1 g, h.oo.kep hk (by decide) (by decide), h.ow.kep hk (by decide) (by decide), h.ne⟩
theorem ownV_lt {n B : Nat} {v : Value} {LL : List (List Int)} (h : OwnV n W B v LL) {k : Nat} (hk : v.ownBlock = some k) : k < W.heap.size := by
  obtain ⟨vs, ho, -⟩ := h
  exact (World.ownsRow.lt ho k hk).2
theorem TS.pushO {W2 : World} {v' x : Value} {xs : List Int} {vs : List Value} (h : TS w W m l LA pl p1 la lc sv seen vq vo vw QL OL WL) (ho : W.ownsRow w.heap.size 22 1 vo OL.length vs) (hi : ∀ (j : Nat) (xs : List Int), OL[j]? = some xs → ∃ x, vs[j]? = some x ∧ InnW w.heap.size W x xs) (hx : InnW w.heap.size W x xs) (o1 : W2.ownsRow w.heap.size 22 1 v' (OL.length + 1) (vs ++ [x])) (g : W.grownBy W2 vo.ownBlock) (hn : v'.ownBlock = vo.ownBlock ∨ v'.ownBlock = some W.heap.size) : TS w W2 m l LA pl p1 la lc sv seen vq v' vw QL (OL ++ [xs]) WL := by
  have hk := kepT_grown ho g (Nat.le_refl _) h.bel.size
  refine ⟨h.bel.grown g h.bel.size (fun j hj => (World.ownsRow.lt ho j hj).1), (hk.ty _ _ _ (by decide) h.km).trans h.km, (hk.ty _ _ _ (by decide) h.kl).trans h.kl, (hk.ty _ _ _ (by decide) h.k1).trans h.k1, own_kepA h.oa hk (by decide), own_kepI h.os hk (by decide), h.oq.kep hk (by decide) (by decide) (by decide), OwnV.push (Nat.le_refl _) h.bel.size ho hi hx o1 g, h.ow.other ho g (Nat.le_refl _) h.bel.size (.inr (fun e => h.ne e.symm)), ?_⟩
  rcases hn with e | e
  · rw [e]; exact h.ne
  · rw [e]
    intro e2
    have := ownV_lt h.ow e2.symm
    omega
theorem TS.pushW {W2 : World} {v' x : Value} {xs : List Int} {vs : List Value} (h : TS w W m l LA pl p1 la lc sv seen vq vo vw QL OL WL) (ho : W.ownsRow w.heap.size 22 1 vw WL.length vs) (hi : ∀ (j : Nat) (xs : List Int), WL[j]? = some xs → ∃ x, vs[j]? = some x ∧ InnW w.heap.size W x xs) (hx : InnW w.heap.size W x xs) (o1 : W2.ownsRow w.heap.size 22 1 v' (WL.length + 1) (vs ++ [x])) (g : W.grownBy W2 vw.ownBlock) (hn : v'.ownBlock = vw.ownBlock ∨ v'.ownBlock = some W.heap.size) : TS w W2 m l LA pl p1 la lc sv seen vq vo v' QL OL (WL ++ [xs]) := by
  have hk := kepT_grown ho g (Nat.le_refl _) h.bel.size
  refine ⟨h.bel.grown g h.bel.size (fun j hj => (World.ownsRow.lt ho j hj).1), (hk.ty _ _ _ (by decide) h.km).trans h.km, (hk.ty _ _ _ (by decide) h.kl).trans h.kl, (hk.ty _ _ _ (by decide) h.k1).trans h.k1, own_kepA h.oa hk (by decide), own_kepI h.os hk (by decide), h.oq.kep hk (by decide) (by decide) (by decide), h.oo.other ho g (Nat.le_refl _) h.bel.size (.inr h.ne), OwnV.push (Nat.le_refl _) h.bel.size ho hi hx o1 g, ?_⟩
  rcases hn with e | e
  · rw [e]; exact h.ne
  · rw [e]
    intro e2
    have := ownV_lt h.oo e2
    omega
end

/-! Plain: the search. -/
abbrev TP := (List Pla × List Int) × List Int
structure LTq (m : Mach) (high : List Int) (k : Nat) (l : List TP) : Prop where
  bi : BI (tD m high) (t0 m high) (seenH m high).length k 0 l
  no : ∀ (j : Nat) (x : TP), j < k → l[j]? = some x → tellT m x.1 = false
  go : fndT m high = bfGo (tD m high) (seenH m high).length (4097 - k) k l
theorem LTq.start (m : Mach) (high : List Int) : LTq m high 0 [(t0 m high, [])] := ⟨bi_start _ _ _, fun j x h => absurd h (Nat.not_lt_zero _), rfl⟩
theorem LTq.found {m : Mach} {high : List Int} {k : Nat} {l : List TP} (h : LTq m high k l) {x : TP} (hx : l[k]? = some x) (ho : tellT m x.1 = true) : outT m high = some (wordS (seenH m high) x.2) := by
  unfold outT
  obtain ⟨t, ht⟩ := bfGo_pre (tD m high) (seenH m high).length (4097 - k) k l
  have hf : (fndT m high).find? (fun x => tellT m x.1) = some x := by
    rw [h.go, ht, List.find?_append]
    have : l.find? (fun x => tellT m x.1) = some x := by
      rw [List.find?_eq_some_iff_getElem]
      have hk := (List.getElem?_eq_some_iff.1 hx).1
      refine ⟨ho, k, hk, (List.getElem?_eq_some_iff.1 hx).2, fun j hj => ?_⟩
      have := h.no j _ hj (List.getElem?_eq_getElem (Nat.lt_trans hj hk))
      rw [this]; rfl
    rw [this]; rfl
  rw [hf]; rfl
theorem LTq.not {m : Mach} {high : List Int} {k : Nat} {l : List TP} (h : LTq m high k l) (hk : k = l.length) : outT m high = none := by
  unfold outT
  have hg : fndT m high = l := by
    rw [h.go]
    have hx : l[k]? = none := List.getElem?_eq_none (by omega)
    cases 4097 - k with
    | zero => rfl
    | succ f => unfold bfGo; rw [hx]
  rw [hg, Option.map_eq_none_iff, List.find?_eq_none]
  intro x hx
  obtain ⟨j, hj⟩ := List.mem_iff_getElem?.1 hx
  have := h.no j x (by have := (List.getElem?_eq_some_iff.1 hj).1; omega) hj
  rw [this]; simp
theorem LTq.next {m : Mach} {high : List Int} {k : Nat} {l : List TP} (h : LTq m high k l) {x : TP} (hx : l[k]? = some x) (ho : tellT m x.1 = false) (hk : k < 4097) : LTq m high (k + 1) (bfRow (tD m high) x l (seenH m high).length) := by
  refine ⟨bi_next _ h.bi hx, fun j y hj hy => ?_, ?_⟩
  · obtain ⟨t, ht⟩ := bfRow_pre (tD m high) x l (seenH m high).length
    have hkl := (List.getElem?_eq_some_iff.1 hx).1
    rw [ht, List.getElem?_append_left (by omega)] at hy
    by_cases e : j = k
    · subst e
      rw [hx] at hy
      have := Option.some.inj hy
      subst this; exact ho
    · exact h.no j y (by omega) hy
  · rw [h.go, show 4097 - k = (4097 - (k + 1)) + 1 by omega, bfGo, hx]
def qlT (l : List TP) : List (List Pla × List Int) := l.map fun x => (x.1.1, x.2)
def olT (l : List TP) : List (List Int) := l.map fun x => x.1.2
def wlT (seen : List Int) (l : List TP) : List (List Int) := l.map fun x => wordS seen x.2
theorem qlT_len (l : List TP) : (qlT l).length = l.length := by unfold qlT; rw [List.length_map]
theorem olT_len (l : List TP) : (olT l).length = l.length := by unfold olT; rw [List.length_map]
theorem wlT_len (seen : List Int) (l : List TP) : (wlT seen l).length = l.length := by unfold wlT; rw [List.length_map]
theorem qlT_at {l : List TP} {k : Nat} {x : TP} (h : l[k]? = some x) : (qlT l)[k]? = some (x.1.1, x.2) := by unfold qlT; rw [List.getElem?_map, h]; rfl
theorem olT_at {l : List TP} {k : Nat} {x : TP} (h : l[k]? = some x) : (olT l)[k]? = some x.1.2 := by unfold olT; rw [List.getElem?_map, h]; rfl
theorem wlT_at {seen : List Int} {l : List TP} {k : Nat} {x : TP} (h : l[k]? = some x) : (wlT seen l)[k]? = some (wordS seen x.2) := by unfold wlT; rw [List.getElem?_map, h]; rfl
theorem qlT_snoc (l : List TP) (x : TP) : qlT (l ++ [x]) = qlT l ++ [(x.1.1, x.2)] := by unfold qlT; rw [List.map_append]; rfl
theorem olT_snoc (l : List TP) (x : TP) : olT (l ++ [x]) = olT l ++ [x.1.2] := by unfold olT; rw [List.map_append]; rfl
theorem wlT_snoc (seen : List Int) (l : List TP) (x : TP) : wlT seen (l ++ [x]) = wlT seen l ++ [wordS seen x.2] := by unfold wlT; rw [List.map_append]; rfl
def anyT (l : List TP) (to : List Pla × List Int) (j : Nat) : Bool := (l.take j).any fun x => decide (x.1 = to)
theorem anyT_succ {l : List TP} {to : List Pla × List Int} {j : Nat} {x : TP} (h : l[j]? = some x) (hn : anyT l to j = false) : anyT l to (j + 1) = decide (x.1 = to) := by
  unfold anyT at hn ⊢
  rw [List.take_add_one, h, Option.toList_some, List.any_append, hn]; simp
theorem anyT_all (l : List TP) (to : List Pla × List Int) {j : Nat} (h : l.length ≤ j) : anyT l to j = knownB l to := by unfold anyT knownB; rw [List.take_of_length_le h]
theorem anyT_hit {l : List TP} {to : List Pla × List Int} {j : Nat} (h : anyT l to j = true) : knownB l to = true := by
  unfold anyT at h
  unfold knownB
  rw [List.any_eq_true] at h ⊢
  obtain ⟨x, hx, q⟩ := h
  exact ⟨x, List.mem_of_mem_take hx, q⟩
theorem pair_same (a b : List Pla) (c d : List Int) (x : List Pla × List Int) (hx : x = (a, c)) : (decide (a = b) && sameB c d) = decide (x = (b, d)) := by
  rw [Bool.eq_iff_iff, hx]
  simp [sameB]
theorem opn_can (m s : Mach) {q : List Pla} (h : ∀ y ∈ q, y ∈ allQ m s) : opnQ m s (canG (allQ m s) q) = opnQ m s q := by
  unfold opnQ
  exact any_same _ (fun x => mem_canG h x)
/-- What Told answers. -/
def TolPost (w : World) (o : Option (List Int)) (e : Ending) (w' : World) : Prop := ∃ va vc, e = .returned (.tuple #[.bool o.isSome, .slice va (o.getD []).length vc]) ∧ At w' va (o.getD []) ∧ (o.getD []).length ≤ maxLen ∧ Below w.heap.size w w'
/-- The low events so far. -/
theorem seenH_take {high : List Int} {k : Nat} : ((rngI (k + 1)).filter fun e => !hasB high e) = ((rngI k).filter fun e => !hasB high e) ++ (if hasB high (k : Int) = true then [] else [(k : Int)]) := by
  rw [rngI_succ, List.filter_append]
  congr 1
  cases h : hasB high (k : Int) <;> simp [h]
theorem seenH_len (high : List Int) (k : Nat) : ((rngI k).filter fun e => !hasB high e).length ≤ k := Nat.le_trans (List.length_filter_le _ _) (by rw [rngI_len]; exact Nat.le_refl _)

end Go.Proofs.YtgebfkmfhpcdhaaDoor
