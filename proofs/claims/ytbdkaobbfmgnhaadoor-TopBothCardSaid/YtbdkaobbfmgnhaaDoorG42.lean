/-
  A map keyed by pairs of sets of states, and rows of places, as the model runs them.
  The walks of the closures of package within.
-/
import Derived.Test.YtbdkaobbfmgnhaaDoorG15
import Derived.Test.YtbdkaobbfmgnhaaDoorG19
import Derived.Deep.RegionHeld3
import Derived.Test.YtbdkaobbfmgnhaaDoorG41
import Derived.Test.YtbdkaobbfmgnhaaDoorG17
import Derived.Test.YtbdkaobbfmgnhaaDoorCSetOps
namespace Go.Proofs.YtbdkaobbfmgnhaaDoor
open Go.RowKit
set_option linter.unusedVariables false

/-- A pair of sets. -/
structure SP where
  a : Nat → Nat
  b : Nat → Nat
abbrev spcells (P : SP) : Array Value := #[.int .u64 (P.a 0), .int .u64 (P.a 1), .int .u64 (P.a 2), .int .u64 (P.a 3), .int .u64 (P.b 0), .int .u64 (P.b 1), .int .u64 (P.b 2), .int .u64 (P.b 3)]
abbrev spval (P : SP) : Value := .agg (spcells P)
def eqSP (P Q : SP) : Prop := eqS P.a Q.a ∧ eqS P.b Q.b
/-- The pair stands for two lists, which rise. -/
structure RepSP (P : SP) (s : List Int × List Int) : Prop where
  ra : Rep P.a s.1
  rb : Rep P.b s.2
  ia : Inc s.1
  ib : Inc s.2
theorem eqSP_iff {P Q : SP} {s t : List Int × List Int} (h : RepSP P s) (h' : RepSP Q t) : eqSP P Q ↔ s = t := by
  unfold eqSP
  rw [eqS_iff h.ra h'.ra h.ia h'.ia, eqS_iff h.rb h'.rb h.ib h'.ib]
  constructor
  · rintro ⟨h1, h2⟩; exact Prod.ext h1 h2
  · rintro rfl; exact ⟨rfl, rfl⟩
/-- A place: its pair, from where it was found, at which event. -/
structure PlW where
  sp : SP
  fr : Nat
  ev : Nat

theorem rowSP : (104 : TypeId) < Tryd.prog.types.size := of_decide_eq_true (by kernel_rfl)
theorem wideSP : (match Tryd.prog.underlying 104 with | some (.array _ _) | some (.struct _) => true | _ => false) = true := by kernel_rfl
set_option maxRecDepth 100000 in
theorem lawSP : WideMaps.KeyLaw Tryd.prog 104 := deep_law_laid laidOutS (m := 5) (by omega) rowSP (by kernel_rfl) wideSP
set_option maxRecDepth 100000 in
theorem keySP {P : SP} (h : okS P.a) (h' : okS P.b) : ∃ l, keyOf Tryd.prog 104 (spval P) = some l := by
  have h0 := wf_u64 (h 0)
  have h1 := wf_u64 (h 1)
  have h2 := wf_u64 (h 2)
  have h3 := wf_u64 (h 3)
  have k0 := wf_u64 (h' 0)
  have k1 := wf_u64 (h' 1)
  have k2 := wf_u64 (h' 2)
  have k3 := wf_u64 (h' 3)
  have hk : Tryd.prog.keyType 104 = true := by kernel_rfl
  have hp : Tryd.prog.cellsOf 104 = 8 := by kernel_rfl
  have hc : Tryd.prog.cellsOf 62 = 4 := by kernel_rfl
  have hci : Tryd.prog.cellsOf 60 = 1 := by kernel_rfl
  have hs : ∃ m, Tryd.prog.types.size = m + 1 + 1 := ⟨Tryd.prog.types.size - 2, by have : 2 ≤ Tryd.prog.types.size := of_decide_eq_true (by kernel_rfl); omega⟩
  obtain ⟨m, hm⟩ := hs
  unfold keyOf
  simp only [Tryd.underlying104]
  rw [if_pos (by simp [hk, Value.formed, Tryd.underlying104, hp]), hm]
  unfold Program.keyLits
  simp only [Tryd.underlying104, Value.cells]
  have hr : List.range 4 = [0, 1, 2, 3] := rfl
  simp [hp, hc, hci, Program.keyLits, Tryd.underlying62, Tryd.underlying60, hr, h0, h1, h2, h3, k0, k1, k2, k3]
theorem spval_eq {P Q : SP} (h : spval P = spval Q) : eqSP P Q := by
  simp at h
  obtain ⟨h0, h1, h2, h3, h4, h5, h6, h7⟩ := h
  exact ⟨⟨by omega, by omega, by omega, by omega⟩, ⟨by omega, by omega, by omega, by omega⟩⟩
theorem eqSP_val {P Q : SP} (h : eqSP P Q) : spval P = spval Q := by
  obtain ⟨⟨h0, h1, h2, h3⟩, ⟨h4, h5, h6, h7⟩⟩ := h
  show Value.agg #[_, _, _, _, _, _, _, _] = Value.agg #[_, _, _, _, _, _, _, _]
  rw [h0, h1, h2, h3, h4, h5, h6, h7]
def entW (k : Nat) (p : PlW) : MapEntry := { key := spval p.sp, val := .agg #[], born := k }
def entsW (L : List PlW) : Array MapEntry := (L.mapIdx entW).toArray
theorem entsW_snoc (L : List PlW) (p : PlW) : entsW (L ++ [p]) = (entsW L).push (entW L.length p) := by
  unfold entsW; rw [List.mapIdx_concat]; simp
/-- The places stand for what has been found, one by one. -/
structure RepPL (L : List PlW) (l : List ((List Int × List Int) × List Int)) : Prop where
  len : L.length = l.length
  rep : ∀ (k : Nat) (p : PlW), L[k]? = some p → ∃ x, l[k]? = some x ∧ RepSP p.sp x.1
theorem RepPL.at {L : List PlW} {l : List ((List Int × List Int) × List Int)} (h : RepPL L l) {k : Nat} {x : (List Int × List Int) × List Int} (hk : l[k]? = some x) : ∃ p, L[k]? = some p ∧ RepSP p.sp x.1 := by
  have hlt := (List.getElem?_eq_some_iff.1 hk).1
  have hlt' : k < L.length := by rw [h.len]; exact hlt
  obtain ⟨y, h1, h2⟩ := h.rep k _ (List.getElem?_eq_getElem hlt')
  rw [hk] at h1
  have h1 := Option.some.inj h1
  subst h1
  exact ⟨_, List.getElem?_eq_getElem hlt', h2⟩
theorem RepPL.snoc {L : List PlW} {l : List ((List Int × List Int) × List Int)} (h : RepPL L l) {p : PlW} {x : (List Int × List Int) × List Int} (hr : RepSP p.sp x.1) : RepPL (L ++ [p]) (l ++ [x]) := by
  refine ⟨by simp [h.len], fun k q hk => ?_⟩
  by_cases hlt : k < L.length
  · rw [List.getElem?_append_left hlt] at hk
    obtain ⟨y, h1, h2⟩ := h.rep k q hk
    exact ⟨y, by rw [List.getElem?_append_left (by rw [← h.len]; exact hlt)]; exact h1, h2⟩
  · have hk' := (List.getElem?_eq_some_iff.1 hk).1
    simp at hk'
    have e : k = L.length := by omega
    subst e
    rw [List.getElem?_append_right (Nat.le_refl _)] at hk
    have : p = q := by simpa using hk
    subst this
    exact ⟨x, by rw [h.len, List.getElem?_append_right (Nat.le_refl _)]; simp, hr⟩
theorem RepPL.one {p : PlW} {x : (List Int × List Int) × List Int} (hr : RepSP p.sp x.1) : RepPL [p] [x] := RepPL.snoc (L := []) (l := []) ⟨rfl, fun k S h => by simp at h⟩ hr
theorem find_sp {L : List PlW} {l : List ((List Int × List Int) × List Int)} (hR : RepPL L l) {P : SP} {s : List Int × List Int} (hr : RepSP P s) (w : World) :
    (knownB l s = true ∧ ∃ j, (Instr.findKey 104 (spval P) (entsW L).toList).run Tryd.prog w = .ok (some (j, .agg #[])) w) ∨ (knownB l s = false ∧ (Instr.findKey 104 (spval P) (entsW L).toList).run Tryd.prog w = .ok none w) := by
  obtain ⟨kl, hl⟩ := keySP hr.ra.ok hr.rb.ok
  have hget : ∀ (j : Nat) e, (entsW L).toList[j]? = some e → ∃ p, L[j]? = some p ∧ e = entW j p := by
    intro j e h
    simp only [entsW] at h
    rw [List.getElem?_mapIdx] at h
    cases hq : L[j]? with
    | none => rw [hq] at h; cases h
    | some q => rw [hq] at h; exact ⟨q, rfl, (Option.some.inj h).symm⟩
  have hes : ∀ e ∈ (entsW L).toList, ∃ l, keyOf Tryd.prog 104 e.key = some l := by
    intro e he
    obtain ⟨j, hj⟩ := List.mem_iff_getElem?.1 he
    obtain ⟨p, hp, rfl⟩ := hget j e hj
    obtain ⟨x, -, h2⟩ := hR.rep j p hp
    exact keySP h2.ra.ok h2.rb.ok
  rcases lawSP.find w hl (entsW L).toList hes with ⟨h1, h2⟩ | ⟨j, e, h1, h2, h3⟩
  · refine .inr ⟨?_, h1⟩
    cases hk : knownB l s with
    | false => rfl
    | true =>
      obtain ⟨x, hx, e1⟩ := (knownB_iff _ _).1 hk
      obtain ⟨j, hj⟩ := List.mem_iff_getElem?.1 hx
      obtain ⟨p, hp, hrp⟩ := hR.at hj
      refine absurd (eqSP_val ((eqSP_iff hrp hr).2 e1)) (h2 (entW j p) (List.mem_of_getElem? (i := j) ?_))
      simp only [entsW]
      rw [List.getElem?_mapIdx, hp]; rfl
  · obtain ⟨p, hp, rfl⟩ := hget j e h2
    obtain ⟨x, hx, hrx⟩ := hR.rep j p hp
    exact .inl ⟨(knownB_iff _ _).2 ⟨x, List.mem_of_getElem? hx, (eqSP_iff hrx hr).1 (spval_eq h3)⟩, j, h1⟩
theorem mapSP : Tryd.prog.underlying 147 = some (.map 104 146) := by kernel_rfl
theorem lookW_known {L : List PlW} {l : List ((List Int × List Int) × List Int)} (hR : RepPL L l) {P : SP} {s : List Int × List Int} (hr : RepSP P s) {w : World} {r c : Nat} (hm : w.heap[r]? = some (.map (entsW L) c)) (h : knownB l s = true) :
    (Instr.lookup 147 (.map (some r)) (spval P) true).run Tryd.prog w = .ok (.tuple #[.agg #[], .bool true]) w := by
  obtain ⟨kl, hl⟩ := keySP hr.ra.ok hr.rb.ok
  rcases find_sp hR hr w with ⟨-, j, h1⟩ | ⟨h1, -⟩
  · simp [Instr.lookup, run_underlying mapSP, MapKept.run_getObj_map hm, lawSP.check w _ hl, h1, Result.andThen]
  · rw [h] at h1; cases h1
theorem lookW_new {L : List PlW} {l : List ((List Int × List Int) × List Int)} (hR : RepPL L l) {P : SP} {s : List Int × List Int} (hr : RepSP P s) {w : World} {r c : Nat} (hm : w.heap[r]? = some (.map (entsW L) c)) (h : knownB l s = false) :
    (Instr.lookup 147 (.map (some r)) (spval P) true).run Tryd.prog w = .ok (.tuple #[.agg #[], .bool false]) w := by
  obtain ⟨kl, hl⟩ := keySP hr.ra.ok hr.rb.ok
  rcases find_sp hR hr w with ⟨h1, -⟩ | ⟨-, h1⟩
  · rw [h] at h1; cases h1
  · simp [Instr.lookup, run_underlying mapSP, MapKept.run_getObj_map hm, lawSP.check w _ hl, h1, Result.andThen]
theorem updW_new {L : List PlW} {l : List ((List Int × List Int) × List Int)} (hR : RepPL L l) {p : PlW} {s : List Int × List Int} (hr : RepSP p.sp s) {w : World} {r : Nat} (hm : w.heap[r]? = some (.map (entsW L) L.length)) (h : knownB l s = false) :
    (Instr.mapUpdate 147 (.map (some r)) (spval p.sp) (.agg #[])).run Tryd.prog w = .ok () (setMap w r (.map (entsW (L ++ [p])) (L.length + 1))) := by
  obtain ⟨kl, hl⟩ := keySP hr.ra.ok hr.rb.ok
  rcases find_sp hR hr w with ⟨h1, -⟩ | ⟨-, h1⟩
  · rw [h] at h1; cases h1
  · simp [Instr.mapUpdate, run_underlying mapSP, MapKept.run_getObj_map hm, lawSP.check w _ hl, h1, MapKept.run_setObj_map _ hm, Result.andThen, setMap, entsW_snoc, entW]
theorem updW_first {p : PlW} {s : List Int × List Int} (hr : RepSP p.sp s) {w : World} {r : Nat} (hm : w.heap[r]? = some (.map #[] 0)) :
    (Instr.mapUpdate 147 (.map (some r)) (spval p.sp) (.agg #[])).run Tryd.prog w = .ok () (setMap w r (.map (entsW [p]) 1)) := by
  have := updW_new (L := []) (l := []) ⟨rfl, fun k S h => by simp at h⟩ hr (w := w) (r := r) hm rfl
  simpa using this

/-! Rows of places. -/
def plcells (p : PlW) : List Value := [.int .u64 (p.sp.a 0), .int .u64 (p.sp.a 1), .int .u64 (p.sp.a 2), .int .u64 (p.sp.a 3), .int .u64 (p.sp.b 0), .int .u64 (p.sp.b 1), .int .u64 (p.sp.b 2), .int .u64 (p.sp.b 3), .int .i64 (p.fr : Nat), .int .i64 (p.ev : Nat)]
def plflat : List PlW → List Value
  | [] => []
  | p :: r => plcells p ++ plflat r
theorem plflat_append : ∀ L M : List PlW, plflat (L ++ M) = plflat L ++ plflat M
  | [], M => rfl
  | a :: r, M => by simp only [List.cons_append, plflat, plflat_append r M, List.append_assoc]
theorem plflat_at : ∀ {L : List PlW} {k : Nat} {p : PlW}, L[k]? = some p → ∀ j, j < 10 → (plflat L)[k * 10 + j]? = (plcells p)[j]?
  | [], k, p, h => by simp at h
  | a :: r, 0, p, h => by
    have e : a = p := by simpa using h
    subst e
    intro j hj
    rw [plflat, Nat.zero_mul, Nat.zero_add, List.getElem?_append_left (by simp [plcells]; omega)]
  | a :: r, k + 1, p, h => by
    intro j hj
    have := plflat_at (L := r) (k := k) (p := p) (by simpa using h) j hj
    rw [plflat, List.getElem?_append_right (by simp [plcells]; omega)]
    have e : (k + 1) * 10 + j - (plcells a).length = k * 10 + j := by simp [plcells]; omega
    rw [e]; exact this
abbrev OwnW (W : World) (B : Nat) (v : Value) (L : List PlW) : Prop := W.ownsRow B 144 10 v L.length (plflat L)
theorem OwnW.cell {W : World} {B : Nat} {v : Value} {L : List PlW} (h : OwnW W B v L) {k : Nat} {p : PlW} (hk : L[k]? = some p) : ∃ g cap, v = .slice (some ⟨g, 0, none⟩) L.length cap ∧ B ≤ g ∧ g < W.heap.size ∧ ∀ j u, (plcells p)[j]? = some u → W.cell? ⟨g, k * 10 + j, none⟩ = some u := by
  rcases h.2 with ⟨rfl, hn⟩ | ⟨g, cap, cur, rfl, hg, hh, hnc, hcm, hcs, ht⟩
  · have := (List.getElem?_eq_some_iff.1 hk).1; omega
  · refine ⟨g, cap, rfl, hg, (Array.getElem?_eq_some_iff.1 hh).1, fun j u hu => ?_⟩
    have hj : j < 10 := by have := (List.getElem?_eq_some_iff.1 hu).1; simpa [plcells] using this
    have c1 := h.cells (g := g) rfl _ _ ((plflat_at hk j hj).trans hu)
    rwa [addr0_add, Nat.zero_add] at c1
theorem cells_list (W W' : World) (hW : W'.heap = W.heap) (t : TypeId) (xs : Array Value) : ∀ j v, xs.toList[j]? = some v → (W'.alloc (.cells xs t)).cell? ((⟨W.heap.size, 0, none⟩ : Addr).add j) = some v := by
  intro j v hv
  rw [addr0_add, Nat.zero_add, ← hW]
  exact (Blk.new W' t xs).cell j (by rw [← Array.getElem?_toList]; exact hv)
theorem own_plc {W : World} {B : Nat} {v : Value} {L : List PlW} {p : PlW} (h : W.ownsRow B 144 10 v (L.length + 1) (plflat L ++ plcells p)) : OwnW W B v (L ++ [p]) := by
  show W.ownsRow B 144 10 v (L ++ [p]).length (plflat (L ++ [p]))
  rw [List.length_append, plflat_append]
  have e : plflat [p] = plcells p := by simp [plflat]
  rw [e]; exact h
theorem ownW_one (W : World) (p : PlW) (B : Nat) (hB : B ≤ W.heap.size) : OwnW (W.alloc (.cells (plcells p).toArray 144)) B (.slice (some ⟨W.heap.size, 0, none⟩) 1 1) [p] := by
  have : World.ownsRow (W.alloc (.cells (plcells p).toArray 144)) B 144 10 (.slice (some ⟨W.heap.size, 0, none⟩) 1 1) 1 (plcells p) := World.ownsRow_lit W (plcells p).toArray 1 hB (by decide) rfl
  have e : plflat [p] = plcells p := by simp [plflat]
  show World.ownsRow _ B 144 10 _ 1 (plflat [p])
  rw [e]; exact this

/-- What least knows: its row of places, made from block B on, and its map. -/
structure LWI (B : Nat) (W : World) (br : Nat) (vs : Value) (L : List PlW) : Prop where
  ss : OwnW W B vs L
  mp : W.heap[br]? = some (.map (entsW L) L.length)
  lr : B ≤ br
section
variable {B : Nat} {W : World} {br : Nat} {vs : Value} {L : List PlW}
theorem LWI.below {W' : World} (h : LWI B W br vs L) (hb : Below W.heap.size W W') : LWI B W' br vs L :=
  ⟨own_same h.ss (fun k hk => hb.block k (World.ownsRow.lt h.ss k hk).2), (hb.block br (Array.getElem?_eq_some_iff.1 h.mp).1).trans h.mp, h.lr⟩
theorem LWI.apart (h : LWI B W br vs L) : vs.ownBlock ≠ some br := by
  have hm := h.mp
  exact fun e => (by obtain ⟨cs, hc⟩ := own_type h.ss e; rw [hm] at hc; cases hc)
theorem LWI.push {w0 : World} {W2 W3 : World} {vs' : Value} {p : PlW} (h : LWI B W br vs L) (h0 : Below B w0 W) (hW3 : Below (setMap W br (.map (entsW (L ++ [p])) (L.length + 1))).heap.size (setMap W br (.map (entsW (L ++ [p])) (L.length + 1))) W3) (o1 : OwnW W2 B vs' (L ++ [p])) (g : W3.grownBy W2 vs.ownBlock) (hBW : B ≤ W.heap.size) :
    LWI B W2 br vs' (L ++ [p]) ∧ Below B w0 W2 := by
  have a1 := h.apart
  have hbr := (Array.getElem?_eq_some_iff.1 h.mp).1
  have hz : W.heap.size ≤ W3.heap.size := by have := hW3.size; rwa [size_setMap] at this
  have k3 : ∀ j, j < W.heap.size → W3.heap[j]? = (setMap W br (.map (entsW (L ++ [p])) (L.length + 1))).heap[j]? := fun j hj => hW3.block j (by rw [size_setMap]; exact hj)
  have k2 : ∀ j, j < W.heap.size → vs.ownBlock ≠ some j → W2.heap[j]? = (setMap W br (.map (entsW (L ++ [p])) (L.length + 1))).heap[j]? := fun j hj hne => (g.block j (Nat.lt_of_lt_of_le hj hz) (fun e => hne e.symm)).trans (k3 j hj)
  refine ⟨⟨o1, ?_, h.lr⟩, ?_⟩
  · rw [k2 br hbr a1, heap_setMap _ _ hbr, List.length_append]; rfl
  · have b1 : Below B w0 (setMap W br (.map (entsW (L ++ [p])) (L.length + 1))) :=
      h0.trans ⟨rfl, rfl, rfl, by rw [size_setMap]; exact Nat.le_refl _, fun j hj => heap_setMap_ne _ _ _ (by have := h.lr; omega)⟩
    exact (b1.trans (hW3.mono (by rw [size_setMap]; exact hBW))).grown g (Nat.le_trans hBW hz) (fun j hj => (World.ownsRow.lt h.ss j hj).1)
end

end Go.Proofs.YtbdkaobbfmgnhaaDoor
namespace Go.Proofs.YtbdkaobbfmgnhaaDoor
open Go.RowKit
set_option linter.unusedVariables false

/-- A pair's block. -/
abbrev PBk (W : World) (b : Nat) (P : SP) : Prop := Blk W b 104 (spcells P)
theorem PBk.cells {W : World} {b : Nat} {P : SP} (h : PBk W b P) : W.cell? ⟨b, 0, none⟩ = some (.int .u64 (P.a 0)) ∧ W.cell? ⟨b, 1, none⟩ = some (.int .u64 (P.a 1)) ∧ W.cell? ⟨b, 2, none⟩ = some (.int .u64 (P.a 2)) ∧ W.cell? ⟨b, 3, none⟩ = some (.int .u64 (P.a 3)) ∧ W.cell? ⟨b, 4, none⟩ = some (.int .u64 (P.b 0)) ∧ W.cell? ⟨b, 5, none⟩ = some (.int .u64 (P.b 1)) ∧ W.cell? ⟨b, 6, none⟩ = some (.int .u64 (P.b 2)) ∧ W.cell? ⟨b, 7, none⟩ = some (.int .u64 (P.b 3)) :=
  ⟨h.cell 0 rfl, h.cell 1 rfl, h.cell 2 rfl, h.cell 3 rfl, h.cell 4 rfl, h.cell 5 rfl, h.cell 6 rfl, h.cell 7 rfl⟩

/-- Is a the set of a pair at an end of the one, and b the other one's at none? -/
def outSP (P : SP) (EA EB : Nat → Nat) : Bool := meetB P.a EA && !meetB P.b EB

set_option maxRecDepth 100000 in
set_option maxHeartbeats 4000000 in
theorem apart1_any (P : SP) (EA EB : Nat → Nat) (pA pB : Nat) (w : World) (hA : Hid (SB w pA EA)) (hB : Hid (SB w pB EB)) (o1 : okS P.a) (o2 : okS P.b) (o3 : okS EA) (o4 : okS EB) :
    Calls Tryd.prog 116 #[spval P, .pointer (some ⟨pA, 0, none⟩), .pointer (some ⟨pB, 0, none⟩)] w fun e w' => e = .returned (.bool (outSP P EA EB)) ∧ Below w.heap.size w w' := by
  have B0 : Hid (Below w.heap.size w (w.alloc (.cells (spcells P) 104))) := (Below.refl _ _).alloc (Nat.le_refl _) _
  have K0 : Hid (PBk (w.alloc (.cells (spcells P) 104)) w.heap.size P) := Blk.new w _ _
  have A0 := Hid.of (Blk.alloc hA.out (.cells (spcells P) 104))
  have E0 := Hid.of (Blk.alloc hB.out (.cells (spcells P) 104))
  obtain ⟨x0, x1, x2, x3, x4, x5, x6, x7⟩ := PBk.cells K0.out
  obtain ⟨y0, y1, y2, y3⟩ := SB.cells A0.out
  go_enter Tryd.func116, Tryd.ntmps116
  go_wp2_with fail
  clear x0 x1 x2 x3 x4 x5 x6 x7 y0 y1 y2 y3
  revert B0 K0 A0 E0
  generalize w.alloc (.cells (spcells P) 104) = V0
  intro B0 K0 A0 E0
  refine (meets_any P.a EA _ o1 o3).mono ?_
  rintro e V ⟨rfl, hb1⟩
  have B1 := Hid.of (B0.out.trans (hb1.mono B0.out.size))
  have K1 := Hid.of (K0.out.below hb1 K0.out.lt)
  have E1 := Hid.of (E0.out.below hb1 E0.out.lt)
  clear hb1 B0 K0 E0 A0
  cases hm : meetB P.a EA with
  | false =>
    have HO : Hid (outSP P EA EB = false) := by show _ = _; unfold outSP; rw [hm]; rfl
    go_wp2_with fail
    exact bodyPost_ret (v := .bool false) (by simp [results, go_sem]) rfl ⟨by rw [HO.out], B1.out⟩
  | true =>
    obtain ⟨x0, x1, x2, x3, x4, x5, x6, x7⟩ := PBk.cells K1.out
    obtain ⟨y0, y1, y2, y3⟩ := SB.cells E1.out
    go_wp2_with fail
    refine (meets_any P.b EB _ o2 o4).mono ?_
    rintro e V2 ⟨rfl, hb1⟩
    have B2 := Hid.of (B1.out.trans (hb1.mono B1.out.size))
    have HO : Hid (outSP P EA EB = !meetB P.b EB) := by show _ = _; unfold outSP; rw [hm]; rfl
    clear hb1 hm
    go_wp2_with fail
    exact bodyPost_ret (v := .bool (!meetB P.b EB)) (by simp [results, go_sem]) rfl ⟨by rw [HO.out], B2.out⟩

/-- The closure that tells where a pair leads to, and what it knows. -/
abbrev wleadV (pA pB : Nat) : Value := .func (.func 115) #[] #[.pointer (some ⟨pA, 0, none⟩), .pointer (some ⟨pB, 0, none⟩)]
def leadSP (P : SP) (TA TC : Nat → Nat → Nat) (ev e : Nat) : SP := ⟨leadF TA ev e (allS P.a), leadF TC ev e (allS P.b)⟩
abbrev spzero : Array Value := #[.int .u64 0, .int .u64 0, .int .u64 0, .int .u64 0, .int .u64 0, .int .u64 0, .int .u64 0, .int .u64 0]
theorem PBk.set8 {W : World} {b : Nat} (h : Blk W b 104 spzero) (P : SP) : PBk ((((((((W.setCell ⟨b, 0, none⟩ (.int .u64 (P.a 0))).setCell ⟨b, 1, none⟩ (.int .u64 (P.a 1))).setCell ⟨b, 2, none⟩ (.int .u64 (P.a 2))).setCell ⟨b, 3, none⟩ (.int .u64 (P.a 3))).setCell ⟨b, 4, none⟩ (.int .u64 (P.b 0))).setCell ⟨b, 5, none⟩ (.int .u64 (P.b 1))).setCell ⟨b, 6, none⟩ (.int .u64 (P.b 2))).setCell ⟨b, 7, none⟩ (.int .u64 (P.b 3))) b P := by
  have := (((((((h.set 0 (.int .u64 (P.a 0))).set 1 (.int .u64 (P.a 1))).set 2 (.int .u64 (P.a 2))).set 3 (.int .u64 (P.a 3))).set 4 (.int .u64 (P.b 0))).set 5 (.int .u64 (P.b 1))).set 6 (.int .u64 (P.b 2))).set 7 (.int .u64 (P.b 3))
  simp only [spzero, List.setIfInBounds_toArray, List.set_cons_succ, List.set_cons_zero] at this
  exact this
theorem below_set8 {W V : World} {B b' : Nat} (h : Below B V W) (hb : B ≤ b') (v0 v1 v2 v3 v4 v5 v6 v7 : Value) : Below B V ((((((((W.setCell ⟨b', 0, none⟩ v0).setCell ⟨b', 1, none⟩ v1).setCell ⟨b', 2, none⟩ v2).setCell ⟨b', 3, none⟩ v3).setCell ⟨b', 4, none⟩ v4).setCell ⟨b', 5, none⟩ v5).setCell ⟨b', 6, none⟩ v6).setCell ⟨b', 7, none⟩ v7) := by
  have := below_set4' (below_set4' h 0 hb v0 v1 v2 v3) 4 hb v4 v5 v6 v7
  exact this

set_option maxRecDepth 100000 in
set_option maxHeartbeats 8000000 in
theorem leadW1_any (P : SP) (e : Nat) (pA pB : Nat) (LA LC : LB) (ev sa sb : Nat) (TA TC : Nat → Nat → Nat) (hTA : Hid (∀ p, okS (TA p))) (hTC : Hid (∀ p, okS (TC p))) (o1 : Hid (okS P.a)) (o2 : Hid (okS P.b)) (ha : Hid (∀ k ∈ allS P.a, k < sa)) (hb : Hid (∀ k ∈ allS P.b, k < sb)) (he : e < ev) (hev8 : ev ≤ 8) (hsa : sa ≤ 256) (hsb : sb ≤ 256) (w : World) (hT : Hid (Tab w)) (hW : Hid (WL w pA pB LA LC ev sa sb TA TC)) :
    Calls Tryd.prog 115 #[spval P, .int .i64 e, .pointer (some ⟨pA, 0, none⟩), .pointer (some ⟨pB, 0, none⟩)] w fun e' w' => e' = .returned (spval (leadSP P TA TC ev e)) ∧ Below w.heap.size w w' := by
  have B0 : Hid (Below w.heap.size w ((w.alloc (.cells (spcells P) 104)).alloc (.cells spzero 104))) := ((Below.refl _ _).alloc (Nat.le_refl _) _).alloc (by simp) _
  have K0 : Hid (PBk ((w.alloc (.cells (spcells P) 104)).alloc (.cells spzero 104)) w.heap.size P) := (Blk.new w _ _).alloc _
  have R0 : Hid (Blk ((w.alloc (.cells (spcells P) 104)).alloc (.cells spzero 104)) (w.heap.size + 1) 104 spzero) := by
    have := Blk.new (w.alloc (.cells (spcells P) 104)) 104 spzero
    rwa [World.size_alloc] at this
  go_enter Tryd.func115, Tryd.ntmps115
  go_wp2_with fail
  revert B0 K0 R0
  generalize (w.alloc (.cells (spcells P) 104)).alloc (.cells spzero 104) = V0
  intro B0 K0 R0
  have cellsAt : Hid (∀ W, Below w.heap.size w W → PBk W w.heap.size P → W.cell? ⟨w.heap.size, 0, none⟩ = some (.int .u64 (P.a 0)) ∧ W.cell? ⟨w.heap.size, 1, none⟩ = some (.int .u64 (P.a 1)) ∧ W.cell? ⟨w.heap.size, 2, none⟩ = some (.int .u64 (P.a 2)) ∧ W.cell? ⟨w.heap.size, 3, none⟩ = some (.int .u64 (P.a 3)) ∧ W.cell? ⟨w.heap.size, 4, none⟩ = some (.int .u64 (P.b 0)) ∧ W.cell? ⟨w.heap.size, 5, none⟩ = some (.int .u64 (P.b 1)) ∧ W.cell? ⟨w.heap.size, 6, none⟩ = some (.int .u64 (P.b 2)) ∧ W.cell? ⟨w.heap.size, 7, none⟩ = some (.int .u64 (P.b 3)) ∧ W.cell? ⟨pA, 0, none⟩ = some (leadV LA) ∧ W.cell? ⟨pB, 0, none⟩ = some (leadV LC)) := fun W hb hp => by
    obtain ⟨x0, x1, x2, x3, x4, x5, x6, x7⟩ := PBk.cells hp
    exact ⟨x0, x1, x2, x3, x4, x5, x6, x7, (hW.out.ca.below hb hW.out.ca.lt).cell 0 rfl, (hW.out.cb.below hb hW.out.cb.lt).cell 0 rfl⟩
  refine wp_region_held_drew (S := fun w' => w'.cell? ⟨w.heap.size, 0, none⟩ = some (.int .u64 (P.a 0)) ∧ w'.cell? ⟨w.heap.size, 1, none⟩ = some (.int .u64 (P.a 1)) ∧ w'.cell? ⟨w.heap.size, 2, none⟩ = some (.int .u64 (P.a 2)) ∧ w'.cell? ⟨w.heap.size, 3, none⟩ = some (.int .u64 (P.a 3)) ∧ w'.cell? ⟨w.heap.size, 4, none⟩ = some (.int .u64 (P.b 0)) ∧ w'.cell? ⟨w.heap.size, 5, none⟩ = some (.int .u64 (P.b 1)) ∧ w'.cell? ⟨w.heap.size, 6, none⟩ = some (.int .u64 (P.b 2)) ∧ w'.cell? ⟨w.heap.size, 7, none⟩ = some (.int .u64 (P.b 3)) ∧ w'.cell? ⟨pA, 0, none⟩ = some (leadV LA) ∧ w'.cell? ⟨pB, 0, none⟩ = some (leadV LC)) (by kernel_rfl) (cellsAt.out _ B0.out.drew (Blk.drew K0.out)) (fun hS0 => ?_)
  have B1 : Hid (Below w.heap.size w V0.drew) := B0.out.drew
  have K1 : Hid (PBk V0.drew w.heap.size P) := Blk.drew K0.out
  have R1 : Hid (Blk V0.drew (w.heap.size + 1) 104 spzero) := Blk.drew R0.out
  clear B0 K0 R0
  revert B1 K1 R1 hS0
  generalize V0.drew = Y0
  intro hS0 B1 K1 R1
  refine wpAnyH_take (i := 0) (v := leadV LA) rfl (by kernel_rfl) (by kernel_rfl) (by kernel_rfl) (fun _ _ _ h => h) (Or.inl ⟨by kernel_rfl, fun w' hw' => by obtain ⟨q0, q1, q2, q3, q4, q5, q6, q7, q8, q9⟩ := hw'; go_simp⟩) hS0 ?_
  refine wpAnyH_take (i := 1) (v := .pointer (some ⟨w.heap.size, 0, none⟩)) rfl (by kernel_rfl) (by kernel_rfl) (by kernel_rfl) (fun _ _ _ h => h) (Or.inl ⟨by kernel_rfl, fun w' hw' => by obtain ⟨q0, q1, q2, q3, q4, q5, q6, q7, q8, q9⟩ := hw'; go_simp⟩) hS0 ?_
  refine wpAnyH_take (i := 2) (v := sval P.a) rfl (by kernel_rfl) (by kernel_rfl) (by kernel_rfl) (fun _ _ _ h => h) (Or.inl ⟨by kernel_rfl, fun w' hw' => by obtain ⟨q0, q1, q2, q3, q4, q5, q6, q7, q8, q9⟩ := hw'; go_simp⟩) hS0 ?_
  refine wpAnyH_take (i := 3) (v := .int .i64 e) rfl (by kernel_rfl) (by kernel_rfl) (by kernel_rfl) (fun _ _ _ h => h) (Or.inl ⟨by kernel_rfl, fun w' hw' => by obtain ⟨q0, q1, q2, q3, q4, q5, q6, q7, q8, q9⟩ := hw'; go_simp⟩) hS0 ?_
  refine wpAnyH_take (i := 5) (v := leadV LC) rfl (by kernel_rfl) (by kernel_rfl) (by kernel_rfl) (fun _ _ _ h => h) (Or.inl ⟨by kernel_rfl, fun w' hw' => by obtain ⟨q0, q1, q2, q3, q4, q5, q6, q7, q8, q9⟩ := hw'; go_simp⟩) hS0 ?_
  refine wpAnyH_take (i := 6) (v := .pointer (some ⟨w.heap.size, 4, none⟩)) rfl (by kernel_rfl) (by kernel_rfl) (by kernel_rfl) (fun _ _ _ h => h) (Or.inl ⟨by kernel_rfl, fun w' hw' => by obtain ⟨q0, q1, q2, q3, q4, q5, q6, q7, q8, q9⟩ := hw'; go_simp⟩) hS0 ?_
  refine wpAnyH_take (i := 7) (v := sval P.b) rfl (by kernel_rfl) (by kernel_rfl) (by kernel_rfl) (fun _ _ _ h => h) (Or.inl ⟨by kernel_rfl, fun w' hw' => by obtain ⟨q0, q1, q2, q3, q4, q5, q6, q7, q8, q9⟩ := hw'; go_simp⟩) hS0 ?_
  refine wpAnyH_take (i := 8) (v := .int .i64 e) rfl (by kernel_rfl) (by kernel_rfl) (by kernel_rfl) (fun _ _ _ h => h) (Or.inl ⟨by kernel_rfl, fun w' hw' => by obtain ⟨q0, q1, q2, q3, q4, q5, q6, q7, q8, q9⟩ := hw'; go_simp⟩) hS0 ?_
  simp only [Act.put, List.setIfInBounds_toArray]
  refine wpAnyH_ready (rs := [4]) (by kernel_rfl) (by simp) ?_
  refine AllReadyH.cons rfl (fun K' hK' => ?_) AllReadyH.nil
  go_simp
  refine (lead1_any sa ev e LA TA hTA.out P.a o1.out ha.out he hev8 hsa _ (hT.out.below B1.out hT.out.lt) (hW.out.la.below B1.out hW.out.la.lt)).mono ?_
  rintro e1 Y1 ⟨rfl, hb1⟩
  have B2 := Hid.of (B1.out.trans (hb1.mono B1.out.size))
  have K2 := Hid.of (K1.out.below hb1 K1.out.lt)
  have R2 := Hid.of (R1.out.below hb1 R1.out.lt)
  refine hK'.out _ _ (cellsAt.out _ B2.out K2.out) (fun hS1 => ?_)
  clear hK' K' hb1 B1 K1 R1 hS0
  refine wpAnyH_ready (rs := [9]) (by kernel_rfl) (by simp) ?_
  refine AllReadyH.cons rfl (fun K' hK' => ?_) AllReadyH.nil
  go_simp
  refine (lead1_any sb ev e LC TC hTC.out P.b o2.out hb.out he hev8 hsb _ (hT.out.below B2.out hT.out.lt) (hW.out.lb.below B2.out hW.out.lb.lt)).mono ?_
  rintro e1 Y2 ⟨rfl, hb1⟩
  have B3 := Hid.of (B2.out.trans (hb1.mono B2.out.size))
  have K3 := Hid.of (K2.out.below hb1 K2.out.lt)
  have R3 := Hid.of (R2.out.below hb1 R2.out.lt)
  refine hK'.out _ _ (cellsAt.out _ B3.out K3.out) (fun hS2 => ?_)
  clear hK' K' hb1 B2 K2 R2 hS1
  obtain ⟨QA, HQA⟩ : ∃ Q, Hid (Q = leadF TA ev e (allS P.a)) := ⟨_, rfl⟩
  obtain ⟨QB, HQB⟩ : ∃ Q, Hid (Q = leadF TC ev e (allS P.b)) := ⟨_, rfl⟩
  rw [← HQA.out, ← HQB.out]
  have HR : Hid (leadSP P TA TC ev e = ⟨QA, QB⟩) := by show _ = _; unfold leadSP; rw [HQA.out, HQB.out]
  refine wpAnyH_take (i := 10) (v := spval ⟨QA, QB⟩) rfl (by kernel_rfl) (by kernel_rfl) (by kernel_rfl) (fun _ _ _ h => h) (Or.inl ⟨by kernel_rfl, fun w' hw' => by obtain ⟨q0, q1, q2, q3, q4, q5, q6, q7, q8, q9⟩ := hw'; go_simp⟩) hS2 ?_
  refine wpAnyH_ready (rs := [11]) (by kernel_rfl) (by simp) ?_
  refine AllReadyH.cons rfl (fun K' hK' => ?_) AllReadyH.nil
  have rz := R3.out.frozen
  have r0 := R3.out.cell 0 rfl
  have r1 := R3.out.cell 1 rfl
  have r2 := R3.out.cell 2 rfl
  have r3 := R3.out.cell 3 rfl
  have r4 := R3.out.cell 4 rfl
  have r5 := R3.out.cell 5 rfl
  have r6 := R3.out.cell 6 rfl
  have r7 := R3.out.cell 7 rfl
  have RR := Hid.of (PBk.set8 R3.out ⟨QA, QB⟩)
  have BB := Hid.of (below_set8 B3.out (b' := w.heap.size + 1) (by omega) (.int .u64 (QA 0)) (.int .u64 (QA 1)) (.int .u64 (QA 2)) (.int .u64 (QA 3)) (.int .u64 (QB 0)) (.int .u64 (QB 1)) (.int .u64 (QB 2)) (.int .u64 (QB 3)))
  have KK : Hid (PBk _ w.heap.size P) := Blk.other4' (Blk.other4' K3.out 0 (Nat.ne_of_lt (Nat.lt_succ_self _)) (.int .u64 (QA 0)) (.int .u64 (QA 1)) (.int .u64 (QA 2)) (.int .u64 (QA 3))) 4 (Nat.ne_of_lt (Nat.lt_succ_self _)) (.int .u64 (QB 0)) (.int .u64 (QB 1)) (.int .u64 (QB 2)) (.int .u64 (QB 3))
  go_simp
  refine hK'.out _ _ (cellsAt.out _ BB.out KK.out) (fun hS3 => ?_)
  clear hK' K' r0 r1 r2 r3 r4 r5 r6 r7 rz hS2 hS3
  refine wpAnyH_done (by kernel_rfl) ?_ _
  obtain ⟨r0, r1, r2, r3, r4, r5, r6, r7⟩ := PBk.cells RR.out
  go_wp2
  refine bodyPost_ret (v := spval ⟨QA, QB⟩) ?_ rfl ⟨by rw [HR.out], BB.out⟩
  simp [results, go_sem, r0, r1, r2, r3, r4, r5, r6, r7]

end Go.Proofs.YtbdkaobbfmgnhaaDoor
