/-
  The walk of diagnose.Delay.
  Twins in memory; the walk of jalousieref13.find.
  What the walk of jalousieref13.leads knows of the memory.
  What the walk of jalousieref13.Twins knows of the memory.
-/
import Derived.Test.YtmlkpdeidpcidaaDoorCDNew
import Derived.Test.YtmlkpdeidpcidaaDoorG66
import Derived.Test.YtmlkpdeidpcidaaDoorG61
import Derived.Test.YtmlkpdeidpcidaaDoorG07
import Derived.Test.YtmlkpdeidpcidaaDoorG05
import Derived.Test.YtmlkpdeidpcidaaDoorCTrimBase
import Derived.Test.YtmlkpdeidpcidaaDoorG09
import Derived.Deep.QuietTactic
import Derived.Deep.RegionWith
import Derived.BigQuiet
import Derived.Test.YtmlkpdeidpcidaaDoorG20
import Derived.Test.YtmlkpdeidpcidaaDoorG04
import Derived.Test.YtmlkpdeidpcidaaDoorG03
import Derived.Test.YtmlkpdeidpcidaaDoorCResM
namespace Go.Proofs.YtmlkpdeidpcidaaDoor
open Go.RowKit
set_option linter.unusedVariables false

set_option maxRecDepth 100000 in
set_option maxHeartbeats 8000000 in
theorem pDel_any (m : Mach) (l : ML) (sa : Option Addr) (sc : Nat) (seen : List Int) (fa : Option Addr) (fc : Nat) (faults : List Int) (w : World) (h0 : MAt w m l) (hs0 : At w sa seen) (hsl0 : seen.length ≤ maxLen) (hf0 : At w fa faults) (hfl0 : faults.length ≤ maxLen) (hT0 : Tab w) :
    Calls Tryd.prog 47 #[mval m l, .slice sa seen.length sc, .slice fa faults.length fc] w fun e w' => DelPost w (delOut m seen faults) e w' := by
  have h := Hid.of h0
  have hs := Hid.of hs0
  have hsl := Hid.of hsl0
  have hf := Hid.of hf0
  have hfl := Hid.of hfl0
  have hT := Hid.of hT0
  clear h0 hs0 hsl0 hf0 hfl0 hT0
  have B0 : Hid (Below w.heap.size w (w.alloc (.cells (mcells m l) 25))) := (Below.refl _ _).alloc (Nat.le_refl _) _
  have K0 : Hid (Blk (w.alloc (.cells (mcells m l) 25)) w.heap.size 25 (mcells m l)) := Blk.new w _ _
  go_enter Tryd.func47, Tryd.ntmps47
  go_wp2_with fail
  revert B0 K0
  generalize w.alloc (.cells (mcells m l) 25) = V0
  intro B0 K0
  refine (pMay_any m l _ (h.out.below B0.out (Nat.le_refl _))).mono ?_
  rintro e V ⟨rfl, hb1⟩
  have B := Hid.of (B0.out.trans (hb1.mono B0.out.size))
  have K := Hid.of (K0.out.below hb1 K0.out.lt)
  clear hb1 B0 K0
  cases hm : mayB m with
  | false =>
    have HO : Hid (delOut m seen faults = (0, 2)) := delOut_m hm seen faults
    clear hm
    go_wp2_with fail
    exact bodyPost_ret (v := .tuple #[.int .i64 0, .int .i64 2]) (by simp [results, go_sem]) rfl ⟨by rw [HO.out], B.out⟩
  | true =>
    have HMM := Hid.of hm
    clear hm
    obtain ⟨x0, x1, x2, x3, x4⟩ := mcell_at K.out
    go_wp2_with fail
    refine (rowIs_any sa sc seen m.ev V (hs.out.below B.out (Nat.le_refl _)) hsl.out).mono ?_
    rintro e V3 ⟨rfl, rfl⟩
    cases hr : rowB m.ev seen with
    | false =>
      have HO : Hid (delOut m seen faults = (0, 2)) := delOut_s hr faults
      clear hr
      go_wp2_with fail
      exact bodyPost_ret (v := .tuple #[.int .i64 0, .int .i64 2]) (by simp [results, go_sem]) rfl ⟨by rw [HO.out], B.out⟩
    | true =>
      have HRS := Hid.of hr
      clear hr
      go_wp2_with fail
      refine (rowIs_any fa fc faults m.ev V3 (hf.out.below B.out (Nat.le_refl _)) hfl.out).mono ?_
      rintro e V4 ⟨rfl, rfl⟩
      cases hr : rowB m.ev faults with
      | false =>
        have HO : Hid (delOut m seen faults = (0, 2)) := delOut_f hr seen
        clear hr
        go_wp2_with fail
        exact bodyPost_ret (v := .tuple #[.int .i64 0, .int .i64 2]) (by simp [results, go_sem]) rfl ⟨by rw [HO.out], B.out⟩
      | true =>
        have HRF := Hid.of hr
        clear hr
        by_cases hz : m.st ≤ 6
        · have d6 : decide ((6 : Int) < m.st) = false := by simp; omega
          have HZ := Hid.of hz
          have HO : Hid (delOut m seen faults = (delD m seen faults, 0)) := delOut_ok HMM.out HRS.out HRF.out hz
          clear hz
          go_wp2_with fail
          refine (newW_any m l sa sc seen fa fc faults V4 (h.out.below B.out (Nat.le_refl _)) HMM.out HZ.out (hs.out.below B.out (Nat.le_refl _)) hsl.out (hf.out.below B.out (Nat.le_refl _)) hfl.out).mono ?_
          rintro e W2 ⟨p, r, rfl, hD, hb⟩
          have D := Hid.of hD
          have B2 := Hid.of (B.out.trans (hb.mono B.out.size))
          have hB0 : 0 < V4.heap.size := Nat.lt_of_lt_of_le hT.out.lt B.out.size
          clear hD hb x0 x1 x2 x3 x4
          go_wp2_with fail
          have hsz := mayB_size HMM.out
          unfold sizeOk at hsz
          have hzz := HZ.out
          refine (longest_any m l seen faults HMM HZ m.st.toNat m.ev.toNat (Hid.of (by omega)) (Hid.of (by omega)) (by omega) (by omega) (pF seen m.ev.toNat) (pF faults m.ev.toNat) (fun e he => by unfold pF; rw [if_pos he]) (fun e he => by unfold pF; rw [if_pos he]) V4.heap.size p r hB0 W2 (hT.out.below B2.out hT.out.lt) (h.out.below B2.out (Nat.le_refl _)).s (Nat.le_trans h.out.s1 h.out.s2) D).mono ?_
          rintro e W3 ⟨d, bd, rfl, hL, hb⟩
          have B3 := Hid.of (B2.out.trans (hb.mono B.out.size))
          clear hb hsz hzz D
          rcases hL with ⟨rfl, hd1, hd2, hd⟩ | ⟨rfl, hd⟩
          · have HD : Hid (delD m seen faults = d + 1) := dl_one (del_is HMM.out HZ.out seen faults) hd
            have hw : IntKind.i64.wrap (d + 1) = d + 1 := by rw [IntKind.wrap_i64]; omega
            clear hd
            go_wp2_with fail
            exact bodyPost_ret (v := .tuple #[.int .i64 (d + 1), .int .i64 0]) (by simp [results, go_sem]) rfl ⟨by rw [HO.out, HD.out], B3.out⟩
          · have HD : Hid (delD m seen faults = -1) := dl_one (del_is HMM.out HZ.out seen faults) hd
            clear hd
            go_wp2_with fail
            exact bodyPost_ret (v := .tuple #[.int .i64 (-1), .int .i64 0]) (by simp [results, go_sem]) rfl ⟨by rw [HO.out, HD.out], B3.out⟩
        · have d6 : decide ((6 : Int) < m.st) = true := by simp; omega
          have HO : Hid (delOut m seen faults = (0, 1)) := delOut_z HMM.out HRS.out HRF.out hz
          clear hz
          go_wp2_with fail
          exact bodyPost_ret (v := .tuple #[.int .i64 0, .int .i64 1]) (by simp [results, go_sem]) rfl ⟨by rw [HO.out], B.out⟩

end Go.Proofs.YtmlkpdeidpcidaaDoor
namespace Go.Proofs.YtmlkpdeidpcidaaDoor
open Go.RowKit
set_option linter.unusedVariables false

def tA (x : Tw) : Arr := ⟨x.1, x.2.1, x.2.2⟩
abbrev AtT (w : World) (a : Option Addr) (L : List Tw) : Prop := AtA w a (L.map tA)
theorem tA_inj {x y : Tw} : arrEq (tA x) (tA y) ↔ x = y := by
  obtain ⟨a, b, c⟩ := x
  obtain ⟨d, e, f⟩ := y
  unfold arrEq tA
  constructor
  · rintro ⟨h1, h2, h3⟩
    dsimp only at h1 h2 h3
    rw [h1, h2, h3]
  · intro h; cases h; exact ⟨rfl, rfl, rfl⟩

set_option maxRecDepth 100000
theorem Tryd.fieldsTwin : Tryd.prog.underlying 160 = some (.struct (Tryd.prog.fieldsOf 160)) := by unfold Program.fieldsOf; rw [Tryd.underlying160]
theorem Tryd.stoodTwin : Tryd.prog.stoodInHeld 160 = false := by kernel_rfl
theorem Tryd.guardTwin : Tryd.prog.eqGuardType Tryd.prog.depth 160 = false := by kernel_rfl
theorem run_equalIn_twin (a b : Arr) (w : World) : (Op.equalIn 10000 160 (aval a) (aval b)).run Tryd.prog w = .ok (arrEqB a b) w := by
  rw [run_equalIn_agg w 9999 160 _ _ Tryd.fieldsTwin Tryd.stoodTwin]
  have hf : (Tryd.prog.fieldsOf 160).toList = [{ name := "A", type := 3, offset := 0, embedded := false, tag := "", pkgPath := "", byteOffset := 0 }, { name := "B", type := 3, offset := 1, embedded := false, tag := "", pkgPath := "", byteOffset := 8 }, { name := "Faulty", type := 3, offset := 2, embedded := false, tag := "", pkgPath := "", byteOffset := 16 }] := by unfold Program.fieldsOf; rw [Tryd.underlying160]
  rw [hf]
  obtain ⟨a1, a2, a3⟩ := a
  obtain ⟨b1, b2, b3⟩ := b
  by_cases h1 : a1 = b1 <;> by_cases h2 : a2 = b2 <;> by_cases h3 : a3 = b3 <;> simp [Op.eqFields, go_sem, arrEqB, arrEq, h1, h2, h3]
theorem run_guard_twin (op : BinOp) (x y : Operand) (xs ys : Array Value) (w : World) : (eqGuard op 160 x y (.agg xs) (.agg ys)).run Tryd.prog w = .ok () w := run_eqGuard_agg w op 160 x y xs ys Tryd.guardTwin

/-- None of the first k is. -/
def noneT {σ : Type} (l : List σ) (k : Nat) (x : σ) : Prop := ∀ (j : Nat) (y : σ), j < k → l[j]? = some y → y ≠ x
theorem noneT_succ {l : List Tw} {k : Nat} {y x : Tw} (h0 : Hid (noneT l k x)) (h : Hid (l[k]? = some y)) (h1 : Hid (y ≠ x)) : Hid (noneT l (k + 1) x) := fun j q hj hq => by
  by_cases e : j < k
  · exact h0.out j q e hq
  · have : j = k := by omega
    subst this
    rw [h.out] at hq
    have := Option.some.inj hq
    subst this
    exact h1.out
theorem idx13_cons {σ : Type} [DecidableEq σ] (y x : σ) (r : List σ) : idxG (y :: r) x = if y = x then 0 else idxG r x + 1 := by
  unfold idxG
  rw [List.idxOf_cons]
  by_cases h : y = x
  · rw [if_pos h]; simp [h]
  · rw [if_neg h]
    have : (y == x) = false := by simpa using h
    rw [this]; rfl
theorem idx13_first {σ : Type} [DecidableEq σ] : ∀ {l : List σ} {k : Nat} {x : σ}, noneT l k x → l[k]? = some x → idxG l x = k
  | [], k, x, _, h => by simp at h
  | y :: r, 0, x, _, h => by
    have : y = x := by simpa using h
    rw [idx13_cons, if_pos this]
  | y :: r, k + 1, x, hn, h => by
    have h1 := hn 0 y (by omega) rfl
    rw [idx13_cons, if_neg h1, idx13_first (l := r) (k := k) (fun j z hj hz => hn (j + 1) z (by omega) (by simpa using hz)) (by simpa using h)]
theorem idx13_none {σ : Type} [DecidableEq σ] : ∀ {l : List σ} {x : σ}, noneT l l.length x → idxG l x = l.length
  | [], x, _ => rfl
  | y :: r, x, hn => by
    have h1 := hn 0 y (by simp) rfl
    rw [idx13_cons, if_neg h1, idx13_none (l := r) (fun j z hj hz => hn (j + 1) z (by simpa using hj) (by simpa using hz))]
    rfl
theorem idx13_hit {l : List Tw} {k : Nat} {y x : Tw} (h0 : Hid (noneT l k x)) (h : Hid (l[k]? = some y)) (e : Hid (y = x)) : (k : Int) = (idxG l x : Nat) := by
  rw [idx13_first h0.out (by rw [h.out, e.out])]
theorem idx13_end {l : List Tw} {k : Nat} {x : Tw} (h0 : Hid (noneT l k x)) (hk : k ≤ l.length) (h : ¬ k < l.length) : (l.length : Int) = (idxG l x : Nat) := by
  have : k = l.length := by omega
  rw [idx13_none (by rw [← this]; exact h0.out)]
theorem ret_i13 {a b : Int} (h : a = b) : Ending.returned (.int .i64 a) = .returned (.int .i64 b) := by rw [h]
/-- A twin of a row. -/
theorem AtT.get {w : World} {a : Option Addr} {L : List Tw} (h : AtT w a L) {k : Nat} {x : Tw} (hk : L[k]? = some x) : ∃ g o, a = some ⟨g, o, none⟩ ∧ g < w.heap.size ∧ w.cell? ⟨g, o + k * 3, none⟩ = some (.int .i64 x.1) ∧ w.cell? ⟨g, o + k * 3 + 1, none⟩ = some (.int .i64 x.2.1) ∧ w.cell? ⟨g, o + k * 3 + 2, none⟩ = some (.int .i64 x.2.2) := by
  have hl := (List.getElem?_eq_some_iff.1 hk).1
  rcases h with e | ⟨g, o, e, hg, hc⟩
  · have e : L.map tA = [] := e
    have := congrArg List.length e
    simp at this
    subst this
    simp at hl
  · obtain ⟨c1, c2, c3⟩ := hc k (by rw [List.length_map]; exact hl)
    have : (L.map tA)[k]?.getD arr0 = tA x := by rw [List.getElem?_map, hk]; rfl
    rw [this] at c1 c2 c3
    exact ⟨g, o, e, hg, c1, c2, c3⟩

set_option maxHeartbeats 4000000 in
theorem rtfind_any (a : Option Addr) (c : Nat) (l : List Tw) (x : Tw) (w : World) (hl : Hid (AtT w a l)) (hll : l.length ≤ 9223372036854775807) :
    Calls Tryd.prog 152 #[.slice a l.length c, .agg #[.int .i64 x.1, .int .i64 x.2.1, .int .i64 x.2.2]] w fun e w' => e = .returned (.int .i64 (idxG l x : Nat)) ∧ Below w.heap.size w w' := by
  obtain ⟨x1, x2, x3⟩ := x
  dsimp only
  have B0 : Hid (Below w.heap.size w (w.alloc (.cells #[.int .i64 x1, .int .i64 x2, .int .i64 x3] 160))) := (Below.refl _ _).alloc (Nat.le_refl _) _
  have K0 : Hid (Blk (w.alloc (.cells #[.int .i64 x1, .int .i64 x2, .int .i64 x3] 160)) w.heap.size 160 #[.int .i64 x1, .int .i64 x2, .int .i64 x3]) := Blk.new w _ _
  go_enter Tryd.func152, Tryd.ntmps152
  go_wp2_with fail
  revert B0 K0
  generalize w.alloc (.cells #[.int .i64 x1, .int .i64 x2, .int .i64 x3] 160) = V
  intro B0 K0
  go_loopw [5] (fun i wr => ∃ k q : Nat, i = .int .i64 k ∧ k ≤ l.length ∧ wr = V.drewN q ∧ Hid (noneT l k (x1, x2, x3))) (fun i _ => l.length - (intOf i).toNat)
  case atStart => exact ⟨0, 0, rfl, Nat.zero_le _, rfl, fun j p hj => by omega⟩
  case round =>
    obtain ⟨k, q, rfl, hk, rfl, he⟩ := hrel
    by_cases hlt : k < l.length
    · obtain ⟨y, HY⟩ : ∃ y, Hid (l[k]? = some y) := ⟨_, List.getElem?_eq_getElem hlt⟩
      obtain ⟨g, o, hga, hg, c1, c2, c3⟩ := hl.out.get HY.out
      obtain ⟨y1, y2, y3⟩ := y
      dsimp only at c1 c2 c3
      subst hga
      obtain ⟨U, HU⟩ : ∃ U, Hid (U = V.drewN q) := ⟨_, rfl⟩
      have d1 : U.cell? ⟨g, o + k * 3, none⟩ = some (.int .i64 y1) := by rw [HU.out]; exact (B0.out.cell (p := ⟨g, o + k * 3, none⟩) hg).trans c1
      have d2 : U.cell? ⟨g, o + k * 3 + 1, none⟩ = some (.int .i64 y2) := by rw [HU.out]; exact (B0.out.cell (p := ⟨g, o + k * 3 + 1, none⟩) hg).trans c2
      have d3 : U.cell? ⟨g, o + k * 3 + 2, none⟩ = some (.int .i64 y3) := by rw [HU.out]; exact (B0.out.cell (p := ⟨g, o + k * 3 + 2, none⟩) hg).trans c3
      have b0 : U.cell? ⟨w.heap.size, 0, none⟩ = some (.int .i64 x1) := by rw [HU.out]; exact K0.out.cell 0 rfl
      have b1 : U.cell? ⟨w.heap.size, 1, none⟩ = some (.int .i64 x2) := by rw [HU.out]; exact K0.out.cell 1 rfl
      have b2 : U.cell? ⟨w.heap.size, 2, none⟩ = some (.int .i64 x3) := by rw [HU.out]; exact K0.out.cell 2 rfl
      rw [← HU.out]
      clear c1 c2 c3 hg
      have heq : ∀ w : World, (Op.equalIn 10000 160 (.agg #[.int .i64 y1, .int .i64 y2, .int .i64 y3]) (.agg #[.int .i64 x1, .int .i64 x2, .int .i64 x3])).run Tryd.prog w = .ok (arrEqB ⟨y1, y2, y3⟩ ⟨x1, x2, x3⟩) w := run_equalIn_twin ⟨y1, y2, y3⟩ ⟨x1, x2, x3⟩
      have hgd := run_guard_twin
      by_cases hq : ((y1, y2, y3) : Tw) = (x1, x2, x3)
      · have HQ : Hid (((y1, y2, y3) : Tw) = (x1, x2, x3)) := hq
        have fq : arrEqB ⟨y1, y2, y3⟩ ⟨x1, x2, x3⟩ = true := decide_eq_true (tA_inj.2 hq)
        rw [fq] at heq
        clear hq fq
        go_wp2_with fail
        go_quiet (fail)
        have HUr : Hid (U.drewN nq = V.drewN (q + nq)) := by show _ = _; rw [HU.out, World.drewN_drewN]
        rw [HUr.out]
        clear d1 d2 d3 b0 b1 b2
        go_wp2_with fail
        go_ret
        exact ⟨ret_i13 (idx13_hit he HY HQ), below_drewN B0.out _⟩
      · have HQ : Hid (((y1, y2, y3) : Tw) ≠ (x1, x2, x3)) := hq
        have fq : arrEqB ⟨y1, y2, y3⟩ ⟨x1, x2, x3⟩ = false := decide_eq_false (fun e => hq (tA_inj.1 e))
        rw [fq] at heq
        clear hq fq
        go_wp2_with fail
        go_quiet (fail)
        have HUr : Hid (U.drewN nq = V.drewN (q + nq)) := by show _ = _; rw [HU.out, World.drewN_drewN]
        rw [HUr.out]
        clear d1 d2 d3 b0 b1 b2
        go_wp2_with fail
        go_roundw
        case rel => exact ⟨k + 1, q + nq, by go_num, by omega, rfl, noneT_succ he HY HQ⟩
        case measure => simp [intOf]; omega
    · go_wp2
      go_ret
      exact ⟨ret_i13 (idx13_end he hk hlt), below_drewN B0.out _⟩
end Go.Proofs.YtmlkpdeidpcidaaDoor
namespace Go.Proofs.YtmlkpdeidpcidaaDoor
open Go.RowKit
set_option linter.unusedVariables false
set_option maxRecDepth 100000

theorem Tryd.infoTwin13 : (Tryd.prog.info? 160).map (fun i => (i.zero, i.size, i.bytes)) = some (some (.agg #[.int .i64 0, .int .i64 0, .int .i64 0]), 3, 24) := by kernel_rfl
theorem Tryd.infoBool13 : (Tryd.prog.info? 4).map (fun i => (i.zero, i.size, i.bytes)) = some (some (.bool false), 1, 1) := by kernel_rfl
abbrev TwB := Tw × Bool
def tflat (P : List TwB) : List Value := aflat (P.map fun y => tA y.1)
def bflat (P : List TwB) : List Value := P.map fun y => .bool y.2
theorem tflat_snoc (P : List TwB) (y : TwB) : tflat (P ++ [y]) = tflat P ++ [.int .i64 y.1.1, .int .i64 y.1.2.1, .int .i64 y.1.2.2] := by
  unfold tflat
  rw [List.map_append, aflat_append]; rfl
theorem bflat_snoc (P : List TwB) (y : TwB) : bflat (P ++ [y]) = bflat P ++ [.bool y.2] := by
  unfold bflat
  rw [List.map_append]; rfl
/-- Rows of twins, and of what counts. -/
def OwnT (W : World) (B : Nat) (v : Value) (P : List TwB) : Prop := W.ownsRow B 160 3 v P.length (tflat P)
def OwnL (W : World) (B : Nat) (v : Value) (P : List TwB) : Prop := W.ownsRow B 4 1 v P.length (bflat P)
theorem ownT_nil (W : World) (B : Nat) : OwnT W B (.slice none 0 0) [] := World.ownsRow_nil _ _ _ _
theorem ownL_nil (W : World) (B : Nat) : OwnL W B (.slice none 0 0) [] := World.ownsRow_nil _ _ _ _
theorem ownT_snoc {W : World} {B : Nat} {v : Value} {P : List TwB} {y : TwB} (h : W.ownsRow B 160 3 v (P.length + 1) (tflat P ++ [.int .i64 y.1.1, .int .i64 y.1.2.1, .int .i64 y.1.2.2])) : OwnT W B v (P ++ [y]) := by
  unfold OwnT
  rw [List.length_append, tflat_snoc]
  exact h
theorem ownL_snoc {W : World} {B : Nat} {v : Value} {P : List TwB} {y : TwB} (h : W.ownsRow B 4 1 v (P.length + 1) (bflat P ++ [.bool y.2])) : OwnL W B v (P ++ [y]) := by
  unfold OwnL
  rw [List.length_append, bflat_snoc]
  exact h
theorem own_low13 {W : World} {B B' s n : Nat} {e : TypeId} {v : Value} {xs : List Value} (h : W.ownsRow B e s v n xs) (hB : B' ≤ B) : W.ownsRow B' e s v n xs := by
  refine ⟨h.1, ?_⟩
  rcases h.2 with hn | ⟨g, cap, cur, rfl, hg, rest⟩
  · exact .inl hn
  · exact .inr ⟨g, cap, cur, rfl, Nat.le_trans hB hg, rest⟩
theorem own_below13 {W W' : World} {B s n : Nat} {e : TypeId} {v : Value} {xs : List Value} (h : W.ownsRow B e s v n xs) (hb : Below W.heap.size W W') : W'.ownsRow B e s v n xs :=
  own_same h (fun k hk => hb.block k (World.ownsRow.lt h k hk).2)
theorem own_cell13 {W : World} {B ab ao n c : Nat} {ns : List Int} (h : Own W B (.slice (some ⟨ab, ao, none⟩) n c) ns) {i : Nat} {a : Int} (hi : ns[i]? = some a) : W.cell? ⟨ab, ao + i, none⟩ = some (.int .i64 a) := by
  obtain ⟨q, cap, e, hat, -⟩ := h.at
  cases e
  rcases hat with h0 | ⟨b, off, e2, -, hc⟩
  · subst h0; simp at hi
  · cases e2
    obtain ⟨x, hx, hcx⟩ := hc.at (List.getElem?_eq_some_iff.1 hi).1
    rw [hcx, hx.out, hi]; rfl
/-- What leads knows: the boxed machine and twin, two rows that grow, two rows of states. -/
structure L13 (w W : World) (m : Mach) (l : ML) (x : Tw) (v u A B : Value) (P Q : List TwB) (ns bs : List Int) : Prop where
  bel : Below w.heap.size w W
  km : Blk W w.heap.size 25 (mcells m l)
  kx : Blk W (w.heap.size + 1) 160 #[.int .i64 x.1, .int .i64 x.2.1, .int .i64 x.2.2]
  ov : OwnT W (w.heap.size + 2) v P
  ou : OwnL W (w.heap.size + 2) u Q
  oa : Own W (w.heap.size + 2) A ns
  ob : Own W (w.heap.size + 2) B bs
  hB : w.heap.size + 2 ≤ W.heap.size
section
variable {w W : World} {m : Mach} {l : ML} {x : Tw} {v u A B : Value} {P Q : List TwB} {ns bs : List Int}
theorem L13.below {W' : World} (h : L13 w W m l x v u A B P Q ns bs) (hb : Below W.heap.size W W') : L13 w W' m l x v u A B P Q ns bs :=
  ⟨h.bel.trans (hb.mono h.bel.size), h.km.below hb h.km.lt, h.kx.below hb h.kx.lt, own_below13 h.ov hb, own_below13 h.ou hb, own_below13 h.oa hb, own_below13 h.ob hb, Nat.le_trans h.hB hb.size⟩
theorem L13.pushT {W2 : World} {v' : Value} {y : TwB} (h : L13 w W m l x v u A B P Q ns bs) (o1 : W2.ownsRow (w.heap.size + 2) 160 3 v' (P.length + 1) (tflat P ++ [.int .i64 y.1.1, .int .i64 y.1.2.1, .int .i64 y.1.2.2])) (g : W.grownBy W2 v.ownBlock) : L13 w W2 m l x v' u A B (P ++ [y]) Q ns bs := by
  have low : ∀ j, j < w.heap.size + 2 → W2.heap[j]? = W.heap[j]? := fun j hj => g.block j (Nat.lt_of_lt_of_le hj h.hB) (fun e => by have := (World.ownsRow.lt h.ov j e.symm).1; omega)
  have hty : ∀ {z : Value} {t : TypeId} {s n : Nat} {xs : List Value}, t ≠ 160 → W.ownsRow (w.heap.size + 2) t s z n xs → W2.ownsRow (w.heap.size + 2) t s z n xs := fun ht ho => own_same ho (fun k hk => by
    obtain ⟨c1, h1⟩ := own_type ho hk
    refine g.block k (World.ownsRow.lt ho k hk).2 (fun e => ?_)
    obtain ⟨c2, h2⟩ := own_type h.ov e.symm
    rw [h1] at h2; cases h2; exact ht rfl)
  exact ⟨h.bel.grown g h.bel.size (fun j hj => by have := (World.ownsRow.lt h.ov j hj).1; omega), (low _ (by omega)).trans h.km, (low _ (by omega)).trans h.kx, ownT_snoc o1, hty (by decide) h.ou, hty (by decide) h.oa, hty (by decide) h.ob, Nat.le_trans h.hB g.size⟩
theorem L13.pushB {W2 : World} {u' : Value} {y : TwB} (h : L13 w W m l x v u A B P Q ns bs) (o1 : W2.ownsRow (w.heap.size + 2) 4 1 u' (Q.length + 1) (bflat Q ++ [.bool y.2])) (g : W.grownBy W2 u.ownBlock) : L13 w W2 m l x v u' A B P (Q ++ [y]) ns bs := by
  have low : ∀ j, j < w.heap.size + 2 → W2.heap[j]? = W.heap[j]? := fun j hj => g.block j (Nat.lt_of_lt_of_le hj h.hB) (fun e => by have := (World.ownsRow.lt h.ou j e.symm).1; omega)
  have hty : ∀ {z : Value} {t : TypeId} {s n : Nat} {xs : List Value}, t ≠ 4 → W.ownsRow (w.heap.size + 2) t s z n xs → W2.ownsRow (w.heap.size + 2) t s z n xs := fun ht ho => own_same ho (fun k hk => by
    obtain ⟨c1, h1⟩ := own_type ho hk
    refine g.block k (World.ownsRow.lt ho k hk).2 (fun e => ?_)
    obtain ⟨c2, h2⟩ := own_type h.ou e.symm
    rw [h1] at h2; cases h2; exact ht rfl)
  exact ⟨h.bel.grown g h.bel.size (fun j hj => by have := (World.ownsRow.lt h.ou j hj).1; omega), (low _ (by omega)).trans h.km, (low _ (by omega)).trans h.kx, hty (by decide) h.ov, ownL_snoc o1, hty (by decide) h.oa, hty (by decide) h.ob, Nat.le_trans h.hB g.size⟩
theorem L13.setA {A' : Value} {ns' : List Int} (h : L13 w W m l x v u A B P Q ns bs) (ho : Own W (w.heap.size + 2) A' ns') : L13 w W m l x v u A' B P Q ns' bs := ⟨h.bel, h.km, h.kx, h.ov, h.ou, ho, h.ob, h.hB⟩
theorem L13.setB {B' : Value} {bs' : List Int} (h : L13 w W m l x v u A B P Q ns bs) (ho : Own W (w.heap.size + 2) B' bs') : L13 w W m l x v u A B' P Q ns bs' := ⟨h.bel, h.km, h.kx, h.ov, h.ou, h.oa, ho, h.hB⟩
end
theorem cells_one13 (W W' : World) (hW : W'.heap = W.heap) (t : TypeId) (x : Value) : ∀ j u, ([x] : List Value)[j]? = some u → (W'.alloc (.cells #[x] t)).cell? ((⟨W.heap.size, 0, none⟩ : Addr).add j) = some u := by
  intro j u hu
  rw [addr0_add, Nat.zero_add, ← hW]
  exact (Blk.new W' t #[x]).cell j (by rw [← Array.getElem?_toList]; exact hu)
theorem at_one13 (W : World) (x : Int) : At (W.alloc (.cells #[.int .i64 x] 3)) (some ⟨W.heap.size, 0, none⟩) [x] := by
  refine .inr ⟨_, 0, rfl, by simp, fun j hj => ?_⟩
  have : j = 0 := by simp at hj; omega
  subst this
  exact (Blk.new W 3 #[.int .i64 x]).cell 0 rfl
/-- What leads hands back. -/
def LeadPost13 (w : World) (P : List TwB) (e : Ending) (w' : World) : Prop := ∃ v u, e = .returned (.tuple #[v, u]) ∧ OwnT w' w.heap.size v P ∧ OwnL w' w.heap.size u P ∧ Below w.heap.size w w'
/-- Up to an event. -/
def ldT (m : Mach) (seen faults : List Int) (x : Tw) (k : Nat) : List TwB := (rngI k).flatMap (leadE m seen faults x)
theorem ldT_succ (m : Mach) (seen faults : List Int) (x : Tw) (k : Nat) : ldT m seen faults x (k + 1) = ldT m seen faults x k ++ leadE m seen faults x k := by
  unfold ldT
  rw [rngI_succ, List.flatMap_append]
  simp
theorem step_at {α : Type} {l : List α} {k : Nat} {a : α} (h : l[k]? = some a) : l.take (k + 1) = l.take k ++ [a] := by rw [List.take_add_one, h]; rfl
def crsT (x : Tw) (ns bs : List Int) : List TwB := ns.flatMap fun a => bs.map fun b => ((a, b, x.2.2), decide (x.2.2 = 1))
theorem crsT_snoc (x : Tw) (ns bs : List Int) (a : Int) : crsT x (ns ++ [a]) bs = crsT x ns bs ++ bs.map fun b => ((a, b, x.2.2), decide (x.2.2 = 1)) := by
  unfold crsT
  rw [List.flatMap_append]
  simp
theorem crs_len (x : Tw) (bs : List Int) : ∀ ns : List Int, (crsT x ns bs).length = ns.length * bs.length
  | [] => by simp [crsT]
  | a :: r => by
    have ih := crs_len x bs r
    unfold crsT at ih ⊢
    rw [List.flatMap_cons, List.length_append, List.length_map, ih, List.length_cons, Nat.succ_mul, Nat.add_comm]
def mvA (x : Tw) (fy : Int) (ns : List Int) : List TwB := ns.map fun a => ((a, x.2.1, fy), decide (x.2.2 = 1))
def mvB (x : Tw) (bs : List Int) : List TwB := bs.map fun b => ((x.1, b, x.2.2), false)
theorem mvA_snoc (x : Tw) (fy : Int) (ns : List Int) (a : Int) : mvA x fy (ns ++ [a]) = mvA x fy ns ++ [((a, x.2.1, fy), decide (x.2.2 = 1))] := by unfold mvA; rw [List.map_append]; rfl
theorem mvB_snoc (x : Tw) (bs : List Int) (b : Int) : mvB x (bs ++ [b]) = mvB x bs ++ [((x.1, b, x.2.2), false)] := by unfold mvB; rw [List.map_append]; rfl
theorem leadE_seen {m : Mach} {seen faults : List Int} {x : Tw} {e : Int} (h : hasB seen e = true) : leadE m seen faults x e = crsT x (stepL m.arrows [x.1] e) (fltL m faults x e) := by unfold leadE crsT; rw [if_pos h]
theorem leadE_un {m : Mach} {seen faults : List Int} {x : Tw} {e : Int} (h : hasB seen e = false) : leadE m seen faults x e = mvA x (if hasB faults e = true then 1 else x.2.2) (stepL m.arrows [x.1] e) ++ mvB x (fltL m faults x e) := by unfold leadE mvA mvB; rw [if_neg (by rw [h]; simp)]
theorem fltL_yes {m : Mach} {faults : List Int} {x : Tw} {e : Int} (h : hasB faults e = true) : fltL m faults x e = [] := by unfold fltL; rw [if_pos h]
theorem fltL_no {m : Mach} {faults : List Int} {x : Tw} {e : Int} (h : hasB faults e = false) : fltL m faults x e = stepL m.arrows [x.2.1] e := by unfold fltL; rw [if_neg (by rw [h]; simp)]
theorem leadE_len {m : Mach} (hm : m.arrows.length ≤ 4096) (seen faults : List Int) (x : Tw) (e : Int) : (leadE m seen faults x e).length ≤ 16785408 := by
  have h1 := stepL_len m.arrows [x.1] e
  have h2 := stepL_len m.arrows [x.2.1] e
  have h3 : (fltL m faults x e).length ≤ 4096 := by
    unfold fltL
    split
    · simp
    · omega
  cases hs : hasB seen e with
  | true =>
    rw [leadE_seen hs, crs_len]
    exact Nat.le_trans (Nat.mul_le_mul (show _ ≤ 4096 by omega) h3) (by omega)
  | false =>
    rw [leadE_un hs, List.length_append]
    unfold mvA mvB
    rw [List.length_map, List.length_map]
    omega
theorem ldT_len {m : Mach} (hm : m.arrows.length ≤ 4096) (seen faults : List Int) (x : Tw) : ∀ k, (ldT m seen faults x k).length ≤ k * 16785408
  | 0 => by simp [ldT, rngI]
  | k + 1 => by
    have := ldT_len hm seen faults x k
    have := leadE_len hm seen faults x k
    rw [ldT_succ, List.length_append, Nat.succ_mul]
    omega
end Go.Proofs.YtmlkpdeidpcidaaDoor
namespace Go.Proofs.YtmlkpdeidpcidaaDoor
open Go.RowKit
set_option linter.unusedVariables false
set_option maxRecDepth 100000

theorem Tryd.infoEdge13 : (Tryd.prog.info? 158).map (fun i => (i.zero, i.size, i.bytes)) = some (some (.agg #[.int .i64 0, .int .i64 0, .bool false]), 3, 24) := by kernel_rfl
def OwnW (W : World) (B : Nat) (v : Value) (L : List Tw) : Prop := W.ownsRow B 160 3 v L.length (aflat (L.map tA))
theorem ownW_nil (W : World) (B : Nat) : OwnW W B (.slice none 0 0) [] := World.ownsRow_nil _ _ _ _
theorem ownW_snoc {W : World} {B : Nat} {v : Value} {L : List Tw} {y : Tw} (h : W.ownsRow B 160 3 v (L.length + 1) (aflat (L.map tA) ++ [.int .i64 y.1, .int .i64 y.2.1, .int .i64 y.2.2])) : OwnW W B v (L ++ [y]) := by
  unfold OwnW
  rw [List.length_append, List.map_append, aflat_append]
  exact h
theorem OwnT.toW {W : World} {B : Nat} {v : Value} {P : List TwB} (h : OwnT W B v P) : OwnW W B v (P.map (·.1)) := by
  unfold OwnW
  rw [List.length_map, List.map_map]
  exact h
/-- A row of twins as it is read. -/
theorem OwnW.at {W : World} {B : Nat} {v : Value} {L : List Tw} (h : OwnW W B v L) : ∃ a cap, v = .slice a L.length cap ∧ AtT W a L ∧ L.length ≤ maxLen := by
  rcases h.2 with ⟨rfl, hn⟩ | ⟨g, cap, cur, rfl, hg, hh, hnc, hcm, hcs, ht⟩
  · have : L = [] := List.eq_nil_of_length_eq_zero hn
    subst this
    exact ⟨none, 0, rfl, .inl rfl, Nat.zero_le _⟩
  · refine ⟨_, cap, rfl, .inr ⟨g, 0, rfl, (Array.getElem?_eq_some_iff.1 hh).1, fun j hj => ?_⟩, Nat.le_trans hnc hcm⟩
    obtain ⟨h1, h2, h3⟩ := aflat_at hj
    have c1 := World.ownsRow.cells (g := g) h rfl _ _ h1
    have c2 := World.ownsRow.cells (g := g) h rfl _ _ h2
    have c3 := World.ownsRow.cells (g := g) h rfl _ _ h3
    rw [addr0_add] at c1 c2 c3
    exact ⟨c1, c2, c3⟩
theorem ownW_at {W : World} {B n c : Nat} {a : Option Addr} {L : List Tw} (h : OwnW W B (.slice a n c) L) : AtT W a L := by
  obtain ⟨q, cap, e, hat, -⟩ := h.at
  cases e
  exact hat
def eflat (E : List Edg) : List Value := E.flatMap fun e => [.int .i64 e.1, .int .i64 e.2.1, .bool e.2.2]
theorem eflat_snoc (E : List Edg) (e : Edg) : eflat (E ++ [e]) = eflat E ++ [.int .i64 e.1, .int .i64 e.2.1, .bool e.2.2] := by
  unfold eflat
  rw [List.flatMap_append]
  simp
theorem eflat_at : ∀ {E : List Edg} {k : Nat} {e : Edg}, E[k]? = some e → (eflat E)[k * 3]? = some (.int .i64 e.1) ∧ (eflat E)[k * 3 + 1]? = some (.int .i64 e.2.1) ∧ (eflat E)[k * 3 + 2]? = some (.bool e.2.2)
  | [], k, e, h => by simp at h
  | a :: r, 0, e, h => by
    have : a = e := by simpa using h
    subst this
    simp [eflat]
  | a :: r, k + 1, e, h => by
    have := eflat_at (E := r) (k := k) (e := e) (by simpa using h)
    rw [show (k + 1) * 3 = k * 3 + 1 + 1 + 1 by omega]
    simpa [eflat] using this
def OwnE (W : World) (B : Nat) (v : Value) (E : List Edg) : Prop := W.ownsRow B 158 3 v E.length (eflat E)
theorem ownE_nil (W : World) (B : Nat) : OwnE W B (.slice none 0 0) [] := World.ownsRow_nil _ _ _ _
theorem ownE_snoc {W : World} {B : Nat} {v : Value} {E : List Edg} {e : Edg} (h : W.ownsRow B 158 3 v (E.length + 1) (eflat E ++ [.int .i64 e.1, .int .i64 e.2.1, .bool e.2.2])) : OwnE W B v (E ++ [e]) := by
  unfold OwnE
  rw [List.length_append, eflat_snoc]
  exact h
theorem OwnE.get {W : World} {B n c : Nat} {a : Option Addr} {E : List Edg} (h : OwnE W B (.slice a n c) E) {k : Nat} {e : Edg} (hk : E[k]? = some e) : ∃ g, a = some ⟨g, 0, none⟩ ∧ g < W.heap.size ∧ W.cell? ⟨g, 0 + k * 3, none⟩ = some (.int .i64 e.1) ∧ W.cell? ⟨g, 0 + k * 3 + 1, none⟩ = some (.int .i64 e.2.1) ∧ W.cell? ⟨g, 0 + k * 3 + 2, none⟩ = some (.bool e.2.2) := by
  have hl := (List.getElem?_eq_some_iff.1 hk).1
  rcases h.2 with ⟨e0, hn⟩ | ⟨g, cap, cur, e0, hg, hh, hnc, hcm, hcs, ht⟩
  · omega
  · cases e0
    obtain ⟨h1, h2, h3⟩ := eflat_at hk
    have c1 := World.ownsRow.cells (g := g) h rfl _ _ h1
    have c2 := World.ownsRow.cells (g := g) h rfl _ _ h2
    have c3 := World.ownsRow.cells (g := g) h rfl _ _ h3
    rw [addr0_add] at c1 c2 c3
    exact ⟨g, rfl, (Array.getElem?_eq_some_iff.1 hh).1, c1, c2, c3⟩
theorem OwnL.get {W : World} {B n c : Nat} {a : Option Addr} {P : List TwB} (h : OwnL W B (.slice a n c) P) {k : Nat} {y : TwB} (hk : P[k]? = some y) : ∃ g, a = some ⟨g, 0, none⟩ ∧ W.cell? ⟨g, 0 + k, none⟩ = some (.bool y.2) := by
  have hl := (List.getElem?_eq_some_iff.1 hk).1
  rcases h.2 with ⟨e0, hn⟩ | ⟨g, cap, cur, e0, hg, hh, hnc, hcm, hcs, ht⟩
  · omega
  · cases e0
    have h1 : (bflat P)[k]? = some (.bool y.2) := by unfold bflat; rw [List.getElem?_map, hk]; rfl
    have c1 := World.ownsRow.cells (g := g) h rfl _ _ h1
    rw [addr0_add] at c1
    exact ⟨g, rfl, c1⟩
/-- What Twins knows of the memory. -/
structure T13 (w W : World) (m : Mach) (l : ML) (v u A C : Value) (L : List Tw) (E : List Edg) (ys : List TwB) : Prop where
  bel : Below w.heap.size w W
  km : Blk W w.heap.size 25 (mcells m l)
  ov : OwnW W (w.heap.size + 1) v L
  ou : OwnE W (w.heap.size + 1) u E
  oa : OwnT W (w.heap.size + 1) A ys
  oc : OwnL W (w.heap.size + 1) C ys
  ap : A.ownBlock = none ∨ A.ownBlock ≠ v.ownBlock
  hB : w.heap.size + 1 ≤ W.heap.size
section
variable {w W : World} {m : Mach} {l : ML} {v u A C : Value} {L : List Tw} {E : List Edg} {ys : List TwB}
theorem T13.below {W' : World} (h : T13 w W m l v u A C L E ys) (hb : Below W.heap.size W W') : T13 w W' m l v u A C L E ys :=
  ⟨h.bel.trans (hb.mono h.bel.size), h.km.below hb h.km.lt, own_below13 h.ov hb, own_below13 h.ou hb, own_below13 h.oa hb, own_below13 h.oc hb, h.ap, Nat.le_trans h.hB hb.size⟩
theorem T13.pushW {W2 : World} {v' : Value} {y : Tw} (h : T13 w W m l v u A C L E ys) (o1 : W2.ownsRow (w.heap.size + 1) 160 3 v' (L.length + 1) (aflat (L.map tA) ++ [.int .i64 y.1, .int .i64 y.2.1, .int .i64 y.2.2])) (g : W.grownBy W2 v.ownBlock) (n9 : v'.ownBlock = v.ownBlock ∨ v'.ownBlock = some W.heap.size) : T13 w W2 m l v' u A C (L ++ [y]) E ys := by
  have low : ∀ j, j < w.heap.size + 1 → W2.heap[j]? = W.heap[j]? := fun j hj => g.block j (Nat.lt_of_lt_of_le hj h.hB) (fun e => by have := (World.ownsRow.lt h.ov j e.symm).1; omega)
  have hty : ∀ {z : Value} {t : TypeId} {s n : Nat} {xs : List Value}, t ≠ 160 → W.ownsRow (w.heap.size + 1) t s z n xs → W2.ownsRow (w.heap.size + 1) t s z n xs := fun ht ho => own_same ho (fun k hk => by
    obtain ⟨c1, h1⟩ := own_type ho hk
    refine g.block k (World.ownsRow.lt ho k hk).2 (fun e => ?_)
    obtain ⟨c2, h2⟩ := own_type h.ov e.symm
    rw [h1] at h2; cases h2; exact ht rfl)
  refine ⟨h.bel.grown g h.bel.size (fun j hj => by have := (World.ownsRow.lt h.ov j hj).1; omega), (low _ (by omega)).trans h.km, ownW_snoc o1, hty (by decide) h.ou, own_same h.oa (fun k hk => ?_), hty (by decide) h.oc, ?_, Nat.le_trans h.hB g.size⟩
  · refine g.block k (World.ownsRow.lt h.oa k hk).2 (fun e => ?_)
    rcases h.ap with q | q
    · rw [q] at hk; cases hk
    · exact q (by rw [hk, e])
  · rcases h.ap with q | q
    · exact .inl q
    · rcases n9 with e | e
      · right; rw [e]; exact q
      · right
        rw [e]
        intro e2
        have := (World.ownsRow.lt h.oa _ e2).2
        omega
theorem T13.pushE {W2 : World} {u' : Value} {e : Edg} (h : T13 w W m l v u A C L E ys) (o1 : W2.ownsRow (w.heap.size + 1) 158 3 u' (E.length + 1) (eflat E ++ [.int .i64 e.1, .int .i64 e.2.1, .bool e.2.2])) (g : W.grownBy W2 u.ownBlock) : T13 w W2 m l v u' A C L (E ++ [e]) ys := by
  have low : ∀ j, j < w.heap.size + 1 → W2.heap[j]? = W.heap[j]? := fun j hj => g.block j (Nat.lt_of_lt_of_le hj h.hB) (fun e => by have := (World.ownsRow.lt h.ou j e.symm).1; omega)
  have hty : ∀ {z : Value} {t : TypeId} {s n : Nat} {xs : List Value}, t ≠ 158 → W.ownsRow (w.heap.size + 1) t s z n xs → W2.ownsRow (w.heap.size + 1) t s z n xs := fun ht ho => own_same ho (fun k hk => by
    obtain ⟨c1, h1⟩ := own_type ho hk
    refine g.block k (World.ownsRow.lt ho k hk).2 (fun e => ?_)
    obtain ⟨c2, h2⟩ := own_type h.ou e.symm
    rw [h1] at h2; cases h2; exact ht rfl)
  exact ⟨h.bel.grown g h.bel.size (fun j hj => by have := (World.ownsRow.lt h.ou j hj).1; omega), (low _ (by omega)).trans h.km, hty (by decide) h.ov, ownE_snoc o1, hty (by decide) h.oa, hty (by decide) h.oc, h.ap, Nat.le_trans h.hB g.size⟩
/-- What leads has made lies apart. -/
theorem T13.led {W2 : World} {A' C' : Value} {ys' : List TwB} (h : T13 w W m l v u A C L E ys) (hb : Below W.heap.size W W2) (ha : OwnT W2 W.heap.size A' ys') (hc : OwnL W2 W.heap.size C' ys') : T13 w W2 m l v u A' C' L E ys' := by
  have h2 := h.below hb
  refine ⟨h2.bel, h2.km, h2.ov, h2.ou, own_low13 ha h.hB, own_low13 hc h.hB, ?_, h2.hB⟩
  cases hk : A'.ownBlock with
  | none => exact .inl rfl
  | some k =>
    right
    intro e
    have h3 := (World.ownsRow.lt ha k hk).1
    have h4 := (World.ownsRow.lt h.ov k e.symm).2
    omega
theorem T13.drop {m' : Mach} (h : T13 w W m l v u A C L E ys) : T13 w W m l v u (.slice none 0 0) (.slice none 0 0) L E [] := ⟨h.bel, h.km, h.ov, h.ou, ownT_nil _ _, ownL_nil _ _, .inl rfl, h.hB⟩
end
/-- What Twins hands back. -/
def TwinsPost (w : World) (s : List Tw × List Edg) (e : Ending) (w' : World) : Prop := ∃ v u, e = .returned (.tuple #[v, u]) ∧ OwnW w' w.heap.size v s.1 ∧ OwnE w' w.heap.size u s.2 ∧ Below w.heap.size w w'
def twT (ns : List Int) (bs : List Int) : List Tw := ns.flatMap fun a => bs.map fun b => (a, b, 0)
theorem twT_snoc (ns bs : List Int) (a : Int) : twT (ns ++ [a]) bs = twT ns bs ++ bs.map fun b => (a, b, 0) := by
  unfold twT
  rw [List.flatMap_append]
  simp
theorem twT_len (bs : List Int) : ∀ ns : List Int, (twT ns bs).length = ns.length * bs.length
  | [] => by simp [twT]
  | a :: r => by
    have ih := twT_len bs r
    unfold twT at ih ⊢
    rw [List.flatMap_cons, List.length_append, List.length_map, ih, List.length_cons, Nat.succ_mul, Nat.add_comm]
theorem nRow_snoc {k : Nat} {s : List Tw × List Edg} {ys : List TwB} {y : TwB} : nRow k s (ys ++ [y]) = nAdd k (nRow k s ys) y := by unfold nRow; rw [List.foldl_append]; rfl
theorem idx_lt13 {σ : Type} [DecidableEq σ] {L : List σ} {y : σ} (h : y ∈ L) : idxG L y < L.length := List.idxOf_lt_length_iff.2 h
theorem idx_len13 {σ : Type} [DecidableEq σ] {L : List σ} {y : σ} (h : y ∉ L) : idxG L y = L.length := by
  have h1 := List.idxOf_le_length (a := y) (l := L)
  have h2 : ¬ L.idxOf y < L.length := fun q => h (List.idxOf_lt_length_iff.1 q)
  unfold idxG
  omega
theorem nAdd_old {k : Nat} {L : List Tw} {E : List Edg} {y : TwB} (h : y.1 ∈ L) : nAdd k (L, E) y = (L, E ++ [(k, idxG L y.1, y.2)]) ∧ idxG L y.1 < L.length := by
  refine ⟨?_, idx_lt13 h⟩
  unfold nAdd cAdd
  rw [if_pos h]
theorem nAdd_new {k : Nat} {L : List Tw} {E : List Edg} {y : TwB} (h : y.1 ∉ L) : nAdd k (L, E) y = (L ++ [y.1], E ++ [(k, idxG L y.1, y.2)]) ∧ idxG L y.1 = L.length := by
  constructor
  · unfold nAdd cAdd
    rw [if_neg h]
  · exact idx_len13 h
theorem nRow_len2 {k : Nat} : ∀ (ys : List TwB) (s : List Tw × List Edg), (nRow k s ys).2.length = s.2.length + ys.length
  | [], s => rfl
  | y :: r, s => by
    have := nRow_len2 (k := k) r (nAdd k s y)
    show (nRow k (nAdd k s y) r).2.length = _
    rw [this]
    unfold nAdd
    simp
    omega
end Go.Proofs.YtmlkpdeidpcidaaDoor
