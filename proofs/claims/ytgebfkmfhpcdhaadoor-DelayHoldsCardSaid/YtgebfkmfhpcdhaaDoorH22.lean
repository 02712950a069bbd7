/-
  Plain: what goOn meets is where a twin leads to; the search's measure, read off the memory.
  The walk of diagnose's watcher.longest.
-/
import Derived.Test.YtgebfkmfhpcdhaaDoorDDGo
import Derived.Test.YtgebfkmfhpcdhaaDoorH17
import Derived.Deep.RegionHeld3
namespace Go.Proofs.YtgebfkmfhpcdhaaDoor
open Go.RowKit
set_option linter.unusedVariables false

def fltA (faults : List Int) (ars : List Arr) : List Arr := ars.filter fun a => !hasB faults a.e
theorem mem_crsD {ps bs : List Int} {len : Int} {y : Pr × Int} : y ∈ crsD ps bs len ↔ y.1.1 ∈ ps ∧ y.1.2 ∈ bs ∧ y.2 = len := by
  unfold crsD rowD
  rw [List.mem_flatMap]
  constructor
  · rintro ⟨a, h1, h2⟩
    obtain ⟨b, h3, rfl⟩ := List.mem_map.1 h2
    exact ⟨h1, h3, rfl⟩
  · rintro ⟨h1, h2, h3⟩
    exact ⟨y.1.1, h1, List.mem_map.2 ⟨y.1.2, h2, by rw [← h3]⟩⟩
section
variable {m : Mach} (hm : mayB m = true) (z : m.st ≤ 6)
theorem tabD_mem {m : Mach} (hm : mayB m = true) {ars : List Arr} (hs : ∀ x ∈ ars, x ∈ m.arrows) {a e : Nat} (he : e < 8) (x : Int) : x ∈ rowS (tabS 8 ars (a * 8 + e)) ↔ ∃ y ∈ ars, y.e = (e : Int) ∧ y.f = (a : Int) ∧ y.t = x := by
  have hz := mayB_size hm
  unfold sizeOk at hz
  rw [mem_rowS, has_tab]
  constructor
  · rintro ⟨h1, h2, y, h3, h4, h5⟩
    have := may_arrs hm y (hs y h3)
    unfold arrIn at this
    exact ⟨y, h3, by omega, by omega, by omega⟩
  · rintro ⟨y, h3, h4, h5, h6⟩
    have := may_arrs hm y (hs y h3)
    unfold arrIn at this
    exact ⟨by omega, by omega, y, h3, by omega, by omega⟩
theorem tabD_all {m : Mach} (hm : mayB m = true) {a e : Nat} (he : e < 8) (x : Int) : x ∈ rowS (tabS 8 m.arrows (a * 8 + e)) ↔ x ∈ stepL m.arrows [(a : Int)] (e : Int) := by
  rw [tabD_mem hm (fun x hx => hx) he, mem_stepL]
  constructor
  · rintro ⟨y, h1, h2, h3, h4⟩
    exact ⟨y, h1, h2, by rw [h3]; exact List.mem_singleton.2 rfl, h4⟩
  · rintro ⟨y, h1, h2, h3, h4⟩
    exact ⟨y, h1, h2, List.mem_singleton.1 h3, h4⟩
theorem tabD_flt {m : Mach} (hm : mayB m = true) (faults : List Int) {a e : Nat} (he : e < 8) (x : Int) : x ∈ rowS (tabS 8 (fltA faults m.arrows) (a * 8 + e)) ↔ hasB faults (e : Int) = false ∧ x ∈ stepL m.arrows [(a : Int)] (e : Int) := by
  rw [tabD_mem hm (ars := fltA faults m.arrows) (fun x hx => (List.mem_filter.1 hx).1) he, mem_stepL]
  constructor
  · rintro ⟨y, h1, h2, h3, h4⟩
    obtain ⟨h1, h5⟩ := List.mem_filter.1 h1
    rw [h2] at h5
    exact ⟨by simpa using h5, y, h1, h2, by rw [h3]; exact List.mem_singleton.2 rfl, h4⟩
  · rintro ⟨h5, y, h1, h2, h3, h4⟩
    exact ⟨y, List.mem_filter.2 ⟨h1, by rw [h2, h5]; rfl⟩, h2, List.mem_singleton.1 h3, h4⟩
theorem tabD_bd {m : Mach} (hm : mayB m = true) (z : m.st ≤ 6) {ars : List Arr} (hs : ∀ x ∈ ars, x ∈ m.arrows) (q : Nat) : okS (tabS 8 ars q) ∧ ∀ k ∈ allS (tabS 8 ars q), k < 6 := by
  refine ⟨okS_tab _ _ _, fun k hk => ?_⟩
  obtain ⟨-, h1⟩ := (mem_allS _ _).1 hk
  obtain ⟨y, h2, -, h3⟩ := (has_tab _ _ _ _).1 h1
  have := may_arrs hm y (hs y h2)
  unfold arrIn at this
  omega
theorem row_one {a : Nat} (h : a < 6) : rowS (ofS [(a : Int)]) = [(a : Int)] := rep_row (rep_allL (fun x hx => by rw [List.mem_singleton] at hx; rw [hx]; omega)) (by unfold Inc; exact List.pairwise_singleton _ _)
theorem go_std {m : Mach} (hm : mayB m = true) (z : m.st ≤ 6) {seen faults : List Int} {SF FF : Nat → Bool} {ev : Nat} (hev : m.ev = (ev : Int)) (hSF : ∀ e, e < ev → SF e = hasB seen (e : Int)) (hFF : ∀ e, e < ev → FF e = hasB faults (e : Int)) {a b : Nat} (ha : a < 6) (hb : b < 6) (n : Int) (y : Pr × Int) :
    y ∈ goL SF FF (tabS 8 m.arrows) (tabS 8 (fltA faults m.arrows)) a b n ev ↔ StD m seen faults ((a : Int), (b : Int)) n y := by
  have hz := mayB_size hm
  unfold sizeOk at hz
  have h8 : ev ≤ 8 := by omega
  have hbh : ∀ e, e < ev → behD FF n e = behI faults n (e : Int) := fun e he => by unfold behD behI; rw [hFF e he]
  unfold goL
  rw [List.mem_flatMap]
  constructor
  · rintro ⟨e, h1, h2⟩
    have he : e < ev := List.mem_range.1 h1
    refine ⟨(e : Int), ?_⟩
    unfold goE at h2
    rw [hSF e he] at h2
    split at h2
    · rename_i hs
      obtain ⟨g1, g2, g3⟩ := mem_crsD.1 h2
      rw [tabD_all hm (by omega)] at g1
      rw [tabD_flt hm faults (by omega)] at g2
      exact .inl ⟨hs, g2.1, g1, g2.2, by rw [g3, hbh e he]⟩
    · rename_i hs
      have hs : hasB seen (e : Int) = false := by simpa using hs
      rcases List.mem_append.1 h2 with q | q
      · obtain ⟨g1, g2, g3⟩ := mem_crsD.1 q
        rw [tabD_all hm (by omega)] at g1
        rw [row_one hb, List.mem_singleton] at g2
        exact .inr (.inl ⟨hs, g1, g2, by rw [g3, hbh e he]⟩)
      · obtain ⟨g1, g2, g3⟩ := mem_crsD.1 q
        rw [row_one ha, List.mem_singleton] at g1
        rw [tabD_flt hm faults (by omega)] at g2
        exact .inr (.inr ⟨hs, g2.1, g1, g2.2, g3⟩)
  · rintro ⟨e, h⟩
    have hee : 0 ≤ e ∧ e < m.ev := by
      rcases h with ⟨-, -, q, -⟩ | ⟨-, q, -⟩ | ⟨-, -, -, q, -⟩ <;> exact (step_ev hm q).1
    obtain ⟨k, rfl⟩ : ∃ k : Nat, e = (k : Int) := ⟨e.toNat, by omega⟩
    have hk : k < ev := by omega
    refine ⟨k, List.mem_range.2 hk, ?_⟩
    unfold goE
    rw [hSF k hk]
    rcases h with ⟨g1, g2, g3, g4, g5⟩ | ⟨g1, g2, g3, g4⟩ | ⟨g1, g2, g3, g4, g5⟩
    · rw [if_pos g1]
      exact mem_crsD.2 ⟨(tabD_all hm (by omega) _).2 g3, (tabD_flt hm faults (by omega) _).2 ⟨g2, g4⟩, by rw [g5, hbh k hk]⟩
    · rw [if_neg (by rw [g1]; simp)]
      exact List.mem_append.2 (.inl (mem_crsD.2 ⟨(tabD_all hm (by omega) _).2 g2, by rw [row_one hb, g3]; exact List.mem_singleton.2 rfl, by rw [g4, hbh k hk]⟩))
    · rw [if_neg (by rw [g1]; simp)]
      exact List.mem_append.2 (.inr (mem_crsD.2 ⟨by rw [row_one ha, g3]; exact List.mem_singleton.2 rfl, (tabD_flt hm faults (by omega) _).2 ⟨g2, g4⟩, g5⟩))
end
/-! The measure. -/
def readE (e : MapEntry) : Pr × Int := match e.key.cells.toList, e.val with
  | [Value.int _ a, Value.int _ b], Value.int _ n => ((a, b), n)
  | _, _ => ((0, 0), 0)
def readM (W : World) (r : Nat) : List (Pr × Int) := match W.heap[r]? with
  | some (.map es _) => es.toList.map readE
  | _ => []
def readQ (W : World) (p : Nat) : Nat := match W.cell? ⟨p, 406, none⟩ with
  | some (.slice _ n _) => n
  | _ => 0
def musD (cut : Int) (U : List Pr) (p r : Nat) (W : World) : Nat := 2 * potP cut U (readM W r) + readQ W p
theorem read_ents (M : List (Pr × Int)) : (entsD M).toList.map readE = M := by
  unfold entsD
  apply List.ext_getElem?
  intro i
  rw [List.getElem?_map]
  simp only [List.getElem?_mapIdx]
  cases M[i]? with
  | none => rfl
  | some y => rfl
theorem musD_eq {W : World} {B p r : Nat} {m : Mach} {l : ML} {SF FF : Nat → Bool} {TA TB : Nat → Nat → Nat} {qv : Value} {s : DSt} (h : DW W B p r m l SF FF TA TB qv s) (cut : Int) (U : List Pr) : musD cut U p r W = 2 * potP cut U s.1 + s.2.length := by
  unfold musD
  have h1 : readM W r = s.1 := by unfold readM; rw [h.mp]; exact read_ents _
  have h2 : readQ W p = s.2.length := by
    obtain ⟨a, c, e⟩ := h.qu.form
    unfold readQ
    rw [h.wb.qu, e]
  rw [h1, h2]
/-- The first of those that wait is taken off. -/
theorem DW.popq {W : World} {B p r : Nat} {m : Mach} {l : ML} {SF FF : Nat → Bool} {TA TB : Nat → Nat → Nat} {v v' : Value} {M : List (Pr × Int)} {x : Pr} {q : List Pr} (h : DW W B p r m l SF FF TA TB v (M, x :: q)) (ho : OwnQD W B v' q) (hb : v'.ownBlock = v.ownBlock) :
    DW (W.setCell ⟨p, 406, none⟩ v') B p r m l SF FF TA TB v' (M, q) ∧ KDd B p r v v' W (W.setCell ⟨p, 406, none⟩ v') := by
  obtain ⟨n1, n2, n3⟩ := h.pr
  have hset : ∀ k, k ≠ p → (W.setCell ⟨p, 406, none⟩ v').heap[k]? = W.heap[k]? := fun k hk => Below.heap_setCell _ _ _ k hk
  refine ⟨⟨WtB.setQ (qv := v) h.wb v', (hset r (fun e => n1 e.symm)).trans h.mp, ho.same (fun k hk => hset k (fun e => n2 (by rw [← hb, ← e]; exact hk))), h.lp, h.lr, h.ok, h.nd⟩, (Below.refl _ _).setCell (p := ⟨p, 406, none⟩) h.lp _, fun k hk h1 h2 h3 => hset k h1, fun k hk => .inl (by rw [← hb]; exact hk)⟩

end Go.Proofs.YtgebfkmfhpcdhaaDoor
namespace Go.Proofs.YtgebfkmfhpcdhaaDoor
open Go.RowKit
set_option linter.unusedVariables false

/-- What longest tells. -/
def LngOut (m : Mach) (seen faults : List Int) (d : Int) (bd : Bool) : Prop := (bd = true ∧ -1 ≤ d ∧ d ≤ 1000 ∧ DlIs (UnfF m seen faults) (d + 1)) ∨ (bd = false ∧ DlIs (UnfF m seen faults) (-1))

/-- What longest leaves. -/
def LngPost (B : Nat) (w : World) (m : Mach) (seen faults : List Int) (e : Ending) (W' : World) : Prop := ∃ d bd, e = .returned (.tuple #[.int .i64 d, .bool bd]) ∧ LngOut m seen faults d bd ∧ Below B w W'

set_option maxRecDepth 100000 in
set_option maxHeartbeats 8000000 in
theorem longest_any (m : Mach) (l : ML) (seen faults : List Int) (hm : Hid (mayB m = true)) (z : Hid (m.st ≤ 6)) (st ev : Nat) (hst : Hid (m.st = (st : Int))) (hev : Hid (m.ev = (ev : Int))) (hst6 : st ≤ 6) (hev8 : ev ≤ 8) (SF FF : Nat → Bool) (hSF : Hid (∀ e, e < ev → SF e = hasB seen (e : Int))) (hFF : Hid (∀ e, e < ev → FF e = hasB faults (e : Int))) (B p r : Nat) (hB0 : 0 < B) (w : World) (hT : Hid (Tab w)) (hs : Hid (At w l.a1 m.starts)) (hsl : Hid (m.starts.length ≤ maxLen)) (h : Hid (DW w B p r m l SF FF (tabS 8 m.arrows) (tabS 8 (fltA faults m.arrows)) (.slice none 0 0) ([], []))) :
    Calls Tryd.prog 101 #[.pointer (some ⟨p, 0, none⟩)] w fun e W' => LngPost B w m seen faults e W' := by
  have HBw : Hid (B ≤ w.heap.size) := Nat.le_of_lt (Nat.lt_of_le_of_lt h.out.lp h.out.lt.1)
  have HSB : Hid (∀ x ∈ m.starts, 0 ≤ x ∧ x < 256) := fun x hx => by have := (may_starts hm.out).2 x hx; have := z.out; omega
  obtain ⟨O, HO⟩ : ∃ O, Hid (O = ofS m.starts) := ⟨_, rfl⟩
  have hrep : Rep O m.starts := by rw [HO.out]; exact rep_allL HSB.out
  have HRO : Hid (rowS O = m.starts) := rep_row hrep (may_starts hm.out).1
  have okO := Hid.of hrep.ok
  have bdO : Hid (∀ k ∈ allS O, k < 6) := fun k hk => by
    obtain ⟨k1, k2⟩ := (mem_allS _ _).1 hk
    have := (may_starts hm.out).2 _ ((hrep.mem k k1).1 k2)
    have := z.out
    omega
  clear hrep
  obtain ⟨cut, HCU⟩ : ∃ cut, Hid (cut = m.st * m.st) := ⟨_, rfl⟩
  obtain ⟨sq, HSQ⟩ : ∃ sq : Nat, Hid (sq = st * st) := ⟨_, rfl⟩
  have HSQ36 : Hid (sq ≤ 36) := by show _ ≤ _; rw [HSQ.out]; exact Nat.mul_le_mul hst6 hst6
  have HCS : Hid (cut = (sq : Int)) := by show _ = _; rw [HCU.out, hst.out, HSQ.out, Int.natCast_mul]
  have hwm : IntKind.i64.wrap ((st : Int) * (st : Int)) = (sq : Int) := by
    have e : (st : Int) * (st : Int) = (sq : Int) := by rw [HSQ.out, Int.natCast_mul]
    have := HSQ36.out
    rw [e, IntKind.wrap_i64]; omega
  have c2 := h.out.wb.mach.2.2.1
  go_enter Tryd.func101, Tryd.ntmps101
  go_wp2_with fail
  clear c2
  refine (of_any l.a1 l.c1 m.starts _ hs.out hsl.out HSB.out).mono ?_
  rintro e W1 ⟨rfl, hb⟩
  rw [← HO.out]
  have hb2 : Below W1.heap.size W1 (W1.alloc (.cells (scells O) 79)) := (Below.refl _ _).alloc (Nat.le_refl _) _
  have B1 := Hid.of (hb.trans (hb2.mono hb.size))
  have D1 := Hid.of ((h.out.below hb).below hb2)
  have K5 : Hid (SB (W1.alloc (.cells (scells O) 79)) W1.heap.size O) := Blk.new W1 79 (scells O)
  clear hb hb2
  obtain ⟨y0, y1, y2, y3⟩ := SB.cells K5.out
  go_wp2_with fail
  clear y0 y1 y2 y3
  revert B1 D1 K5
  generalize (W1.alloc (.cells (scells O) 79)) = X0
  intro B1 D1 K5
  refine (dmeet_any O O okO.out okO.out bdO.out bdO.out (-1) ([], []) (Nat.zero_le _) B p r hB0 m l SF FF (tabS 8 m.arrows) (tabS 8 (fltA faults m.arrows)) (.slice none 0 0) X0 (hT.out.below B1.out hT.out.lt) D1.out).mono ?_
  rintro e X1 ⟨rfl, v1, d1, k1⟩
  rw [HRO.out] at d1
  have DX := Hid.of d1
  have BX : Hid (Below B w X1) := (B1.out.mono HBw.out).trans k1.bel
  have HDI : Hid (DIs m seen faults cut (-1) (relL ([], []) (crsD m.starts m.starts (-1)))) := dis_start hm.out (by rw [HCS.out]; omega) (fun y => mem_crsD)
  have HPT : Hid (2 * potP cut (allPD m) (relL ([], []) (crsD m.starts m.starts (-1))).1 + (relL ([], []) (crsD m.starts m.starts (-1))).2.length ≤ 4000) := by
    have q1 := (reli_all cut (allPD m) ([], []) (crsD m.starts m.starts (-1))).pot (fun y hy => by
      obtain ⟨g1, g2, g3⟩ := mem_crsD.1 hy
      exact ⟨mem_allPD.2 ⟨(may_starts hm.out).2 _ g1, (may_starts hm.out).2 _ g2⟩, by omega, by rw [g3, HCS.out]; omega⟩)
    have q2 := pot_start z.out (by rw [hst.out]; omega) [] (fun y hy => by cases hy)
    rw [← HCU.out] at q2
    dsimp only [List.length_nil] at q1
    show _ ≤ _
    omega
  clear d1 k1 D1 K5
  go_wp2_with fail
  go_loopw [4] (fun lv wr => ∃ (g : Int) (v1 : Value) (s1 : DSt), lv = .int .i64 g ∧ -1 ≤ g ∧ g ≤ 36 ∧ Hid (DW wr B p r m l SF FF (tabS 8 m.arrows) (tabS 8 (fltA faults m.arrows)) v1 s1) ∧ Hid (DIs m seen faults cut g s1) ∧ Hid (Below B w wr) ∧ Hid (2 * potP cut (allPD m) s1.1 + s1.2.length ≤ 4000)) (fun _ wr => musD cut (allPD m) p r wr)
  case atStart => exact ⟨-1, v1, _, rfl, by omega, by omega, DX, HDI, BX, HPT⟩
  case round =>
    clear DX HDI BX HPT
    obtain ⟨g, v1, ⟨M, q⟩, rfl, hg1, hg2, DX, HDI, BX, HPT⟩ := hrel
    cases q with
    | nil =>
      obtain ⟨qa, qc, hq⟩ := DX.out.qu.form
      have cq := DX.out.wb.qu
      rw [hq] at cq
      have cq : wr.cell? ⟨p, 406, none⟩ = some (.slice qa 0 qc) := cq
      clear hq
      go_wp2_with fail
      exact bodyPost_ret (v := .tuple #[.int .i64 g, .bool true]) (by simp [results, go_sem]) rfl ⟨g, true, rfl, .inl ⟨rfl, hg1, by omega, dis_end hm.out HDI.out⟩, BX.out⟩
    | cons x q =>
      obtain ⟨g0, of, cap, hv, hcap, cx1, cx2, ho⟩ := DX.out.qu.pop
      obtain ⟨n, hn⟩ := HDI.out.wt x (List.mem_cons_self ..)
      have hn : getP M x = some n := hn
      obtain ⟨xr, xn0, xn1⟩ := HDI.out.rg _ (getP_mem hn)
      replace xr := mem_allPD.1 xr
      obtain ⟨x1, x2⟩ := x
      dsimp only at xr xn0 xn1
      have hz := z.out
      obtain ⟨a, rfl⟩ : ∃ a : Nat, x1 = (a : Int) := ⟨x1.toNat, by omega⟩
      obtain ⟨b, rfl⟩ : ∃ b : Nat, x2 = (b : Int) := ⟨x2.toNat, by omega⟩
      have ha6 : a < 6 := by omega
      have hb6 : b < 6 := by omega
      have hn36 : n ≤ 36 := by have := HSQ36.out; rw [HCS.out] at xn1; omega
      have HN := Hid.of hn
      have HOK : Hid (okPD ((a : Int), (b : Int))) := by show (0 ≤ (a : Int) ∧ (a : Int) < 256) ∧ 0 ≤ (b : Int) ∧ (b : Int) < 256; omega
      have HLK : Hid (∀ Z : World, Z.heap[r]? = some (.map (entsD M) M.length) → (Instr.lookup 188 (.map (some r)) (pvalD ((a : Int), (b : Int))) false).run Tryd.prog Z = .ok (.int .i64 n) Z) := fun Z hz => (lookD_known DX.out.ok DX.out.nd HOK.out hz hn).2
      obtain ⟨gm, HGM⟩ : ∃ gm, Hid (gm = max g n) := ⟨_, rfl⟩
      have hmx : (if g < n then n else g) = gm := by
        rw [HGM.out]
        split <;> omega
      obtain ⟨ge, HGE⟩ : ∃ ge, Hid (ge = decide ((sq : Int) ≤ gm)) := ⟨_, rfl⟩
      have HMX := Hid.of hmx
      have HXN := Hid.of xn0
      have hcx1 : wr.cell? ⟨g0, of, none⟩ = some (.int .i64 (a : Int)) := cx1
      have hcx2 : wr.cell? ⟨g0, of + 1, none⟩ = some (.int .i64 (b : Int)) := cx2
      have HWM := Hid.of hwm
      clear hn xr xn1 hz hmx xn0 cx1 cx2 hwm
      subst hv
      obtain ⟨qa, HQA⟩ : ∃ qa, Hid (qa = if cap = 1 then some (⟨g0, of, none⟩ : Addr) else some ⟨g0, of + 2, none⟩) := ⟨_, rfl⟩
      rw [← HQA.out] at ho
      have HOQ := Hid.of ho
      clear ho
      have hsl : ∀ W : World, (Instr.slice 193 (.slice (some ⟨g0, of, none⟩) (q.length + 1) cap) (some (.int .i64 1)) none none).run Tryd.prog W = .ok (.slice qa q.length (cap - 1)) W := fun W => by
        have hu : Tryd.prog.underlying 193 = some (.slice 198) := by kernel_rfl
        obtain ⟨i, hi, -, hs, -⟩ : ∃ i, Tryd.prog.info? 198 = some i ∧ i.zero = some (pvalD (0, 0)) ∧ i.size = 2 ∧ i.bytes = 16 := by
          have h := Tryd.infoTwinD
          cases hi : Tryd.prog.info? 198 with
          | none => rw [hi] at h; cases h
          | some i =>
            rw [hi] at h
            simp only [Option.map_some, Option.some.injEq, Prod.mk.injEq] at h
            exact ⟨i, rfl, h.1, h.2.1, h.2.2⟩
        have h1 : (1 : Int) ≤ ((q.length + 1 : Nat) : Int) := by omega
        rw [HQA.out]
        have h2 : ¬ ((q.length : Int) + 1 < 1) := by omega
        by_cases hc : cap = 1
        · simp [Instr.slice, Instr.sliceBounds, Instr.sliceBound, run_underlying hu, sizeOf, typeInfo, hi, hs, asIntOf, Addr.add_lit, hc, h2]
        · simp [Instr.slice, Instr.sliceBounds, Instr.sliceBound, run_underlying hu, sizeOf, typeInfo, hi, hs, asIntOf, Addr.add_lit, hc, h2]
      have HSL := Hid.of hsl
      have HBk : Hid ((Value.slice qa q.length (cap - 1)).ownBlock = (Value.slice (some ⟨g0, of, none⟩) (q.length + 1) cap).ownBlock) := by
        show _ = _
        rw [HQA.out]
        split <;> rfl
      have cq := DX.out.wb.qu
      have fz := DX.out.wb.frozen 406
      have hg0 : g0 ≠ p ∧ g0 < wr.heap.size := ⟨fun e => DX.out.pr.2.1 (by rw [← e]; rfl), (DX.out.qu.lt g0 rfl).2⟩
      have hbA : Below wr.heap.size wr (wr.alloc (.cells (pcellsD ((a : Int), (b : Int))) 198)) := (Below.refl _ _).alloc (Nat.le_refl _) _
      have DA := DX.out.below hbA
      have KA := Blk.new wr 198 (pcellsD ((a : Int), (b : Int)))
      obtain ⟨d3, k3⟩ := DW.popq DA (HOQ.out.same (fun k hk => hbA.block k (HOQ.out.lt k hk).2)) HBk.out
      have D3 := Hid.of d3
      have HPW : Hid (p < wr.heap.size) := DX.out.lt.1
      have K3 : Hid (Blk ((wr.alloc (.cells (pcellsD ((a : Int), (b : Int))) 198)).setCell ⟨p, 406, none⟩ (.slice qa q.length (cap - 1))) wr.heap.size 198 (pcellsD ((a : Int), (b : Int)))) := KA.other (by have := HPW.out; omega) _
      have B3 : Hid (Below B w ((wr.alloc (.cells (pcellsD ((a : Int), (b : Int))) 198)).setCell ⟨p, 406, none⟩ (.slice qa q.length (cap - 1)))) := (BX.out.trans (hbA.mono (Nat.le_trans HBw.out BX.out.size))).trans k3.bel
      have cq2 := DA.wb.qu
      have fz2 := DA.wb.frozen 406
      have hl0 : (0 : Int) < ((q.length + 1 : Nat) : Int) := by omega
      have hl1 : 0 < q.length + 1 := by omega
      have cx3 := (hbA.cell (p := ⟨g0, of, none⟩) hg0.2).trans hcx1
      have cx4 := (hbA.cell (p := ⟨g0, of + 1, none⟩) hg0.2).trans hcx2
      have HG0 := Hid.of hg0
      clear hbA DA KA d3 k3 hg0 HSL
      go_wp2_with fail
      clear cq fz cq2 fz2 hcx1 hcx2 cx3 cx4 hsl hl0 hl1
      revert D3 K3 B3
      generalize ((wr.alloc (.cells (pcellsD ((a : Int), (b : Int))) 198)).setCell ⟨p, 406, none⟩ (.slice qa q.length (cap - 1))) = X3
      intro D3 K3 B3
      have HMP : Hid (X3.drew.heap[r]? = some (.map (entsD M) M.length)) := D3.out.mp
      refine wp_region_held_drew (S := fun w' => w'.cell? ⟨p, 405, none⟩ = some (.map (some r)) ∧ w'.cell? ⟨wr.heap.size, 0, none⟩ = some (.int .i64 (a : Int)) ∧ w'.cell? ⟨wr.heap.size, 1, none⟩ = some (.int .i64 (b : Int))) (by kernel_rfl) ⟨D3.out.drew.wb.mp, K3.out.drew.cell 0 rfl, K3.out.drew.cell 1 rfl⟩ (fun hS => ?_)
      refine wpAnyH_take (i := 0) (v := .int .i64 g) rfl (by kernel_rfl) (by kernel_rfl) (by kernel_rfl) (fun _ _ _ h => h) (Or.inl ⟨by kernel_rfl, fun w' hw' => by obtain ⟨q0, q1, q2⟩ := hw'; go_simp⟩) hS ?_
      refine wpAnyH_take (i := 1) (v := .pointer (some ⟨p, 0, none⟩)) rfl (by kernel_rfl) (by kernel_rfl) (by kernel_rfl) (fun _ _ _ h => h) (Or.inl ⟨by kernel_rfl, fun w' hw' => by obtain ⟨q0, q1, q2⟩ := hw'; go_simp⟩) hS ?_
      refine wpAnyH_take (i := 2) (v := .pointer (some ⟨p, 0, none⟩)) rfl (by kernel_rfl) (by kernel_rfl) (by kernel_rfl) (fun _ _ _ h => h) (Or.inl ⟨by kernel_rfl, fun w' hw' => by obtain ⟨q0, q1, q2⟩ := hw'; go_simp⟩) hS ?_
      refine wpAnyH_take (i := 3) (v := .pointer (some ⟨p, 405, none⟩)) rfl (by kernel_rfl) (by kernel_rfl) (by kernel_rfl) (fun _ _ _ h => h) (Or.inl ⟨by kernel_rfl, fun w' hw' => by obtain ⟨q0, q1, q2⟩ := hw'; go_simp⟩) hS ?_
      refine wpAnyH_take (i := 4) (v := .map (some r)) rfl (by kernel_rfl) (by kernel_rfl) (by kernel_rfl) (fun _ _ _ h => h) (Or.inl ⟨by kernel_rfl, fun w' hw' => by obtain ⟨q0, q1, q2⟩ := hw'; go_simp⟩) hS ?_
      refine wpAnyH_take (i := 5) (v := pvalD ((a : Int), (b : Int))) rfl (by kernel_rfl) (by kernel_rfl) (by kernel_rfl) (fun _ _ _ h => h) (Or.inl ⟨by kernel_rfl, fun w' hw' => by obtain ⟨q0, q1, q2⟩ := hw'; go_simp⟩) hS ?_
      simp only [Act.put, List.setIfInBounds_toArray]
      refine wpAnyH_ready (rs := [6]) (by kernel_rfl) (by simp) ?_
      refine AllReadyH.cons rfl (fun K' hK' => ?_) AllReadyH.nil
      have HS := Hid.of hS
      clear hS
      have lk := HLK.out X3.drew HMP.out
      go_simp
      refine hK'.out _ _ HS.out (fun hS => ?_)
      clear hK' K' lk
      refine wpAnyH_ready (rs := [7]) (by kernel_rfl) (by simp) ?_
      refine AllReadyH.cons rfl (fun K' hK' => ?_) AllReadyH.nil
      clear hS
      have hmx := HMX.out
      go_simp
      refine hK'.out _ _ HS.out (fun hS => ?_)
      clear hK' K' hmx
      refine wpAnyH_ready (rs := [8]) (by kernel_rfl) (by simp) ?_
      refine AllReadyH.cons rfl (fun K' hK' => ?_) AllReadyH.nil
      clear hS
      go_simp
      refine hK'.out _ _ HS.out (fun hS => ?_)
      clear hK' K'
      refine wpAnyH_done (by kernel_rfl) ?_ _
      clear hS HS
      go_wp2_with fail
      have hge : decide ((sq : Int) ≤ gm) = ge := HGE.out.symm
      have hwm := HWM.out
      have D6 : Hid (DW X3.drew B p r m l SF FF (tabS 8 m.arrows) (tabS 8 (fltA faults m.arrows)) (.slice qa q.length (cap - 1)) (M, q)) := D3.out.drew
      have B6 : Hid (Below B w X3.drew) := B3.out.drew
      have K6 : Hid (Blk X3.drew wr.heap.size 198 (pcellsD ((a : Int), (b : Int)))) := K3.out.drew
      clear D3 K3 B3 HMP
      revert D6 B6 K6
      generalize X3.drew = X6
      intro D6 B6 K6
      have c0 : X6.cell? ⟨p, 0, none⟩ = some (.int .i64 (st : Int)) := by rw [← hst.out]; exact D6.out.wb.mach.1
      go_quiet (fail)
      clear c0
      have HTX : Hid (Tab (X6.drewN nq)) := hT.out.below (below_drewN B6.out _) hB0
      have DX3 : Hid (DW (X6.drewN nq) B p r m l SF FF (tabS 8 m.arrows) (tabS 8 (fltA faults m.arrows)) (.slice qa q.length (cap - 1)) (M, q)) := D6.out.same rfl rfl (fun _ _ => rfl)
      have BX3 : Hid (Below B w (X6.drewN nq)) := below_drewN B6.out _
      have KX3 : Hid (Blk (X6.drewN nq) wr.heap.size 198 (pcellsD ((a : Int), (b : Int)))) := K6.out
      have HMU := Hid.of (musD_eq DX.out cut (allPD m))
      clear D6 K6 B6 hge hwm
      revert HTX DX3 BX3 KX3
      generalize X6.drewN nq = X4
      intro HTX DX3 BX3 KX3
      cases hgv : ge with
      | true =>
        subst hgv
        go_wp2_with fail
        refine bodyPost_ret (v := .tuple #[.int .i64 0, .bool false]) (by simp [results, go_sem]) rfl ⟨0, false, rfl, .inr ⟨rfl, ?_⟩, BX3.out⟩
        refine dis_cut hm.out HDI.out HN.out ?_
        have e1 : m.st.toNat = st := by rw [hst.out, Int.toNat_natCast]
        have e2 := of_decide_eq_true HGE.out.symm
        rw [e1, ← HSQ.out, ← HGM.out]
        exact e2
      | false =>
        subst hgv
        have hlt : gm < (sq : Int) := by have := of_decide_eq_false HGE.out.symm; omega
        have HLT := Hid.of hlt
        clear hlt
        have HGT : Hid (∀ y, y ∈ goL SF FF (tabS 8 m.arrows) (tabS 8 (fltA faults m.arrows)) a b n ev ↔ StD m seen faults ((a : Int), (b : Int)) n y) := fun y => go_std hm.out z.out hev.out hSF.out hFF.out ha6 hb6 n y
        have x0 := KX3.out.cell 0 rfl
        have x1 := KX3.out.cell 1 rfl
        go_wp2_with fail
        clear x0 x1
        refine (goOn_any a b ha6 hb6 n HXN.out (by omega) (M, q) HN.out (by show q.length ≤ 10000000; have := HPT.out; simp only [List.length_cons] at this; omega) B p r hB0 m l SF FF (tabS 8 m.arrows) (tabS 8 (fltA faults m.arrows)) (fun t => tabD_bd hm.out z.out (fun x hx => hx) t) (fun t => tabD_bd hm.out z.out (fun x hx => (List.mem_filter.1 hx).1) t) ev hev hev8 (.slice qa q.length (cap - 1)) _ HTX.out DX3.out).mono ?_
        rintro e X5 ⟨rfl, v5, d5, k5⟩
        have D5 := Hid.of d5
        have B5 : Hid (Below B w X5) := BX3.out.trans k5.bel
        clear d5 k5
        obtain ⟨n1, n2⟩ := dis_pop hm.out HDI.out HN.out (by rw [← HGM.out, HCS.out]; exact HLT.out) HGT.out
        rw [← HGM.out] at n1
        have N1 := Hid.of n1
        have N2 := Hid.of n2
        clear n1 n2
        go_wp2_with fail
        go_roundw
        case rel => exact ⟨gm, v5, _, rfl, (by rw [HGM.out]; have := HXN.out; omega), (by have := HLT.out; have := HSQ36.out; omega), D5, N1, B5, (by show _ ≤ _; have := N2.out; have := HPT.out; omega)⟩
        case measure =>
          rw [musD_eq D5.out, HMU.out]
          exact N2.out

end Go.Proofs.YtgebfkmfhpcdhaaDoor
