/-
  The walks of jalousieref7.Without and jalousieref7.Within.
  The walk of jalousieref7.Within.
  The walks of machine.within and of its closure.
  The walks of cmp.Compare, cmp.Or (at integers) and of machine.compare: which of two arrows stands ahead.
  The walk of machine.compare.
-/
import Derived.Test.YtcbdjjkebpncmaaDoorG11
import Derived.Test.YtcbdjjkebpncmaaDoorCRefMay
import Derived.Test.YtcbdjjkebpncmaaDoorG05
import Derived.Test.YtcbdjjkebpncmaaDoorG07
import Derived.Laws.EntriesVeiled
import Derived.Laws.Bits64b
import Derived.BigQuiet
import Derived.BigRegion
import Derived.Test.YtcbdjjkebpncmaaDoorG08
import Derived.Deep.RegionHeld3
import Derived.Test.YtcbdjjkebpncmaaDoorG03
namespace Go.Proofs.YtcbdjjkebpncmaaDoor
open Go.RowKit
set_option linter.unusedVariables false

theorem plcs_any (a b : Mach) (la lb : ML) (w : World) (h : MAt w a la) (h' : MAt w b lb) (hm : mayB a = true) (hm' : mayB b = true) (z1 : a.st ≤ 6) (z2 : b.st ≤ 6) :
    Calls Tryd.prog 89 #[mval a la, mval b lb] w fun e w' => PlcPost w (plcAll a b) e w' := by
  have hz := mayB_size hm
  have hzB := mayB_size hm'
  obtain ⟨st, ev, starts, ars, ends⟩ := a
  obtain ⟨sb, eb, startsB, arsB, endsB⟩ := b
  obtain ⟨a1, c1, a2, c2, a3, c3⟩ := la
  obtain ⟨b1, d1, b2, d2, b3, d3⟩ := lb
  unfold sizeOk at hz hzB
  dsimp only at hz hzB z1 z2
  obtain ⟨s, rfl⟩ : ∃ s : Nat, st = (s : Int) := ⟨st.toNat, by omega⟩
  obtain ⟨v, rfl⟩ : ∃ v : Nat, ev = (v : Int) := ⟨ev.toNat, by omega⟩
  obtain ⟨s', rfl⟩ : ∃ s : Nat, sb = (s : Int) := ⟨sb.toNat, by omega⟩
  obtain ⟨v', rfl⟩ : ∃ v : Nat, eb = (v : Int) := ⟨eb.toNat, by omega⟩
  exact places_ok s v s' v' starts startsB ars arsB ends endsB a1 c1 a2 c2 a3 c3 b1 d1 b2 d2 b3 d3 w (Hid.of h) (Hid.of h') (Hid.of hm) (Hid.of hm') (show _ ≤ _ by omega) (show _ ≤ _ by omega)

theorem results_pairW {fn : Func} {u v : Tmp} (h : fn.results = #[.tmp u, .tmp v]) (tmps : Array Value) (P : Program) (w : World) : (results fn tmps).run P w = .ok (.tuple #[tmps.getD u undef, tmps.getD v undef]) w := by
  simp [results, h]
theorem results_trioW {fn : Func} {u v x : Tmp} (h : fn.results = #[.tmp u, .tmp v, .tmp x]) (tmps : Array Value) (P : Program) (w : World) : (results fn tmps).run P w = .ok (.tuple #[tmps.getD u undef, tmps.getD v undef, tmps.getD x undef]) w := by
  simp [results, h]
/-- What Without knows of the memory. -/
structure WO (w W : World) (a b : Mach) (la lb : ML) (v : Value) (L : List Plc) : Prop where
  bel : Below w.heap.size w W
  ka : Blk W w.heap.size 25 (mcells a la)
  kb : Blk W (w.heap.size + 1) 25 (mcells b lb)
  ow : OwnPl (w.heap.size + 2) W (w.heap.size + 4) v L
  hB : w.heap.size + 2 ≤ W.heap.size
theorem WO.below {w W W' : World} {a b : Mach} {la lb : ML} {v : Value} {L : List Plc} (h : WO w W a b la lb v L) (hb : Below W.heap.size W W') : WO w W' a b la lb v L :=
  ⟨h.bel.trans (hb.mono h.bel.size), h.ka.below hb h.ka.lt, h.kb.below hb h.kb.lt, h.ow.below hb h.hB, Nat.le_trans h.hB hb.size⟩
theorem plc_lens {a b : Mach} (ha : mayB a = true) (hb : mayB b = true) (za : a.st ≤ 6) (zb : b.st ≤ 6) {ev k n : Nat} {l : List Plc} (h : BI (bothD a.arrows b.arrows) (a.starts, b.starts) ev k n l) {p : Plc} (hp : p ∈ l) : p.1.1.length ≤ 4096 ∧ p.1.2.length ≤ 4096 := by
  obtain ⟨e1, e2⟩ := h.run p hp
  rw [bothD_run _ _ _ _ _ (fun e he => (e2 e he).1)] at e1
  have i1 := afterIn ha p.2 _ (may_starts ha)
  have i2 := afterIn hb p.2 _ (may_starts hb)
  rw [e1]
  have l1 := nodup_len 6 _ (inc_nodup i1.1) (fun x hx => by have := i1.2 x hx; omega)
  have l2 := nodup_len 6 _ (inc_nodup i2.1) (fun x hx => by have := i2.2 x hx; omega)
  dsimp only
  omega
/-- What Without leaves. -/
def OutPost (w : World) (o : Option (List Int)) (e : Ending) (w' : World) : Prop := ∃ va vc, e = .returned (.tuple #[.slice va (o.getD []).length vc, .bool o.isSome]) ∧ At w' va (o.getD []) ∧ (o.getD []).length ≤ maxLen ∧ Below w.heap.size w w'
theorem find_hit {α : Type} {f : α → Bool} {L : List α} {k : Nat} {p : α} {o : Option α} (h : o = (L.drop k).find? f) (hp : L[k]? = some p) (ht : f p = true) : o = some p := by
  rw [h, List.drop_eq_getElem_cons (List.getElem?_eq_some_iff.1 hp).1, (List.getElem?_eq_some_iff.1 hp).2, List.find?_cons_of_pos ht]
theorem find_miss {α : Type} {f : α → Bool} {L : List α} {k : Nat} {p : α} {o : Option α} (h : o = (L.drop k).find? f) (hp : L[k]? = some p) (ht : f p = false) : o = (L.drop (k + 1)).find? f := by
  rw [h, List.drop_eq_getElem_cons (List.getElem?_eq_some_iff.1 hp).1, (List.getElem?_eq_some_iff.1 hp).2, List.find?_cons_of_neg (by rw [ht]; simp)]
theorem outPost_none {w w' : World} {a b : Mach} {o : Option Plc} (h : o = none) (he : outW a b = o.map (·.2)) (hb : Below w.heap.size w w') : OutPost w (outW a b) (.returned (.tuple #[.slice none 0 0, .bool false])) w' := by
  rw [he, h]; exact ⟨none, 0, rfl, .inl rfl, Nat.zero_le _, hb⟩
theorem outPost_some {w w' : World} {a b : Mach} {o : Option Plc} {p : Plc} {va : Option Addr} {vc : Nat} (h : o = some p) (he : outW a b = o.map (·.2)) (hv : At w' va p.2) (hl : p.2.length ≤ maxLen) (hb : Below w.heap.size w w') : OutPost w (outW a b) (.returned (.tuple #[.slice va p.2.length vc, .bool true])) w' := by
  rw [he, h]; exact ⟨va, vc, rfl, hv, hl, hb⟩

set_option maxRecDepth 100000 in
set_option maxHeartbeats 8000000 in
theorem without_any (a b : Mach) (la lb : ML) (w : World) (h : Hid (MAt w a la)) (h' : Hid (MAt w b lb)) (hm : Hid (mayB a = true)) (hm' : Hid (mayB b = true)) (z1 : Hid (a.st ≤ 6)) (z2 : Hid (b.st ≤ 6)) :
    Calls Tryd.prog 61 #[mval a la, mval b lb] w fun e w' => OutPost w (outW a b) e w' := by
  have B0 : Hid (Below w.heap.size w ((w.alloc (.cells (mcells a la) 25)).alloc (.cells (mcells b lb) 25))) := ((Below.refl _ _).alloc (Nat.le_refl _) _).alloc (by simp) _
  have KA0 : Hid (Blk ((w.alloc (.cells (mcells a la) 25)).alloc (.cells (mcells b lb) 25)) w.heap.size 25 (mcells a la)) := (Blk.new w _ _).alloc _
  have KB0 : Hid (Blk ((w.alloc (.cells (mcells a la) 25)).alloc (.cells (mcells b lb) 25)) (w.heap.size + 1) 25 (mcells b lb)) := by
    have := Blk.new (w.alloc (.cells (mcells a la) 25)) 25 (mcells b lb)
    rwa [World.size_alloc] at this
  have HZ0 : Hid (((w.alloc (.cells (mcells a la) 25)).alloc (.cells (mcells b lb) 25)).heap.size = w.heap.size + 2) := by show _ = _; simp
  go_enter Tryd.func61, Tryd.ntmps61
  go_wp2_with fail
  refine (plcs_any a b la lb _ (h.out.below B0.out (Nat.le_refl _)) (h'.out.below B0.out (Nat.le_refl _)) hm.out hm'.out z1.out z2.out).mono ?_
  rintro r V ⟨v, rfl, ow, bV⟩
  rw [HZ0.out] at ow
  have HI := Hid.of (plc_all hm.out hm'.out z1.out z2.out)
  have HF0 : Hid ((plcAll a b).find? (outP a b) = ((plcAll a b).drop 0).find? (outP a b)) := by show _ = _; rw [List.drop_zero]
  have HOW : Hid (outW a b = ((plcAll a b).find? (outP a b)).map (·.2)) := rfl
  have HBD := Hid.of (plc_bound hm.out hm'.out z1.out z2.out HI.out)
  have HX : Hid (WO w V a b la lb v (plcAll a b)) := ⟨B0.out.trans (bV.mono B0.out.size), KA0.out.below bV KA0.out.lt, KB0.out.below bV KB0.out.lt, ow, Nat.le_trans (Nat.le_of_eq HZ0.out.symm) bV.size⟩
  have HPOS : Hid (0 < (plcAll a b).length) := (List.getElem?_eq_some_iff.1 HI.out.hd).1
  have HIN : Hid (∀ p ∈ plcAll a b, p.1.1.length ≤ 4096 ∧ p.1.2.length ≤ 4096) := fun p hp => plc_lens hm.out hm'.out z1.out z2.out HI.out hp
  clear ow bV HZ0 B0 KA0 KB0
  revert HI HF0 HOW HBD HX HPOS HIN
  generalize plcAll a b = L
  intro HI HF0 HOW HBD HX HPOS HIN
  have hbd := HBD.out
  obtain ⟨g, cap, hv, -, -, -, -⟩ := HX.out.ow.cellsP HPOS.out
  subst hv
  obtain ⟨O, HO⟩ : ∃ O, Hid (O = L.find? (outP a b)) := ⟨_, rfl⟩
  rw [← HO.out] at HF0 HOW
  obtain ⟨st, ev, starts, ars, ends⟩ := a
  obtain ⟨sb, eb, startsB, arsB, endsB⟩ := b
  obtain ⟨a1, c1, a2, c2, a3, c3⟩ := la
  obtain ⟨b1, d1, b2, d2, b3, d3⟩ := lb
  go_wp2_with fail
  go_loopw [7] (fun i wr => ∃ (k : Nat), i = .int .i64 k ∧ k ≤ L.length ∧ Hid (WO w wr ⟨st, ev, starts, ars, ends⟩ ⟨sb, eb, startsB, arsB, endsB⟩ ⟨a1, c1, a2, c2, a3, c3⟩ ⟨b1, d1, b2, d2, b3, d3⟩ (.slice (some ⟨g, 0, none⟩) L.length cap) L) ∧ Hid (O = (L.drop k).find? (outP ⟨st, ev, starts, ars, ends⟩ ⟨sb, eb, startsB, arsB, endsB⟩))) (fun i _ => L.length - (intOf i).toNat)
  case atStart => exact ⟨0, rfl, Nat.zero_le _, HX, HF0⟩
  case round =>
    clear HX HF0
    obtain ⟨k, rfl, hk, HR, HF⟩ := hrel
    by_cases hlt : k < L.length
    · obtain ⟨p, HP⟩ : ∃ p, Hid (L[k]? = some p) := ⟨_, List.getElem?_eq_getElem hlt⟩
      obtain ⟨g', cap', hv, hg, hgs, -, hcc⟩ := HR.out.ow.cells HPOS.out
      cases hv
      obtain ⟨xv, yv, zv, cx, cy, cz, ix, iy, iz⟩ := hcc k p HP.out
      obtain ⟨xa, xc, rfl, hxa, hxl, -⟩ := ix.at
      obtain ⟨ya, yc, rfl, hya, hyl, -⟩ := iy.at
      obtain ⟨za, zc, rfl, hza, hzl, -⟩ := iz.at
      rw [Nat.zero_add] at cx cy cz
      have IZ := Hid.of iz
      have IY := Hid.of iy
      have HG := Hid.of hgs
      have CY := Hid.of cy
      have CZ := Hid.of cz
      have HL1 := Hid.of (HIN.out p (List.mem_of_getElem? HP.out)).1
      have HL2 := Hid.of (HIN.out p (List.mem_of_getElem? HP.out)).2
      obtain ⟨x0, x1, x2, x3, x4⟩ := mcell_at HR.out.ka
      dsimp only at x0 x1 x2 x3 x4
      obtain ⟨xs, HXS⟩ : ∃ xs, Hid (xs = p.1.1.filter (fun n => hasB ends n == true)) := ⟨_, rfl⟩
      have KEY : Hid (Calls Tryd.prog 38 #[.slice xa p.1.1.length xc, .slice a3 ends.length c3, .bool true] wr.drew fun r w' => Gives wr.drew xs r w') := by
        rw [HXS.out]; exact only_any xa a3 xc c3 p.1.1 ends true wr.drew (At.drewN hxa 1) (Nat.le_trans HL1.out (by decide)) (h.out.e.below HR.out.bel.drew (Nat.le_refl _)) (Nat.le_trans h.out.e1 h.out.e2)
      clear hcc ix iy iz hxa hxl hya hyl hza hzl hg hgs cy cz x0 x1 x2 x3
      go_wp2_with fail
      go_region_held3 (fun w' => w'.cell? ⟨w.heap.size, 4, none⟩ = some (.slice a3 ends.length c3) ∧ w'.cell? ⟨g, k * 3, none⟩ = some (.slice xa p.1.1.length xc)) (go_keep) (first | (go_at_call 38; refine KEY.out.mono ?_; rintro r wL ⟨ra, rc, rfl, -, ol, b8⟩; have OL := Hid.of ol; have GL : Hid (Below wr.heap.size wr wL) := ((Below.refl _ wr).drew).trans b8; have xx4 : wL.cell? ⟨w.heap.size, 4, none⟩ = some (.slice a3 ends.length c3) := (HR.out.below GL.out).ka.cell 4 rfl; have cc1 := (GL.out.cell (p := ⟨g, k * 3, none⟩) HG.out).trans cx; clear b8 ol))
      clear KEY xx4 cc1 x4 cx
      have HRL := Hid.of (HR.out.below GL.out)
      have CYL : wL.cell? ⟨g, k * 3 + 1, none⟩ = some (.slice ya p.1.2.length yc) := (GL.out.cell (p := ⟨g, k * 3 + 1, none⟩) HG.out).trans CY.out
      have CZL : Hid (wL.cell? ⟨g, k * 3 + 2, none⟩ = some (.slice za p.2.length zc)) := (GL.out.cell (p := ⟨g, k * 3 + 2, none⟩) HG.out).trans CZ.out
      have IZL := Hid.of (IZ.out.below GL.out HR.out.hB)
      have IYL := Hid.of (IY.out.below GL.out HR.out.hB)
      have HGL : Hid (g < wL.heap.size) := Nat.lt_of_lt_of_le HG.out GL.out.size
      clear HR GL HG CY CZ IZ IY
      have x4 : wL.cell? ⟨w.heap.size + 1, 4, none⟩ = some (.slice b3 endsB.length d3) := HRL.out.kb.cell 4 rfl
      obtain ⟨ya', yc', hye, hya, hyl, -⟩ := IYL.out.at
      cases hye
      obtain ⟨ys, HYS⟩ : ∃ ys, Hid (ys = p.1.2.filter (fun n => hasB endsB n == true)) := ⟨_, rfl⟩
      have KEY : Hid (Calls Tryd.prog 38 #[.slice ya p.1.2.length yc, .slice b3 endsB.length d3, .bool true] wL.drew fun r w' => Gives wL.drew ys r w') := by
        rw [HYS.out]; exact only_any ya b3 yc d3 p.1.2 endsB true wL.drew (At.drewN hya 1) (Nat.le_trans HL2.out (by decide)) (h'.out.e.below HRL.out.bel.drew (Nat.le_refl _)) (Nat.le_trans h'.out.e1 h'.out.e2)
      clear hya hyl
      go_wp2_with fail
      go_region_held3 (fun w' => w'.cell? ⟨w.heap.size + 1, 4, none⟩ = some (.slice b3 endsB.length d3) ∧ w'.cell? ⟨g, k * 3 + 1, none⟩ = some (.slice ya p.1.2.length yc)) (go_keep) (first | (go_at_call 38; refine KEY.out.mono ?_; rintro r wM ⟨rb, rd, rfl, -, om, b9⟩; have OM := Hid.of om; have GL : Hid (Below wL.heap.size wL wM) := ((Below.refl _ wL).drew).trans b9; have xx4 : wM.cell? ⟨w.heap.size + 1, 4, none⟩ = some (.slice b3 endsB.length d3) := (HRL.out.below GL.out).kb.cell 4 rfl; have cc1 := (GL.out.cell (p := ⟨g, k * 3 + 1, none⟩) HGL.out).trans CYL; clear b9 om))
      clear KEY xx4 cc1 x4 CYL
      have HRM := Hid.of (HRL.out.below GL.out)
      have CZM : wM.cell? ⟨g, k * 3 + 2, none⟩ = some (.slice za p.2.length zc) := (GL.out.cell (p := ⟨g, k * 3 + 2, none⟩) HGL.out).trans CZL.out
      have IZM := Hid.of (IZL.out.below GL.out HRL.out.hB)
      clear HRL GL HGL CZL IZL IYL
      have HOP : Hid (outP ⟨st, ev, starts, ars, ends⟩ ⟨sb, eb, startsB, arsB, endsB⟩ p = (decide (0 < xs.length) && decide (ys.length = 0))) := by show _ = _; unfold outP; rw [HXS.out, HYS.out]
      by_cases hx : 0 < xs.length
      · by_cases hy : ys.length = 0
        · have HT := Hid.of (find_hit HF.out HP.out (by rw [HOP.out]; simp [hx, hy]))
          have dy : ((ys.length : Int) == 0) = true := by rw [hy]; rfl
          clear hy
          obtain ⟨za', zc', hze, hza, hzl, -⟩ := IZM.out.at
          cases hze
          have HZA := Hid.of hza
          have HZL := Hid.of hzl
          clear hza hzl
          go_wp2_with fail
          exact bodyPost_ret (results_pairW (u := 4) (v := 5) rfl _ _ _) rfl (outPost_some HT.out HOW.out HZA.out HZL.out HRM.out.bel)
        · have HT := Hid.of (find_miss HF.out HP.out (by rw [HOP.out]; simp [hy]))
          have dy : ((ys.length : Int) == 0) = false := by rw [beq_eq_false_iff_ne]; omega
          clear hy CZM
          go_wp2_with fail
          go_roundw
          case rel => exact ⟨k + 1, by go_num, by omega, HRM, HT⟩
          case measure => simp [intOf]; omega
      · have HT := Hid.of (find_miss HF.out HP.out (by rw [HOP.out]; simp; omega))
        clear CZM
        go_wp2_with fail
        go_roundw
        case rel => exact ⟨k + 1, by go_num, by omega, HRM, HT⟩
        case measure => simp [intOf]; omega
    · have HN : Hid (O = none) := by show _ = _; rw [HF.out, List.drop_eq_nil_of_le (by omega)]; rfl
      go_wp2_with fail
      exact bodyPost_ret (results_pairW (u := 4) (v := 5) rfl _ _ _) rfl (outPost_none HN.out HOW.out HR.out.bel)

end Go.Proofs.YtcbdjjkebpncmaaDoor
namespace Go.Proofs.YtcbdjjkebpncmaaDoor
open Go.RowKit
set_option linter.unusedVariables false

/-- What Within tells (G2). -/
def withOut (a b : Mach) : Bool × List Int × Int :=
  if mayB a = true ∧ mayB b = true then
    if a.ev = b.ev then
      if a.st ≤ 6 ∧ b.st ≤ 6 then ((outW a b).isNone, (outW a b).getD [], 0) else (false, [], 1)
    else (false, [], 3)
  else (false, [], 2)
/-- What Within leaves. -/
def WithPost (w : World) (a b : Mach) (e : Ending) (w' : World) : Prop := ∃ va vc, e = .returned (.tuple #[.bool (withOut a b).1, .slice va (withOut a b).2.1.length vc, .int .i64 (withOut a b).2.2]) ∧ At w' va (withOut a b).2.1 ∧ (withOut a b).2.1.length ≤ maxLen ∧ Below w.heap.size w w'
theorem withPost_err {w w' : World} {a b : Mach} {c : Int} (h : withOut a b = (false, [], c)) (hb : Below w.heap.size w w') : WithPost w a b (.returned (.tuple #[.bool false, .slice none 0 0, .int .i64 c])) w' := by
  unfold WithPost; rw [h]; exact ⟨none, 0, rfl, .inl rfl, Nat.zero_le _, hb⟩
theorem withPost_ok {w w' : World} {a b : Mach} {o : Option (List Int)} {va : Option Addr} {vc : Nat} (h : withOut a b = (o.isNone, o.getD [], 0)) (hv : At w' va (o.getD [])) (hl : (o.getD []).length ≤ maxLen) (hb : Below w.heap.size w w') : WithPost w a b (.returned (.tuple #[.bool o.isNone, .slice va (o.getD []).length vc, .int .i64 0])) w' := by
  unfold WithPost; rw [h]
  exact ⟨va, vc, rfl, hv, hl, hb⟩

set_option maxRecDepth 100000 in
set_option maxHeartbeats 8000000 in
theorem rWith_any (a b : Mach) (la lb : ML) (w : World) (h : Hid (MAt w a la)) (h' : Hid (MAt w b lb)) :
    Calls Tryd.prog 27 #[mval a la, mval b lb] w fun e w' => WithPost w a b e w' := by
  have B0 : Hid (Below w.heap.size w ((w.alloc (.cells (mcells a la) 25)).alloc (.cells (mcells b lb) 25))) := ((Below.refl _ _).alloc (Nat.le_refl _) _).alloc (by simp) _
  have KA0 : Hid (Blk ((w.alloc (.cells (mcells a la) 25)).alloc (.cells (mcells b lb) 25)) w.heap.size 25 (mcells a la)) := (Blk.new w _ _).alloc _
  have KB0 : Hid (Blk ((w.alloc (.cells (mcells a la) 25)).alloc (.cells (mcells b lb) 25)) (w.heap.size + 1) 25 (mcells b lb)) := by
    have := Blk.new (w.alloc (.cells (mcells a la) 25)) 25 (mcells b lb)
    rwa [World.size_alloc] at this
  go_enter Tryd.func27, Tryd.ntmps27
  go_wp2_with fail
  revert B0 KA0 KB0
  generalize (w.alloc (.cells (mcells a la) 25)).alloc (.cells (mcells b lb) 25) = V0
  intro B0 KA0 KB0
  refine (refMay_any a la _ (h.out.below B0.out (Nat.le_refl _))).mono ?_
  rintro e V ⟨rfl, hb1⟩
  have B1 := Hid.of (B0.out.trans (hb1.mono B0.out.size))
  have KA1 := Hid.of (KA0.out.below hb1 KA0.out.lt)
  have KB1 := Hid.of (KB0.out.below hb1 KB0.out.lt)
  clear hb1 B0 KA0 KB0
  cases hma : mayB a with
  | false =>
    have HW : Hid (withOut a b = (false, [], 2)) := by show _ = _; unfold withOut; rw [if_neg (by rw [hma]; simp)]
    clear hma
    go_wp2_with fail
    exact bodyPost_ret (results_trioW (u := 4) (v := 5) (x := 6) rfl _ _ _) rfl (withPost_err HW.out B1.out)
  | true =>
    have HA := Hid.of hma
    clear hma
    obtain ⟨y0, y1, y2, y3, y4⟩ := mcell_at KB1.out
    go_wp2_with fail
    refine (refMay_any b lb _ (h'.out.below B1.out (Nat.le_refl _))).mono ?_
    rintro e V2 ⟨rfl, hb1⟩
    have B2 := Hid.of (B1.out.trans (hb1.mono B1.out.size))
    have KA2 := Hid.of (KA1.out.below hb1 KA1.out.lt)
    have KB2 := Hid.of (KB1.out.below hb1 KB1.out.lt)
    clear hb1 B1 KA1 KB1 y0 y1 y2 y3 y4
    cases hmb : mayB b with
    | false =>
      have HW : Hid (withOut a b = (false, [], 2)) := by show _ = _; unfold withOut; rw [if_neg (by rw [hmb]; simp)]
      clear hmb
      go_wp2_with fail
      exact bodyPost_ret (results_trioW (u := 4) (v := 5) (x := 6) rfl _ _ _) rfl (withPost_err HW.out B2.out)
    | true =>
      have HB := Hid.of hmb
      clear hmb
      have HW : Hid (withOut a b = if a.ev = b.ev then if a.st ≤ 6 ∧ b.st ≤ 6 then ((outW a b).isNone, (outW a b).getD [], 0) else (false, [], 1) else (false, [], 3)) := by show _ = _; unfold withOut; rw [if_pos ⟨HA.out, HB.out⟩]
      have hza := mayB_size HA.out
      have hzb := mayB_size HB.out
      unfold sizeOk at hza hzb
      obtain ⟨st, ev, starts, ars, ends⟩ := a
      obtain ⟨sb, eb, startsB, arsB, endsB⟩ := b
      obtain ⟨a1, c1, a2, c2, a3, c3⟩ := la
      obtain ⟨b1, d1, b2, d2, b3, d3⟩ := lb
      obtain ⟨x0, x1, x2, x3, x4⟩ := mcell_at KA2.out
      obtain ⟨y0, y1, y2, y3, y4⟩ := mcell_at KB2.out
      dsimp only at x0 x1 x2 x3 x4 y0 y1 y2 y3 y4 hza hzb HW
      by_cases he : ev = eb
      · have de : (ev != eb) = false := by rw [he]; simp
        have HW2 : Hid (withOut ⟨st, ev, starts, ars, ends⟩ ⟨sb, eb, startsB, arsB, endsB⟩ = if st ≤ 6 ∧ sb ≤ 6 then ((outW ⟨st, ev, starts, ars, ends⟩ ⟨sb, eb, startsB, arsB, endsB⟩).isNone, (outW ⟨st, ev, starts, ars, ends⟩ ⟨sb, eb, startsB, arsB, endsB⟩).getD [], 0) else (false, [], 1)) := by show _ = _; rw [HW.out, if_pos he]
        clear he HW
        by_cases h6 : st ≤ 6
        · by_cases h6' : sb ≤ 6
          · have KEY : Hid (∀ W, Below w.heap.size w W → Calls Tryd.prog 61 #[mval ⟨st, ev, starts, ars, ends⟩ ⟨a1, c1, a2, c2, a3, c3⟩, mval ⟨sb, eb, startsB, arsB, endsB⟩ ⟨b1, d1, b2, d2, b3, d3⟩] W fun e w' => OutPost W (outW ⟨st, ev, starts, ars, ends⟩ ⟨sb, eb, startsB, arsB, endsB⟩) e w') := fun W hW => without_any _ _ _ _ W (Hid.of (h.out.below hW (Nat.le_refl _))) (Hid.of (h'.out.below hW (Nat.le_refl _))) HA HB (Hid.of h6) (Hid.of h6')
            replace HW2 : Hid (withOut ⟨st, ev, starts, ars, ends⟩ ⟨sb, eb, startsB, arsB, endsB⟩ = ((outW ⟨st, ev, starts, ars, ends⟩ ⟨sb, eb, startsB, arsB, endsB⟩).isNone, (outW ⟨st, ev, starts, ars, ends⟩ ⟨sb, eb, startsB, arsB, endsB⟩).getD [], 0)) := by show _ = _; rw [HW2.out, if_pos ⟨h6, h6'⟩]
            obtain ⟨o, HOO⟩ : ∃ o, Hid (o = outW ⟨st, ev, starts, ars, ends⟩ ⟨sb, eb, startsB, arsB, endsB⟩) := ⟨_, rfl⟩
            rw [← HOO.out] at KEY HW2
            go_wp2_with fail
            refine (KEY.out _ B2.out).mono ?_
            rintro r V3 ⟨va, vc, rfl, hva, hvl, b3⟩
            have B3 := Hid.of (B2.out.trans (b3.mono B2.out.size))
            have HVA := Hid.of hva
            have HVL := Hid.of hvl
            clear hva hvl b3
            go_wp2_with fail
            exact bodyPost_ret (results_trioW (u := 4) (v := 5) (x := 6) rfl _ _ _) rfl (withPost_ok HW2.out HVA.out HVL.out B3.out)
          · have HE : Hid (withOut ⟨st, ev, starts, ars, ends⟩ ⟨sb, eb, startsB, arsB, endsB⟩ = (false, [], 1)) := by show _ = _; rw [HW2.out, if_neg (fun h => h6' h.2)]
            go_wp2_with fail
            exact bodyPost_ret (results_trioW (u := 4) (v := 5) (x := 6) rfl _ _ _) rfl (withPost_err HE.out B2.out)
        · have HE : Hid (withOut ⟨st, ev, starts, ars, ends⟩ ⟨sb, eb, startsB, arsB, endsB⟩ = (false, [], 1)) := by show _ = _; rw [HW2.out, if_neg (fun h => h6 h.1)]
          go_wp2_with fail
          exact bodyPost_ret (results_trioW (u := 4) (v := 5) (x := 6) rfl _ _ _) rfl (withPost_err HE.out B2.out)
      · have de : (ev != eb) = true := by simp [he]
        have HE : Hid (withOut ⟨st, ev, starts, ars, ends⟩ ⟨sb, eb, startsB, arsB, endsB⟩ = (false, [], 3)) := by show _ = _; rw [HW.out, if_neg he]
        go_wp2_with fail
        exact bodyPost_ret (results_trioW (u := 4) (v := 5) (x := 6) rfl _ _ _) rfl (withPost_err HE.out B2.out)

end Go.Proofs.YtcbdjjkebpncmaaDoor
namespace Go.Proofs.YtcbdjjkebpncmaaDoor
open Go.RowKit
set_option linter.unusedVariables false

set_option maxHeartbeats 400000 in
theorem within_any (b : Int) (w : World) :
    Calls Tryd.prog 62 #[.int .i64 b] w fun e w' => e = .returned (.func (.func 90) #[] #[.pointer (some ⟨w.heap.size, 0, none⟩)]) ∧ w' = w.alloc (.cells #[.int .i64 b] 3) := by
  have hmf : ∀ (fn : Fn) (first cap : Array Value) (w : World), (Instr.makeFunc fn first cap).run Tryd.prog w = .ok (.func fn first cap) w := fun _ _ _ _ => rfl
  go_enter Tryd.func62, Tryd.ntmps62
  go_wp2
  go_ret
  exact ⟨rfl, rfl⟩

/-- Is a number from 0 to below a bound? -/
def inB (b n : Int) : Bool := decide (0 ≤ n ∧ n < b)

set_option maxHeartbeats 400000 in
theorem within1_any (b n : Int) (B : Nat) (w : World) (hc : w.cell? ⟨B, 0, none⟩ = some (.int .i64 b)) :
    Calls Tryd.prog 90 #[.int .i64 n, .pointer (some ⟨B, 0, none⟩)] w fun e w' => e = .returned (.bool (inB b n)) ∧ w' = w := by
  by_cases h1 : 0 ≤ n
  · by_cases h2 : n < b
    · have hr : Hid (true = inB b n) := show true = inB b n by simp [inB, h1, h2]
      have f1 : decide (0 ≤ n) = true := by simpa using h1
      have f2 : decide (n < b) = true := by simpa using h2
      go_enter Tryd.func90, Tryd.ntmps90
      go_wp2
      go_ret
      exact ⟨ret_bool hr.out, rfl⟩
    · have hr : Hid (false = inB b n) := show false = inB b n by simp [inB]; omega
      have f1 : decide (0 ≤ n) = true := by simpa using h1
      have f2 : decide (n < b) = false := by simpa using h2
      go_enter Tryd.func90, Tryd.ntmps90
      go_wp2
      go_ret
      exact ⟨ret_bool hr.out, rfl⟩
  · have hr : Hid (false = inB b n) := show false = inB b n by simp [inB]; omega
    have f1 : decide (0 ≤ n) = false := by simpa using h1
    go_enter Tryd.func90, Tryd.ntmps90
    go_wp2
    go_ret
    exact ⟨ret_bool hr.out, rfl⟩

theorem size_alloc2 (w : World) (o o' : Obj) : ((w.alloc o).alloc o').heap.size = w.heap.size + 2 := by simp

end Go.Proofs.YtcbdjjkebpncmaaDoor
namespace Go.Proofs.YtcbdjjkebpncmaaDoor
open Go.RowKit
set_option linter.unusedVariables false
set_option maxRecDepth 100000

set_option maxHeartbeats 400000 in
theorem isNaN_any (x : Int) (w : World) : Calls Tryd.prog 115 #[.int .i64 x] w fun e w' => e = .returned (.bool false) ∧ w' = w := by
  have h : (x != x) = false := by simp
  go_enter Tryd.func115, Tryd.ntmps115
  go_wp2
  go_ret
  exact ⟨rfl, rfl⟩

/-- -1, 0 or 1. -/
def cmpI (x y : Int) : Int := if x < y then -1 else if y < x then 1 else 0

theorem ret_i64 {a b : Int} (h : a = b) : Ending.returned (.int .i64 a) = .returned (.int .i64 b) := by rw [h]

set_option maxHeartbeats 1000000 in
theorem cmp_any (x y : Int) (w : World) : Calls Tryd.prog 92 #[.int .i64 x, .int .i64 y] w fun e w' => e = .returned (.int .i64 (cmpI x y)) ∧ w' = w := by
  have c1 := isNaN_any x
  have c2 := isNaN_any y
  by_cases h1 : x < y
  · have hr : Hid ((-1 : Int) = cmpI x y) := by show _ = _; simp [cmpI, h1]
    have f1 : decide (x < y) = true := by simpa using h1
    go_enter Tryd.func92, Tryd.ntmps92
    go_wp2_with (first | (go_at_call 115; refine (c1 _).mono ?_; rintro e w' ⟨rfl, rfl⟩) | (go_at_call 115; refine (c2 _).mono ?_; rintro e w' ⟨rfl, rfl⟩))
    go_ret
    exact ⟨ret_i64 hr.out, rfl⟩
  · have f1 : decide (x < y) = false := by simpa using h1
    by_cases h2 : y < x
    · have hr : Hid ((1 : Int) = cmpI x y) := by show _ = _; simp [cmpI, h1, h2]
      have f2 : decide (y < x) = true := by simpa using h2
      go_enter Tryd.func92, Tryd.ntmps92
      go_wp2_with (first | (go_at_call 115; refine (c1 _).mono ?_; rintro e w' ⟨rfl, rfl⟩) | (go_at_call 115; refine (c2 _).mono ?_; rintro e w' ⟨rfl, rfl⟩))
      go_ret
      exact ⟨ret_i64 hr.out, rfl⟩
    · have hr : Hid ((0 : Int) = cmpI x y) := by show _ = _; simp [cmpI, h1, h2]
      have f2 : decide (y < x) = false := by simpa using h2
      go_enter Tryd.func92, Tryd.ntmps92
      go_wp2_with (first | (go_at_call 115; refine (c1 _).mono ?_; rintro e w' ⟨rfl, rfl⟩) | (go_at_call 115; refine (c2 _).mono ?_; rintro e w' ⟨rfl, rfl⟩))
      go_ret
      exact ⟨ret_i64 hr.out, rfl⟩

/-- The first that is not 0. -/
def orI (x y z : Int) : Int := if x = 0 then (if y = 0 then z else y) else x

set_option maxHeartbeats 1000000 in
theorem or_any (x y z : Int) (b : Nat) (w : World) (h0 : w.cell? ⟨b, 0, none⟩ = some (.int .i64 x)) (h1 : w.cell? ⟨b, 1, none⟩ = some (.int .i64 y)) (h2 : w.cell? ⟨b, 2, none⟩ = some (.int .i64 z)) :
    Calls Tryd.prog 91 #[.slice (some ⟨b, 0, none⟩) 3 3] w fun e w' => e = .returned (.int .i64 (orI x y z)) ∧ w' = w := by
  by_cases e0 : x = 0
  · subst e0
    by_cases e1 : y = 0
    · subst e1
      by_cases e2 : z = 0
      · subst e2
        go_enter Tryd.func91, Tryd.ntmps91
        go_wp2
        refine wp_loop_rounds 4 ?_
        rw [rounds_succ]
        go_wp2
        rw [rounds_succ]
        go_wp2
        rw [rounds_succ]
        go_wp2
        rw [rounds_succ]
        go_wp2
        go_ret
        exact ⟨ret_i64 (by simp [orI]), rfl⟩
      · have f2 : (z == 0) = false := by simpa using e2
        have f2' : (z != 0) = true := by simpa using e2
        have hr : Hid (z = orI 0 0 z) := by show _ = _; simp [orI]
        go_enter Tryd.func91, Tryd.ntmps91
        go_wp2
        refine wp_loop_rounds 4 ?_
        rw [rounds_succ]
        go_wp2
        rw [rounds_succ]
        go_wp2
        rw [rounds_succ]
        go_wp2
        go_ret
        exact ⟨ret_i64 hr.out, rfl⟩
    · have f1 : (y == 0) = false := by simpa using e1
      have f1' : (y != 0) = true := by simpa using e1
      have hr : Hid (y = orI 0 y z) := by show _ = _; simp [orI, e1]
      go_enter Tryd.func91, Tryd.ntmps91
      go_wp2
      refine wp_loop_rounds 4 ?_
      rw [rounds_succ]
      go_wp2
      rw [rounds_succ]
      go_wp2
      go_ret
      exact ⟨ret_i64 hr.out, rfl⟩
  · have f0 : (x == 0) = false := by simpa using e0
    have f0' : (x != 0) = true := by simpa using e0
    have hr : Hid (x = orI x y z) := by show _ = _; simp [orI, e0]
    go_enter Tryd.func91, Tryd.ntmps91
    go_wp2
    refine wp_loop_rounds 4 ?_
    rw [rounds_succ]
    go_wp2
    go_ret
    exact ⟨ret_i64 hr.out, rfl⟩

/-- Which of two arrows stands ahead, by its sign. -/
def cmpA (a b : Arr) : Int := orI (cmpI a.f b.f) (cmpI a.e b.e) (cmpI a.t b.t)

theorem cmpA_ahead (a b : Arr) : decide (0 ≤ cmpA a b) = !aheadB a b := by
  unfold cmpA aheadB orI cmpI
  by_cases h1 : a.f < b.f
  · simp [h1, show ¬ a.f = b.f by omega]
  · by_cases h2 : b.f < a.f
    · simp [h1, h2, show ¬ a.f = b.f by omega]
    · have e : a.f = b.f := by omega
      by_cases h3 : a.e < b.e
      · simp [e, h3, show ¬ a.e = b.e by omega]
      · by_cases h4 : b.e < a.e
        · simp [e, h3, h4, show ¬ a.e = b.e by omega]
        · have e' : a.e = b.e := by omega
          by_cases h5 : a.t < b.t
          · simp [e, e', h5]
          · by_cases h6 : b.t < a.t
            · simp [e, e', h5, h6]
            · simp [e, e', h5, h6]

end Go.Proofs.YtcbdjjkebpncmaaDoor
namespace Go.Proofs.YtcbdjjkebpncmaaDoor
open Go.RowKit
set_option linter.unusedVariables false

/-- An arrow's cells. -/
abbrev acells (a : Arr) : Array Value := #[.int .i64 a.f, .int .i64 a.e, .int .i64 a.t]

set_option maxRecDepth 100000 in
set_option maxHeartbeats 4000000 in
theorem compare_any (a b : Arr) (w : World) :
    Calls Tryd.prog 63 #[.agg (acells a), .agg (acells b)] w fun e w' => e = .returned (.int .i64 (cmpA a b)) ∧ Below w.heap.size w w' := by
  have k1 : Blk ((w.alloc (.cells (acells a) 52)).alloc (.cells (acells b) 52)) w.heap.size 52 (acells a) := (Blk.new w _ _).alloc _
  have k2 : Blk ((w.alloc (.cells (acells a) 52)).alloc (.cells (acells b) 52)) (w.heap.size + 1) 52 (acells b) := by
    have := Blk.new (w.alloc (.cells (acells a) 52)) 52 (acells b)
    rwa [World.size_alloc] at this
  have hB : Below w.heap.size w ((w.alloc (.cells (acells a) 52)).alloc (.cells (acells b) 52)) := ((Below.refl _ _).alloc (Nat.le_refl _) _).alloc (by simp) _
  have hsz : ((w.alloc (.cells (acells a) 52)).alloc (.cells (acells b) 52)).heap.size = w.heap.size + 2 := by simp
  have K1 := Hid.of k1
  have K2 := Hid.of k2
  have HB := Hid.of hB
  have HS := Hid.of hsz
  clear k1 k2 hB hsz
  go_enter Tryd.func63, Tryd.ntmps63
  go_wp2
  revert K1 K2 HB HS
  generalize (w.alloc (.cells (acells a) 52)).alloc (.cells (acells b) 52) = V
  intro K1 K2 HB HS
  have a0 : V.cell? ⟨w.heap.size, 0, none⟩ = some (.int .i64 a.f) := K1.out.cell 0 rfl
  have a1 : V.cell? ⟨w.heap.size, 1, none⟩ = some (.int .i64 a.e) := K1.out.cell 1 rfl
  have a2 : V.cell? ⟨w.heap.size, 2, none⟩ = some (.int .i64 a.t) := K1.out.cell 2 rfl
  have b0 : V.cell? ⟨w.heap.size + 1, 0, none⟩ = some (.int .i64 b.f) := K2.out.cell 0 rfl
  have b1 : V.cell? ⟨w.heap.size + 1, 1, none⟩ = some (.int .i64 b.e) := K2.out.cell 1 rfl
  have b2 : V.cell? ⟨w.heap.size + 1, 2, none⟩ = some (.int .i64 b.t) := K2.out.cell 2 rfl
  have hs := HS.out
  have hn1 : w.heap.size < V.heap.size := by omega
  have hn2 : w.heap.size + 1 < V.heap.size := by omega
  have n1 := World.new_ne V _ a0
  have n2 := World.new_ne V _ b0
  go_region_held3 (fun w' => w'.cell? ⟨w.heap.size, 0, none⟩ = some (.int .i64 a.f) ∧ w'.cell? ⟨w.heap.size, 1, none⟩ = some (.int .i64 a.e) ∧ w'.cell? ⟨w.heap.size, 2, none⟩ = some (.int .i64 a.t) ∧ w'.cell? ⟨w.heap.size + 1, 0, none⟩ = some (.int .i64 b.f) ∧ w'.cell? ⟨w.heap.size + 1, 1, none⟩ = some (.int .i64 b.e) ∧ w'.cell? ⟨w.heap.size + 1, 2, none⟩ = some (.int .i64 b.t)) (go_keep) (first | (go_at_call 92; refine (cmp_any _ _ _).mono ?_; rintro e w1 ⟨rfl, rfl⟩) | (go_at_call 91; refine (or_any (cmpI a.f b.f) (cmpI a.e b.e) (cmpI a.t b.t) _ _ (by go_simp) (by go_simp) (by go_simp)).mono ?_; rintro e w1 ⟨rfl, rfl⟩))
  go_wp2
  go_ret
  exact ⟨rfl, (HB.out.alloc HB.out.size _).drew⟩

end Go.Proofs.YtcbdjjkebpncmaaDoor
