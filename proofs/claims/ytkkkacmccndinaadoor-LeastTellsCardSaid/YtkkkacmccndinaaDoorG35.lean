/-
  The walk of jalousieref1.Only: the numbers of a list that are (or are not) in another one.
  The walks of jalousieref7.Without and jalousieref7.Within.
  The walk of the law LeastTells.
-/
import Derived.Test.YtkkkacmccndinaaDoorG04
import Derived.Test.YtkkkacmccndinaaDoorG16
import Derived.Test.YtkkkacmccndinaaDoorG34
import Derived.Test.YtkkkacmccndinaaDoorCRefMay
import Derived.Test.YtkkkacmccndinaaDoorG33
namespace Go.Proofs.YtkkkacmccndinaaDoor
open Go.RowKit
set_option linter.unusedVariables false

/-- Of the first k numbers those that are (b = true) or are not in ys. -/
def onlyTo (xs ys : List Int) (b : Bool) (k : Nat) : List Int := (xs.take k).filter (fun n => hasB ys n == b)

theorem onlyTo_len (xs ys : List Int) (b : Bool) (k : Nat) : (onlyTo xs ys b k).length ≤ k := Nat.le_trans (List.length_filter_le _ _) (List.length_take_le _ _)
theorem onlyTo_all {xs : List Int} (ys : List Int) (b : Bool) {k : Nat} (h : ¬ k < xs.length) : onlyTo xs ys b k = xs.filter (fun n => hasB ys n == b) := by
  rw [onlyTo, List.take_of_length_le (by omega)]
theorem onlyTo_hit {xs ys : List Int} {b : Bool} {k : Nat} {x : Int} (h : k < xs.length) (hx : Hid (x = xs[k]?.getD 0)) (hb : hasB ys x = b) : onlyTo xs ys b (k + 1) = onlyTo xs ys b k ++ [x] := by
  have hx := hx.out
  rw [List.getElem?_eq_getElem h] at hx
  simp only [Option.getD_some] at hx
  rw [onlyTo, onlyTo, List.take_add_one, List.getElem?_eq_getElem h, List.filter_append]
  simp [← hx, hb]
theorem onlyTo_miss {xs ys : List Int} {b : Bool} {k : Nat} {x : Int} (h : k < xs.length) (hx : Hid (x = xs[k]?.getD 0)) (hb : ¬ hasB ys x = b) : onlyTo xs ys b (k + 1) = onlyTo xs ys b k := by
  have hx := hx.out
  rw [List.getElem?_eq_getElem h] at hx
  simp only [Option.getD_some] at hx
  rw [onlyTo, onlyTo, List.take_add_one, List.getElem?_eq_getElem h, List.filter_append]
  simp [← hx, hb]

set_option maxHeartbeats 1600000 in
set_option maxRecDepth 100000 in
theorem only_some (bx ox cx cy : Nat) (ay : Option Addr) (xs ys : List Int) (bb : Bool) (w : World) (hl : xs.length ≤ 17592186044416) (hbx : bx < w.heap.size) (hc : Cells w bx ox xs) (ht : At w ay ys) (hm : ys.length ≤ maxLen) :
    Calls Tryd.prog 49 #[.slice (some ⟨bx, ox, none⟩) xs.length cx, .slice ay ys.length cy, .bool bb] w fun e w' => ∃ v, e = .returned v ∧ Own w' w.heap.size v (xs.filter (fun n => hasB ys n == bb)) ∧ Below w.heap.size w w' := by
  obtain ⟨i0, hi, hz0, hz1, hz2⟩ := info_parts Tryd.infoInt
  go_enter Tryd.func49, Tryd.ntmps49
  go_wp2
  go_loopw [7, 8] (fun v i wr => ∃ k : Nat, k ≤ xs.length ∧ i = .int .i64 k ∧ Own wr w.heap.size v (onlyTo xs ys bb k) ∧ Below w.heap.size w wr) (fun _ i _ => xs.length - (intOf i).toNat)
  case atStart => exact ⟨0, Nat.zero_le _, rfl, own_nil _ _, Below.refl _ _⟩
  case round =>
    obtain ⟨k, hk, rfl, hown, hbel⟩ := hrel
    by_cases hlt : k < xs.length
    · obtain ⟨x, HX, hcx0⟩ := hc.at hlt
      have hcx : wr.cell? ⟨bx, ox + k, none⟩ = some (.int .i64 x) := (hbel.cell (p := ⟨bx, ox + k, none⟩) hbx).trans hcx0
      clear hcx0
      have htr : At wr ay ys := ht.below hbel (Nat.le_refl _)
      have hsz := hbel.size
      have hll := onlyTo_len xs ys bb k
      go_wp2_with fail
      refine (refHas_any ay cy ys x _ htr hm).mono ?_
      rintro e w' ⟨rfl, rfl⟩
      by_cases hh : hasB ys x = bb
      · have HH : Hid (hasB ys x = bb) := hh
        have d : (hasB ys x == bb) = true := by simp [hh]
        clear hh
        go_wp2_with (at_builtin; refine wpList_append_own _ rfl _ _ 22 rfl w.heap.size 3 i0 (.int .i64 0) 1 8 Tryd.underlying22 hi hz0 hz1 hz2 rfl (by decide) _ _ _ rfl (World.ownsRow.alloc hown _) ⟨w'.heap.size, 0, none⟩ 1 1 [.int .i64 x] rfl rfl (cell_one_new _ _ _) (by intro u hu; simp at hu; subst hu; rfl) (by unfold maxLen; omega) (by omega) (by simp; omega) ?_)
        intro v' w1 hown' hgrow _
        obtain ⟨r1, r2, -⟩ := own_snoc hown hbel hsz hown' hgrow
        rw [← onlyTo_hit hlt HX HH.out] at r1
        clear hown' hgrow hown hcx htr
        go_wp2
        go_roundw
        case rel => exact ⟨k + 1, by omega, by go_num, r1, r2⟩
        case measure => simp [intOf]; omega
      · have d : (hasB ys x == bb) = false := by simp [hh]
        have r1 := hown
        rw [← onlyTo_miss hlt HX hh] at r1
        go_wp2
        go_roundw
        case rel => exact ⟨k + 1, by omega, by go_num, r1, hbel⟩
        case measure => simp [intOf]; omega
    · rw [onlyTo_all ys bb hlt] at hown
      go_wp2
      go_ret
      exact ⟨_, rfl, hown, hbel⟩

set_option maxHeartbeats 400000 in
theorem only_nil (a ay : Option Addr) (cx cy : Nat) (ys : List Int) (bb : Bool) (w : World) :
    Calls Tryd.prog 49 #[.slice a 0 cx, .slice ay ys.length cy, .bool bb] w fun e w' => e = .returned (.slice none 0 0) ∧ w' = w := by
  go_enter Tryd.func49, Tryd.ntmps49
  go_wp2
  refine wp_loop_rounds 1 ?_
  rw [rounds_succ]
  go_wp2
  go_ret
  exact ⟨rfl, rfl⟩

theorem only_any (a ay : Option Addr) (cx cy : Nat) (xs ys : List Int) (bb : Bool) (w : World) (hs : At w a xs) (hl : xs.length ≤ 17592186044416) (ht : At w ay ys) (hm : ys.length ≤ maxLen) :
    Calls Tryd.prog 49 #[.slice a xs.length cx, .slice ay ys.length cy, .bool bb] w fun e w' => Gives w (xs.filter (fun n => hasB ys n == bb)) e w' := by
  rcases hs with rfl | ⟨b, off, rfl, hb, hc⟩
  · refine (only_nil a ay cx cy ys bb w).mono ?_
    rintro e w' ⟨rfl, rfl⟩
    exact gives_of_own (B := w'.heap.size) (own_nil _ _) (Below.refl _ _)
  · refine (only_some b off cx cy ay xs ys bb w hl hb hc ht hm).mono ?_
    rintro e w' ⟨v, rfl, h1, h2⟩
    exact gives_of_own h1 h2

end Go.Proofs.YtkkkacmccndinaaDoor
namespace Go.Proofs.YtkkkacmccndinaaDoor
open Go.RowKit
set_option linter.unusedVariables false

theorem plcs_any (a b : Mach) (la lb : ML) (w : World) (h : MAt w a la) (h' : MAt w b lb) (hm : mayB a = true) (hm' : mayB b = true) (z1 : a.st ≤ 6) (z2 : b.st ≤ 6) :
    Calls Tryd.prog 78 #[mval a la, mval b lb] w fun e w' => PlcPost w (plcAll a b) e w' := by
  have hz := mayB_size hm
  have hzB := mayB_size hm'
  obtain ⟨st, ev, starts, ars, ends⟩ := a
  obtain ⟨sb, eb, startsB, arsB, endsB⟩ := b
  obtain ⟨a1, c1, a2, c2, a3, c3⟩ := la
  obtain ⟨b1, d1, b2, d2, b3, d3⟩ := lb
  unfold sizeOk at hz hzB
  dsimp only at hz hzB z1 z2
  obtain ⟨s, rfl⟩ : ∃ s : Nat, st = (s : Int) := ⟨st.toNat, by omega⟩
  obtain ⟨v, rfl⟩ : ∃ v : Nat, ev = (v : Int) := ⟨ev.toNat, by omega⟩
  obtain ⟨s', rfl⟩ : ∃ s : Nat, sb = (s : Int) := ⟨sb.toNat, by omega⟩
  obtain ⟨v', rfl⟩ : ∃ v : Nat, eb = (v : Int) := ⟨eb.toNat, by omega⟩
  exact places_ok s v s' v' starts startsB ars arsB ends endsB a1 c1 a2 c2 a3 c3 b1 d1 b2 d2 b3 d3 w (Hid.of h) (Hid.of h') (Hid.of hm) (Hid.of hm') (show _ ≤ _ by omega) (show _ ≤ _ by omega)

theorem results_pairW {fn : Func} {u v : Tmp} (h : fn.results = #[.tmp u, .tmp v]) (tmps : Array Value) (P : Program) (w : World) : (results fn tmps).run P w = .ok (.tuple #[tmps.getD u undef, tmps.getD v undef]) w := by
  simp [results, h]
theorem results_trioW {fn : Func} {u v x : Tmp} (h : fn.results = #[.tmp u, .tmp v, .tmp x]) (tmps : Array Value) (P : Program) (w : World) : (results fn tmps).run P w = .ok (.tuple #[tmps.getD u undef, tmps.getD v undef, tmps.getD x undef]) w := by
  simp [results, h]
/-- What Without knows of the memory. -/
structure WO (w W : World) (a b : Mach) (la lb : ML) (v : Value) (L : List Plc) : Prop where
  bel : Below w.heap.size w W
  ka : Blk W w.heap.size 25 (mcells a la)
  kb : Blk W (w.heap.size + 1) 25 (mcells b lb)
  ow : OwnPl (w.heap.size + 2) W (w.heap.size + 4) v L
  hB : w.heap.size + 2 ≤ W.heap.size
theorem WO.below {w W W' : World} {a b : Mach} {la lb : ML} {v : Value} {L : List Plc} (h : WO w W a b la lb v L) (hb : Below W.heap.size W W') : WO w W' a b la lb v L :=
  ⟨h.bel.trans (hb.mono h.bel.size), h.ka.below hb h.ka.lt, h.kb.below hb h.kb.lt, h.ow.below hb h.hB, Nat.le_trans h.hB hb.size⟩
theorem plc_lens {a b : Mach} (ha : mayB a = true) (hb : mayB b = true) (za : a.st ≤ 6) (zb : b.st ≤ 6) {ev k n : Nat} {l : List Plc} (h : BI (bothD a.arrows b.arrows) (a.starts, b.starts) ev k n l) {p : Plc} (hp : p ∈ l) : p.1.1.length ≤ 4096 ∧ p.1.2.length ≤ 4096 := by
  obtain ⟨e1, e2⟩ := h.run p hp
  rw [bothD_run _ _ _ _ _ (fun e he => (e2 e he).1)] at e1
  have i1 := afterIn ha p.2 _ (may_starts ha)
  have i2 := afterIn hb p.2 _ (may_starts hb)
  rw [e1]
  have l1 := nodup_len 6 _ (inc_nodup i1.1) (fun x hx => by have := i1.2 x hx; omega)
  have l2 := nodup_len 6 _ (inc_nodup i2.1) (fun x hx => by have := i2.2 x hx; omega)
  dsimp only
  omega
/-- What Without leaves. -/
def OutPost (w : World) (o : Option (List Int)) (e : Ending) (w' : World) : Prop := ∃ va vc, e = .returned (.tuple #[.slice va (o.getD []).length vc, .bool o.isSome]) ∧ At w' va (o.getD []) ∧ (o.getD []).length ≤ maxLen ∧ Below w.heap.size w w'
theorem find_hit {α : Type} {f : α → Bool} {L : List α} {k : Nat} {p : α} {o : Option α} (h : o = (L.drop k).find? f) (hp : L[k]? = some p) (ht : f p = true) : o = some p := by
  rw [h, List.drop_eq_getElem_cons (List.getElem?_eq_some_iff.1 hp).1, (List.getElem?_eq_some_iff.1 hp).2, List.find?_cons_of_pos ht]
theorem find_miss {α : Type} {f : α → Bool} {L : List α} {k : Nat} {p : α} {o : Option α} (h : o = (L.drop k).find? f) (hp : L[k]? = some p) (ht : f p = false) : o = (L.drop (k + 1)).find? f := by
  rw [h, List.drop_eq_getElem_cons (List.getElem?_eq_some_iff.1 hp).1, (List.getElem?_eq_some_iff.1 hp).2, List.find?_cons_of_neg (by rw [ht]; simp)]
theorem outPost_none {w w' : World} {a b : Mach} {o : Option Plc} (h : o = none) (he : outW a b = o.map (·.2)) (hb : Below w.heap.size w w') : OutPost w (outW a b) (.returned (.tuple #[.slice none 0 0, .bool false])) w' := by
  rw [he, h]; exact ⟨none, 0, rfl, .inl rfl, Nat.zero_le _, hb⟩
theorem outPost_some {w w' : World} {a b : Mach} {o : Option Plc} {p : Plc} {va : Option Addr} {vc : Nat} (h : o = some p) (he : outW a b = o.map (·.2)) (hv : At w' va p.2) (hl : p.2.length ≤ maxLen) (hb : Below w.heap.size w w') : OutPost w (outW a b) (.returned (.tuple #[.slice va p.2.length vc, .bool true])) w' := by
  rw [he, h]; exact ⟨va, vc, rfl, hv, hl, hb⟩

set_option maxRecDepth 100000 in
set_option maxHeartbeats 8000000 in
theorem without_any (a b : Mach) (la lb : ML) (w : World) (h : Hid (MAt w a la)) (h' : Hid (MAt w b lb)) (hm : Hid (mayB a = true)) (hm' : Hid (mayB b = true)) (z1 : Hid (a.st ≤ 6)) (z2 : Hid (b.st ≤ 6)) :
    Calls Tryd.prog 39 #[mval a la, mval b lb] w fun e w' => OutPost w (outW a b) e w' := by
  have B0 : Hid (Below w.heap.size w ((w.alloc (.cells (mcells a la) 25)).alloc (.cells (mcells b lb) 25))) := ((Below.refl _ _).alloc (Nat.le_refl _) _).alloc (by simp) _
  have KA0 : Hid (Blk ((w.alloc (.cells (mcells a la) 25)).alloc (.cells (mcells b lb) 25)) w.heap.size 25 (mcells a la)) := (Blk.new w _ _).alloc _
  have KB0 : Hid (Blk ((w.alloc (.cells (mcells a la) 25)).alloc (.cells (mcells b lb) 25)) (w.heap.size + 1) 25 (mcells b lb)) := by
    have := Blk.new (w.alloc (.cells (mcells a la) 25)) 25 (mcells b lb)
    rwa [World.size_alloc] at this
  have HZ0 : Hid (((w.alloc (.cells (mcells a la) 25)).alloc (.cells (mcells b lb) 25)).heap.size = w.heap.size + 2) := by show _ = _; simp
  go_enter Tryd.func39, Tryd.ntmps39
  go_wp2_with fail
  refine (plcs_any a b la lb _ (h.out.below B0.out (Nat.le_refl _)) (h'.out.below B0.out (Nat.le_refl _)) hm.out hm'.out z1.out z2.out).mono ?_
  rintro r V ⟨v, rfl, ow, bV⟩
  rw [HZ0.out] at ow
  have HI := Hid.of (plc_all hm.out hm'.out z1.out z2.out)
  have HF0 : Hid ((plcAll a b).find? (outP a b) = ((plcAll a b).drop 0).find? (outP a b)) := by show _ = _; rw [List.drop_zero]
  have HOW : Hid (outW a b = ((plcAll a b).find? (outP a b)).map (·.2)) := rfl
  have HBD := Hid.of (plc_bound hm.out hm'.out z1.out z2.out HI.out)
  have HX : Hid (WO w V a b la lb v (plcAll a b)) := ⟨B0.out.trans (bV.mono B0.out.size), KA0.out.below bV KA0.out.lt, KB0.out.below bV KB0.out.lt, ow, Nat.le_trans (Nat.le_of_eq HZ0.out.symm) bV.size⟩
  have HPOS : Hid (0 < (plcAll a b).length) := (List.getElem?_eq_some_iff.1 HI.out.hd).1
  have HIN : Hid (∀ p ∈ plcAll a b, p.1.1.length ≤ 4096 ∧ p.1.2.length ≤ 4096) := fun p hp => plc_lens hm.out hm'.out z1.out z2.out HI.out hp
  clear ow bV HZ0 B0 KA0 KB0
  revert HI HF0 HOW HBD HX HPOS HIN
  generalize plcAll a b = L
  intro HI HF0 HOW HBD HX HPOS HIN
  have hbd := HBD.out
  obtain ⟨g, cap, hv, -, -, -, -⟩ := HX.out.ow.cellsP HPOS.out
  subst hv
  obtain ⟨O, HO⟩ : ∃ O, Hid (O = L.find? (outP a b)) := ⟨_, rfl⟩
  rw [← HO.out] at HF0 HOW
  obtain ⟨st, ev, starts, ars, ends⟩ := a
  obtain ⟨sb, eb, startsB, arsB, endsB⟩ := b
  obtain ⟨a1, c1, a2, c2, a3, c3⟩ := la
  obtain ⟨b1, d1, b2, d2, b3, d3⟩ := lb
  go_wp2_with fail
  go_loopw [7] (fun i wr => ∃ (k : Nat), i = .int .i64 k ∧ k ≤ L.length ∧ Hid (WO w wr ⟨st, ev, starts, ars, ends⟩ ⟨sb, eb, startsB, arsB, endsB⟩ ⟨a1, c1, a2, c2, a3, c3⟩ ⟨b1, d1, b2, d2, b3, d3⟩ (.slice (some ⟨g, 0, none⟩) L.length cap) L) ∧ Hid (O = (L.drop k).find? (outP ⟨st, ev, starts, ars, ends⟩ ⟨sb, eb, startsB, arsB, endsB⟩))) (fun i _ => L.length - (intOf i).toNat)
  case atStart => exact ⟨0, rfl, Nat.zero_le _, HX, HF0⟩
  case round =>
    clear HX HF0
    obtain ⟨k, rfl, hk, HR, HF⟩ := hrel
    by_cases hlt : k < L.length
    · obtain ⟨p, HP⟩ : ∃ p, Hid (L[k]? = some p) := ⟨_, List.getElem?_eq_getElem hlt⟩
      obtain ⟨g', cap', hv, hg, hgs, -, hcc⟩ := HR.out.ow.cells HPOS.out
      cases hv
      obtain ⟨xv, yv, zv, cx, cy, cz, ix, iy, iz⟩ := hcc k p HP.out
      obtain ⟨xa, xc, rfl, hxa, hxl, -⟩ := ix.at
      obtain ⟨ya, yc, rfl, hya, hyl, -⟩ := iy.at
      obtain ⟨za, zc, rfl, hza, hzl, -⟩ := iz.at
      rw [Nat.zero_add] at cx cy cz
      have IZ := Hid.of iz
      have IY := Hid.of iy
      have HG := Hid.of hgs
      have CY := Hid.of cy
      have CZ := Hid.of cz
      have HL1 := Hid.of (HIN.out p (List.mem_of_getElem? HP.out)).1
      have HL2 := Hid.of (HIN.out p (List.mem_of_getElem? HP.out)).2
      obtain ⟨x0, x1, x2, x3, x4⟩ := mcell_at HR.out.ka
      dsimp only at x0 x1 x2 x3 x4
      obtain ⟨xs, HXS⟩ : ∃ xs, Hid (xs = p.1.1.filter (fun n => hasB ends n == true)) := ⟨_, rfl⟩
      have KEY : Hid (Calls Tryd.prog 49 #[.slice xa p.1.1.length xc, .slice a3 ends.length c3, .bool true] wr.drew fun r w' => Gives wr.drew xs r w') := by
        rw [HXS.out]; exact only_any xa a3 xc c3 p.1.1 ends true wr.drew (At.drewN hxa 1) (Nat.le_trans HL1.out (by decide)) (h.out.e.below HR.out.bel.drew (Nat.le_refl _)) (Nat.le_trans h.out.e1 h.out.e2)
      clear hcc ix iy iz hxa hxl hya hyl hza hzl hg hgs cy cz x0 x1 x2 x3
      go_wp2_with fail
      go_region_held3 (fun w' => w'.cell? ⟨w.heap.size, 4, none⟩ = some (.slice a3 ends.length c3) ∧ w'.cell? ⟨g, k * 3, none⟩ = some (.slice xa p.1.1.length xc)) (go_keep) (first | (go_at_call 49; refine KEY.out.mono ?_; rintro r wL ⟨ra, rc, rfl, -, ol, b8⟩; have OL := Hid.of ol; have GL : Hid (Below wr.heap.size wr wL) := ((Below.refl _ wr).drew).trans b8; have xx4 : wL.cell? ⟨w.heap.size, 4, none⟩ = some (.slice a3 ends.length c3) := (HR.out.below GL.out).ka.cell 4 rfl; have cc1 := (GL.out.cell (p := ⟨g, k * 3, none⟩) HG.out).trans cx; clear b8 ol))
      clear KEY xx4 cc1 x4 cx
      have HRL := Hid.of (HR.out.below GL.out)
      have CYL : wL.cell? ⟨g, k * 3 + 1, none⟩ = some (.slice ya p.1.2.length yc) := (GL.out.cell (p := ⟨g, k * 3 + 1, none⟩) HG.out).trans CY.out
      have CZL : Hid (wL.cell? ⟨g, k * 3 + 2, none⟩ = some (.slice za p.2.length zc)) := (GL.out.cell (p := ⟨g, k * 3 + 2, none⟩) HG.out).trans CZ.out
      have IZL := Hid.of (IZ.out.below GL.out HR.out.hB)
      have IYL := Hid.of (IY.out.below GL.out HR.out.hB)
      have HGL : Hid (g < wL.heap.size) := Nat.lt_of_lt_of_le HG.out GL.out.size
      clear HR GL HG CY CZ IZ IY
      have x4 : wL.cell? ⟨w.heap.size + 1, 4, none⟩ = some (.slice b3 endsB.length d3) := HRL.out.kb.cell 4 rfl
      obtain ⟨ya', yc', hye, hya, hyl, -⟩ := IYL.out.at
      cases hye
      obtain ⟨ys, HYS⟩ : ∃ ys, Hid (ys = p.1.2.filter (fun n => hasB endsB n == true)) := ⟨_, rfl⟩
      have KEY : Hid (Calls Tryd.prog 49 #[.slice ya p.1.2.length yc, .slice b3 endsB.length d3, .bool true] wL.drew fun r w' => Gives wL.drew ys r w') := by
        rw [HYS.out]; exact only_any ya b3 yc d3 p.1.2 endsB true wL.drew (At.drewN hya 1) (Nat.le_trans HL2.out (by decide)) (h'.out.e.below HRL.out.bel.drew (Nat.le_refl _)) (Nat.le_trans h'.out.e1 h'.out.e2)
      clear hya hyl
      go_wp2_with fail
      go_region_held3 (fun w' => w'.cell? ⟨w.heap.size + 1, 4, none⟩ = some (.slice b3 endsB.length d3) ∧ w'.cell? ⟨g, k * 3 + 1, none⟩ = some (.slice ya p.1.2.length yc)) (go_keep) (first | (go_at_call 49; refine KEY.out.mono ?_; rintro r wM ⟨rb, rd, rfl, -, om, b9⟩; have OM := Hid.of om; have GL : Hid (Below wL.heap.size wL wM) := ((Below.refl _ wL).drew).trans b9; have xx4 : wM.cell? ⟨w.heap.size + 1, 4, none⟩ = some (.slice b3 endsB.length d3) := (HRL.out.below GL.out).kb.cell 4 rfl; have cc1 := (GL.out.cell (p := ⟨g, k * 3 + 1, none⟩) HGL.out).trans CYL; clear b9 om))
      clear KEY xx4 cc1 x4 CYL
      have HRM := Hid.of (HRL.out.below GL.out)
      have CZM : wM.cell? ⟨g, k * 3 + 2, none⟩ = some (.slice za p.2.length zc) := (GL.out.cell (p := ⟨g, k * 3 + 2, none⟩) HGL.out).trans CZL.out
      have IZM := Hid.of (IZL.out.below GL.out HRL.out.hB)
      clear HRL GL HGL CZL IZL IYL
      have HOP : Hid (outP ⟨st, ev, starts, ars, ends⟩ ⟨sb, eb, startsB, arsB, endsB⟩ p = (decide (0 < xs.length) && decide (ys.length = 0))) := by show _ = _; unfold outP; rw [HXS.out, HYS.out]
      by_cases hx : 0 < xs.length
      · by_cases hy : ys.length = 0
        · have HT := Hid.of (find_hit HF.out HP.out (by rw [HOP.out]; simp [hx, hy]))
          have dy : ((ys.length : Int) == 0) = true := by rw [hy]; rfl
          clear hy
          obtain ⟨za', zc', hze, hza, hzl, -⟩ := IZM.out.at
          cases hze
          have HZA := Hid.of hza
          have HZL := Hid.of hzl
          clear hza hzl
          go_wp2_with fail
          exact bodyPost_ret (results_pairW (u := 4) (v := 5) rfl _ _ _) rfl (outPost_some HT.out HOW.out HZA.out HZL.out HRM.out.bel)
        · have HT := Hid.of (find_miss HF.out HP.out (by rw [HOP.out]; simp [hy]))
          have dy : ((ys.length : Int) == 0) = false := by rw [beq_eq_false_iff_ne]; omega
          clear hy CZM
          go_wp2_with fail
          go_roundw
          case rel => exact ⟨k + 1, by go_num, by omega, HRM, HT⟩
          case measure => simp [intOf]; omega
      · have HT := Hid.of (find_miss HF.out HP.out (by rw [HOP.out]; simp; omega))
        clear CZM
        go_wp2_with fail
        go_roundw
        case rel => exact ⟨k + 1, by go_num, by omega, HRM, HT⟩
        case measure => simp [intOf]; omega
    · have HN : Hid (O = none) := by show _ = _; rw [HF.out, List.drop_eq_nil_of_le (by omega)]; rfl
      go_wp2_with fail
      exact bodyPost_ret (results_pairW (u := 4) (v := 5) rfl _ _ _) rfl (outPost_none HN.out HOW.out HR.out.bel)

end Go.Proofs.YtkkkacmccndinaaDoor
namespace Go.Proofs.YtkkkacmccndinaaDoor
open Go.RowKit
set_option linter.unusedVariables false

set_option maxRecDepth 100000 in
set_option maxHeartbeats 8000000 in
theorem ltells_any (a b : Mach) (la lb : ML) (w : World) (hT : Hid (Tab w)) (h : Hid (MAt w a la)) (h' : Hid (MAt w b lb)) :
    Calls Tryd.prog 10 #[mval a la, mval b lb] w fun e w' => e = .returned (.bool true) ∧ Below w.heap.size w w' := by
  have B : Hid (Below w.heap.size w ((w.alloc (.cells (mcells a la) 25)).alloc (.cells (mcells b lb) 25))) := ((Below.refl _ _).alloc (Nat.le_refl _) _).alloc (by simp) _
  have KA : Hid (Blk ((w.alloc (.cells (mcells a la) 25)).alloc (.cells (mcells b lb) 25)) w.heap.size 25 (mcells a la)) := (Blk.new w _ _).alloc _
  have KB : Hid (Blk ((w.alloc (.cells (mcells a la) 25)).alloc (.cells (mcells b lb) 25)) (w.heap.size + 1) 25 (mcells b lb)) := by
    have := Blk.new (w.alloc (.cells (mcells a la) 25)) 25 (mcells b lb)
    rwa [World.size_alloc] at this
  go_enter Tryd.func10, Tryd.ntmps10
  go_wp2_with fail
  revert B KA KB
  generalize ((w.alloc (.cells (mcells a la) 25)).alloc (.cells (mcells b lb) 25)) = V0
  intro B KA KB
  refine (refMay_any a la _ (h.out.below B.out (Nat.le_refl _))).mono ?_
  rintro e W1 ⟨rfl, hb⟩
  replace B := Hid.of (B.out.trans (hb.mono B.out.size))
  replace KA := Hid.of (KA.out.below hb KA.out.lt)
  replace KB := Hid.of (KB.out.below hb KB.out.lt)
  clear hb
  cases hma : mayB a with
  | false =>
    go_wp2_with fail
    go_ret
    exact ⟨rfl, B.out⟩
  | true =>
    have HMA := Hid.of hma
    clear hma
    obtain ⟨y0, y1, y2, y3, y4⟩ := mcell_at KB.out
    go_wp2_with fail
    clear y0 y1 y2 y3 y4
    refine (refMay_any b lb _ (h'.out.below B.out (Nat.le_refl _))).mono ?_
    rintro e W2 ⟨rfl, hb⟩
    replace B := Hid.of (B.out.trans (hb.mono B.out.size))
    replace KA := Hid.of (KA.out.below hb KA.out.lt)
    replace KB := Hid.of (KB.out.below hb KB.out.lt)
    clear hb
    cases hmb : mayB b with
    | false =>
      go_wp2_with fail
      go_ret
      exact ⟨rfl, B.out⟩
    | true =>
      have HMB := Hid.of hmb
      clear hmb
      by_cases he : a.ev = b.ev
      · have de : (a.ev != b.ev) = false := by rw [he]; simp
        have HE := Hid.of he
        clear he
        by_cases za : a.st ≤ 6
        · have d1 : decide ((6 : Int) < a.st) = false := by simp; omega
          by_cases zb : b.st ≤ 6
          · have d2 : decide ((6 : Int) < b.st) = false := by simp; omega
            obtain ⟨x0, x1, x2, x3, x4⟩ := mcell_at KA.out
            obtain ⟨y0, y1, y2, y3, y4⟩ := mcell_at KB.out
            go_wp2_with fail
            clear x0 x1 x2 x3 x4 y0 y1 y2 y3 y4
            refine (pLeast_any a la _ (h.out.below B.out (Nat.le_refl _)) (hT.out.below B.out hT.out.lt)).mono ?_
            rintro e W3 ⟨M, L, c, ho, rfl, mt, hb⟩
            replace B := Hid.of (B.out.trans (hb.mono B.out.size))
            replace KA := Hid.of (KA.out.below hb KA.out.lt)
            replace KB := Hid.of (KB.out.below hb KB.out.lt)
            clear hb
            obtain ⟨e1, hl1⟩ := ho.ok HMA.out za
            subst e1
            have HL1 := Hid.of hl1
            have MT := Hid.of mt
            clear ho mt hl1
            have hb : Below W3.heap.size W3 (W3.alloc (.cells (mcells M L) 25)) := (Below.refl _ _).alloc (Nat.le_refl _) _
            replace B := Hid.of (B.out.trans (hb.mono B.out.size))
            replace KA := Hid.of (KA.out.below hb KA.out.lt)
            replace KB := Hid.of (KB.out.below hb KB.out.lt)
            replace MT := Hid.of (MT.out.below hb (Nat.le_refl _))
            clear hb
            have KM := Hid.of (Blk.new W3 25 (mcells M L))
            obtain ⟨y0, y1, y2, y3, y4⟩ := mcell_at KB.out
            go_wp2_with fail
            clear y0 y1 y2 y3 y4
            revert B KA KB MT KM
            show Hid (Below w.heap.size w (W3.alloc (.cells #[.int .i64 M.st, .int .i64 M.ev, .slice L.a1 M.starts.length L.c1, .slice L.a2 M.arrows.length L.c2, .slice L.a3 M.ends.length L.c3] 25))) → _
            generalize W3.alloc (.cells #[.int .i64 M.st, .int .i64 M.ev, .slice L.a1 M.starts.length L.c1, .slice L.a2 M.arrows.length L.c2, .slice L.a3 M.ends.length L.c3] 25) = W4
            generalize W3.heap.size = p1
            intro B KA KB MT KM
            refine (pLeast_any b lb _ (h'.out.below B.out (Nat.le_refl _)) (hT.out.below B.out hT.out.lt)).mono ?_
            rintro e W5 ⟨N, LN, c, ho, rfl, mt, hb⟩
            replace B := Hid.of (B.out.trans (hb.mono B.out.size))
            replace KA := Hid.of (KA.out.below hb KA.out.lt)
            replace KB := Hid.of (KB.out.below hb KB.out.lt)
            replace MT := Hid.of (MT.out.below hb (Nat.le_refl _))
            replace KM := Hid.of (KM.out.below hb KM.out.lt)
            clear hb
            obtain ⟨e1, hl1⟩ := ho.ok HMB.out zb
            subst e1
            have HL2 := Hid.of hl1
            have NT := Hid.of mt
            clear ho mt hl1
            have hb : Below W5.heap.size W5 (W5.alloc (.cells (mcells N LN) 25)) := (Below.refl _ _).alloc (Nat.le_refl _) _
            replace B := Hid.of (B.out.trans (hb.mono B.out.size))
            replace KA := Hid.of (KA.out.below hb KA.out.lt)
            replace KB := Hid.of (KB.out.below hb KB.out.lt)
            replace MT := Hid.of (MT.out.below hb (Nat.le_refl _))
            replace KM := Hid.of (KM.out.below hb KM.out.lt)
            replace NT := Hid.of (NT.out.below hb (Nat.le_refl _))
            clear hb
            have KN := Hid.of (Blk.new W5 25 (mcells N LN))
            obtain ⟨x0, x1, x2, x3, x4⟩ := mcell_at KA.out
            obtain ⟨y0, y1, y2, y3, y4⟩ := mcell_at KB.out
            go_wp2_with fail
            clear x0 x1 x2 x3 x4 y0 y1 y2 y3 y4
            revert B KA KB MT KM NT KN
            show Hid (Below w.heap.size w (W5.alloc (.cells #[.int .i64 N.st, .int .i64 N.ev, .slice LN.a1 N.starts.length LN.c1, .slice LN.a2 N.arrows.length LN.c2, .slice LN.a3 N.ends.length LN.c3] 25))) → _
            generalize W5.alloc (.cells #[.int .i64 N.st, .int .i64 N.ev, .slice LN.a1 N.starts.length LN.c1, .slice LN.a2 N.arrows.length LN.c2, .slice LN.a3 N.ends.length LN.c3] 25) = W6
            generalize W5.heap.size = p2
            intro B KA KB MT KM NT KN
            have HIF : Hid (sameM M N = ((outW a b).isNone && (outW b a).isNone)) := least_iff HMA.out HMB.out za zb HE.out HL1.out HL2.out
            refine (without_any a b la lb _ (Hid.of (h.out.below B.out (Nat.le_refl _))) (Hid.of (h'.out.below B.out (Nat.le_refl _))) HMA HMB (Hid.of za) (Hid.of zb)).mono ?_
            rintro e W7 ⟨va, vc, rfl, -, -, hb⟩
            replace B := Hid.of (B.out.trans (hb.mono B.out.size))
            replace KA := Hid.of (KA.out.below hb KA.out.lt)
            replace KB := Hid.of (KB.out.below hb KB.out.lt)
            replace MT := Hid.of (MT.out.below hb (Nat.le_refl _))
            replace KM := Hid.of (KM.out.below hb KM.out.lt)
            replace NT := Hid.of (NT.out.below hb (Nat.le_refl _))
            replace KN := Hid.of (KN.out.below hb KN.out.lt)
            clear hb
            obtain ⟨n1, HN1⟩ : ∃ n1, Hid (n1 = ((outW a b).getD []).length) := ⟨_, rfl⟩
            obtain ⟨s1, HS1⟩ : ∃ s1, Hid (s1 = (outW a b).isSome) := ⟨_, rfl⟩
            rw [← HN1.out, ← HS1.out]
            obtain ⟨x0, x1, x2, x3, x4⟩ := mcell_at KA.out
            obtain ⟨y0, y1, y2, y3, y4⟩ := mcell_at KB.out
            go_wp2_with fail
            clear x0 x1 x2 x3 x4 y0 y1 y2 y3 y4
            refine (without_any b a lb la _ (Hid.of (h'.out.below B.out (Nat.le_refl _))) (Hid.of (h.out.below B.out (Nat.le_refl _))) HMB HMA (Hid.of zb) (Hid.of za)).mono ?_
            rintro e W8 ⟨va2, vc2, rfl, -, -, hb⟩
            replace B := Hid.of (B.out.trans (hb.mono B.out.size))
            replace KA := Hid.of (KA.out.below hb KA.out.lt)
            replace KB := Hid.of (KB.out.below hb KB.out.lt)
            replace MT := Hid.of (MT.out.below hb (Nat.le_refl _))
            replace KM := Hid.of (KM.out.below hb KM.out.lt)
            replace NT := Hid.of (NT.out.below hb (Nat.le_refl _))
            replace KN := Hid.of (KN.out.below hb KN.out.lt)
            clear hb
            obtain ⟨n2, HN2⟩ : ∃ n2, Hid (n2 = ((outW b a).getD []).length) := ⟨_, rfl⟩
            obtain ⟨s2, HS2⟩ : ∃ s2, Hid (s2 = (outW b a).isSome) := ⟨_, rfl⟩
            rw [← HN2.out, ← HS2.out]
            obtain ⟨x0, x1, x2, x3, x4⟩ := mcell_at KM.out
            obtain ⟨y0, y1, y2, y3, y4⟩ := mcell_at KN.out
            go_wp2_with fail
            clear x0 x1 x2 x3 x4 y0 y1 y2 y3 y4
            refine (machines_any M N L LN _ MT.out NT.out).mono ?_
            rintro e W9 ⟨rfl, hb⟩
            replace B := Hid.of (B.out.trans (hb.mono B.out.size))
            replace KA := Hid.of (KA.out.below hb KA.out.lt)
            replace KB := Hid.of (KB.out.below hb KB.out.lt)
            replace MT := Hid.of (MT.out.below hb (Nat.le_refl _))
            replace KM := Hid.of (KM.out.below hb KM.out.lt)
            replace NT := Hid.of (NT.out.below hb (Nat.le_refl _))
            replace KN := Hid.of (KN.out.below hb KN.out.lt)
            clear hb
            have HF : Hid (sameM M N = (!s1 && !s2)) := by
              show _ = _
              rw [HIF.out, HS1.out, HS2.out]
              simp
            obtain ⟨sm, HSM⟩ : ∃ sm, Hid (sm = sameM M N) := ⟨_, rfl⟩
            rw [← HSM.out] at HF ⊢
            have hf := HF.out
            subst hf
            clear HF HSM HIF HS1 HS2 HN1 HN2
            cases s1 <;> cases s2
            all_goals
              go_wp2_with fail
              go_ret
              exact ⟨rfl, B.out⟩
          · have d2 : decide ((6 : Int) < b.st) = true := by simp; omega
            obtain ⟨x0, x1, x2, x3, x4⟩ := mcell_at KA.out
            obtain ⟨y0, y1, y2, y3, y4⟩ := mcell_at KB.out
            go_wp2_with fail
            clear x0 x1 x2 x3 x4 y0 y1 y2 y3 y4
            go_ret
            exact ⟨rfl, B.out⟩
        · have d1 : decide ((6 : Int) < a.st) = true := by simp; omega
          obtain ⟨x0, x1, x2, x3, x4⟩ := mcell_at KA.out
          obtain ⟨y0, y1, y2, y3, y4⟩ := mcell_at KB.out
          go_wp2_with fail
          clear x0 x1 x2 x3 x4 y0 y1 y2 y3 y4
          go_ret
          exact ⟨rfl, B.out⟩
      · have de : (a.ev != b.ev) = true := by simp [he]
        obtain ⟨x0, x1, x2, x3, x4⟩ := mcell_at KA.out
        obtain ⟨y0, y1, y2, y3, y4⟩ := mcell_at KB.out
        go_wp2_with fail
        clear x0 x1 x2 x3 x4 y0 y1 y2 y3 y4
        go_ret
        exact ⟨rfl, B.out⟩

end Go.Proofs.YtkkkacmccndinaaDoor
