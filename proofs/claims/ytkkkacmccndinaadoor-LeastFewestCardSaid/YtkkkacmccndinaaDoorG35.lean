/-
  The walk of jalousieref1.Only: the numbers of a list that are (or are not) in another one.
  The walks of jalousieref7.Without and jalousieref7.Within.
  The walk of jalousielaw.rows: are two lists of lists one?
  The walk of determine.Is.
  The walks of jalousieref6.Find and jalousieref6.Is.
-/
import Derived.Test.YtkkkacmccndinaaDoorG04
import Derived.Test.YtkkkacmccndinaaDoorG16
import Derived.Test.YtkkkacmccndinaaDoorG34
import Derived.Test.YtkkkacmccndinaaDoorCRefMay
import Derived.Test.YtkkkacmccndinaaDoorG05
import Derived.Test.YtkkkacmccndinaaDoorG27
import Derived.Test.YtkkkacmccndinaaDoorG14
import Derived.Test.YtkkkacmccndinaaDoorG07
import Derived.Test.YtkkkacmccndinaaDoorG08
import Derived.Test.YtkkkacmccndinaaDoorG19
namespace Go.Proofs.YtkkkacmccndinaaDoor
open Go.RowKit
set_option linter.unusedVariables false

/-- Of the first k numbers those that are (b = true) or are not in ys. -/
def onlyTo (xs ys : List Int) (b : Bool) (k : Nat) : List Int := (xs.take k).filter (fun n => hasB ys n == b)

theorem onlyTo_len (xs ys : List Int) (b : Bool) (k : Nat) : (onlyTo xs ys b k).length ≤ k := Nat.le_trans (List.length_filter_le _ _) (List.length_take_le _ _)
theorem onlyTo_all {xs : List Int} (ys : List Int) (b : Bool) {k : Nat} (h : ¬ k < xs.length) : onlyTo xs ys b k = xs.filter (fun n => hasB ys n == b) := by
  rw [onlyTo, List.take_of_length_le (by omega)]
theorem onlyTo_hit {xs ys : List Int} {b : Bool} {k : Nat} {x : Int} (h : k < xs.length) (hx : Hid (x = xs[k]?.getD 0)) (hb : hasB ys x = b) : onlyTo xs ys b (k + 1) = onlyTo xs ys b k ++ [x] := by
  have hx := hx.out
  rw [List.getElem?_eq_getElem h] at hx
  simp only [Option.getD_some] at hx
  rw [onlyTo, onlyTo, List.take_add_one, List.getElem?_eq_getElem h, List.filter_append]
  simp [← hx, hb]
theorem onlyTo_miss {xs ys : List Int} {b : Bool} {k : Nat} {x : Int} (h : k < xs.length) (hx : Hid (x = xs[k]?.getD 0)) (hb : ¬ hasB ys x = b) : onlyTo xs ys b (k + 1) = onlyTo xs ys b k := by
  have hx := hx.out
  rw [List.getElem?_eq_getElem h] at hx
  simp only [Option.getD_some] at hx
  rw [onlyTo, onlyTo, List.take_add_one, List.getElem?_eq_getElem h, List.filter_append]
  simp [← hx, hb]

set_option maxHeartbeats 1600000 in
set_option maxRecDepth 100000 in
theorem only_some (bx ox cx cy : Nat) (ay : Option Addr) (xs ys : List Int) (bb : Bool) (w : World) (hl : xs.length ≤ 17592186044416) (hbx : bx < w.heap.size) (hc : Cells w bx ox xs) (ht : At w ay ys) (hm : ys.length ≤ maxLen) :
    Calls Tryd.prog 49 #[.slice (some ⟨bx, ox, none⟩) xs.length cx, .slice ay ys.length cy, .bool bb] w fun e w' => ∃ v, e = .returned v ∧ Own w' w.heap.size v (xs.filter (fun n => hasB ys n == bb)) ∧ Below w.heap.size w w' := by
  obtain ⟨i0, hi, hz0, hz1, hz2⟩ := info_parts Tryd.infoInt
  go_enter Tryd.func49, Tryd.ntmps49
  go_wp2
  go_loopw [7, 8] (fun v i wr => ∃ k : Nat, k ≤ xs.length ∧ i = .int .i64 k ∧ Own wr w.heap.size v (onlyTo xs ys bb k) ∧ Below w.heap.size w wr) (fun _ i _ => xs.length - (intOf i).toNat)
  case atStart => exact ⟨0, Nat.zero_le _, rfl, own_nil _ _, Below.refl _ _⟩
  case round =>
    obtain ⟨k, hk, rfl, hown, hbel⟩ := hrel
    by_cases hlt : k < xs.length
    · obtain ⟨x, HX, hcx0⟩ := hc.at hlt
      have hcx : wr.cell? ⟨bx, ox + k, none⟩ = some (.int .i64 x) := (hbel.cell (p := ⟨bx, ox + k, none⟩) hbx).trans hcx0
      clear hcx0
      have htr : At wr ay ys := ht.below hbel (Nat.le_refl _)
      have hsz := hbel.size
      have hll := onlyTo_len xs ys bb k
      go_wp2_with fail
      refine (refHas_any ay cy ys x _ htr hm).mono ?_
      rintro e w' ⟨rfl, rfl⟩
      by_cases hh : hasB ys x = bb
      · have HH : Hid (hasB ys x = bb) := hh
        have d : (hasB ys x == bb) = true := by simp [hh]
        clear hh
        go_wp2_with (at_builtin; refine wpList_append_own _ rfl _ _ 22 rfl w.heap.size 3 i0 (.int .i64 0) 1 8 Tryd.underlying22 hi hz0 hz1 hz2 rfl (by decide) _ _ _ rfl (World.ownsRow.alloc hown _) ⟨w'.heap.size, 0, none⟩ 1 1 [.int .i64 x] rfl rfl (cell_one_new _ _ _) (by intro u hu; simp at hu; subst hu; rfl) (by unfold maxLen; omega) (by omega) (by simp; omega) ?_)
        intro v' w1 hown' hgrow _
        obtain ⟨r1, r2, -⟩ := own_snoc hown hbel hsz hown' hgrow
        rw [← onlyTo_hit hlt HX HH.out] at r1
        clear hown' hgrow hown hcx htr
        go_wp2
        go_roundw
        case rel => exact ⟨k + 1, by omega, by go_num, r1, r2⟩
        case measure => simp [intOf]; omega
      · have d : (hasB ys x == bb) = false := by simp [hh]
        have r1 := hown
        rw [← onlyTo_miss hlt HX hh] at r1
        go_wp2
        go_roundw
        case rel => exact ⟨k + 1, by omega, by go_num, r1, hbel⟩
        case measure => simp [intOf]; omega
    · rw [onlyTo_all ys bb hlt] at hown
      go_wp2
      go_ret
      exact ⟨_, rfl, hown, hbel⟩

set_option maxHeartbeats 400000 in
theorem only_nil (a ay : Option Addr) (cx cy : Nat) (ys : List Int) (bb : Bool) (w : World) :
    Calls Tryd.prog 49 #[.slice a 0 cx, .slice ay ys.length cy, .bool bb] w fun e w' => e = .returned (.slice none 0 0) ∧ w' = w := by
  go_enter Tryd.func49, Tryd.ntmps49
  go_wp2
  refine wp_loop_rounds 1 ?_
  rw [rounds_succ]
  go_wp2
  go_ret
  exact ⟨rfl, rfl⟩

theorem only_any (a ay : Option Addr) (cx cy : Nat) (xs ys : List Int) (bb : Bool) (w : World) (hs : At w a xs) (hl : xs.length ≤ 17592186044416) (ht : At w ay ys) (hm : ys.length ≤ maxLen) :
    Calls Tryd.prog 49 #[.slice a xs.length cx, .slice ay ys.length cy, .bool bb] w fun e w' => Gives w (xs.filter (fun n => hasB ys n == bb)) e w' := by
  rcases hs with rfl | ⟨b, off, rfl, hb, hc⟩
  · refine (only_nil a ay cx cy ys bb w).mono ?_
    rintro e w' ⟨rfl, rfl⟩
    exact gives_of_own (B := w'.heap.size) (own_nil _ _) (Below.refl _ _)
  · refine (only_some b off cx cy ay xs ys bb w hl hb hc ht hm).mono ?_
    rintro e w' ⟨v, rfl, h1, h2⟩
    exact gives_of_own h1 h2

end Go.Proofs.YtkkkacmccndinaaDoor
namespace Go.Proofs.YtkkkacmccndinaaDoor
open Go.RowKit
set_option linter.unusedVariables false

theorem plcs_any (a b : Mach) (la lb : ML) (w : World) (h : MAt w a la) (h' : MAt w b lb) (hm : mayB a = true) (hm' : mayB b = true) (z1 : a.st ≤ 6) (z2 : b.st ≤ 6) :
    Calls Tryd.prog 78 #[mval a la, mval b lb] w fun e w' => PlcPost w (plcAll a b) e w' := by
  have hz := mayB_size hm
  have hzB := mayB_size hm'
  obtain ⟨st, ev, starts, ars, ends⟩ := a
  obtain ⟨sb, eb, startsB, arsB, endsB⟩ := b
  obtain ⟨a1, c1, a2, c2, a3, c3⟩ := la
  obtain ⟨b1, d1, b2, d2, b3, d3⟩ := lb
  unfold sizeOk at hz hzB
  dsimp only at hz hzB z1 z2
  obtain ⟨s, rfl⟩ : ∃ s : Nat, st = (s : Int) := ⟨st.toNat, by omega⟩
  obtain ⟨v, rfl⟩ : ∃ v : Nat, ev = (v : Int) := ⟨ev.toNat, by omega⟩
  obtain ⟨s', rfl⟩ : ∃ s : Nat, sb = (s : Int) := ⟨sb.toNat, by omega⟩
  obtain ⟨v', rfl⟩ : ∃ v : Nat, eb = (v : Int) := ⟨eb.toNat, by omega⟩
  exact places_ok s v s' v' starts startsB ars arsB ends endsB a1 c1 a2 c2 a3 c3 b1 d1 b2 d2 b3 d3 w (Hid.of h) (Hid.of h') (Hid.of hm) (Hid.of hm') (show _ ≤ _ by omega) (show _ ≤ _ by omega)

theorem results_pairW {fn : Func} {u v : Tmp} (h : fn.results = #[.tmp u, .tmp v]) (tmps : Array Value) (P : Program) (w : World) : (results fn tmps).run P w = .ok (.tuple #[tmps.getD u undef, tmps.getD v undef]) w := by
  simp [results, h]
theorem results_trioW {fn : Func} {u v x : Tmp} (h : fn.results = #[.tmp u, .tmp v, .tmp x]) (tmps : Array Value) (P : Program) (w : World) : (results fn tmps).run P w = .ok (.tuple #[tmps.getD u undef, tmps.getD v undef, tmps.getD x undef]) w := by
  simp [results, h]
/-- What Without knows of the memory. -/
structure WO (w W : World) (a b : Mach) (la lb : ML) (v : Value) (L : List Plc) : Prop where
  bel : Below w.heap.size w W
  ka : Blk W w.heap.size 25 (mcells a la)
  kb : Blk W (w.heap.size + 1) 25 (mcells b lb)
  ow : OwnPl (w.heap.size + 2) W (w.heap.size + 4) v L
  hB : w.heap.size + 2 ≤ W.heap.size
theorem WO.below {w W W' : World} {a b : Mach} {la lb : ML} {v : Value} {L : List Plc} (h : WO w W a b la lb v L) (hb : Below W.heap.size W W') : WO w W' a b la lb v L :=
  ⟨h.bel.trans (hb.mono h.bel.size), h.ka.below hb h.ka.lt, h.kb.below hb h.kb.lt, h.ow.below hb h.hB, Nat.le_trans h.hB hb.size⟩
theorem plc_lens {a b : Mach} (ha : mayB a = true) (hb : mayB b = true) (za : a.st ≤ 6) (zb : b.st ≤ 6) {ev k n : Nat} {l : List Plc} (h : BI (bothD a.arrows b.arrows) (a.starts, b.starts) ev k n l) {p : Plc} (hp : p ∈ l) : p.1.1.length ≤ 4096 ∧ p.1.2.length ≤ 4096 := by
  obtain ⟨e1, e2⟩ := h.run p hp
  rw [bothD_run _ _ _ _ _ (fun e he => (e2 e he).1)] at e1
  have i1 := afterIn ha p.2 _ (may_starts ha)
  have i2 := afterIn hb p.2 _ (may_starts hb)
  rw [e1]
  have l1 := nodup_len 6 _ (inc_nodup i1.1) (fun x hx => by have := i1.2 x hx; omega)
  have l2 := nodup_len 6 _ (inc_nodup i2.1) (fun x hx => by have := i2.2 x hx; omega)
  dsimp only
  omega
/-- What Without leaves. -/
def OutPost (w : World) (o : Option (List Int)) (e : Ending) (w' : World) : Prop := ∃ va vc, e = .returned (.tuple #[.slice va (o.getD []).length vc, .bool o.isSome]) ∧ At w' va (o.getD []) ∧ (o.getD []).length ≤ maxLen ∧ Below w.heap.size w w'
theorem find_hit {α : Type} {f : α → Bool} {L : List α} {k : Nat} {p : α} {o : Option α} (h : o = (L.drop k).find? f) (hp : L[k]? = some p) (ht : f p = true) : o = some p := by
  rw [h, List.drop_eq_getElem_cons (List.getElem?_eq_some_iff.1 hp).1, (List.getElem?_eq_some_iff.1 hp).2, List.find?_cons_of_pos ht]
theorem find_miss {α : Type} {f : α → Bool} {L : List α} {k : Nat} {p : α} {o : Option α} (h : o = (L.drop k).find? f) (hp : L[k]? = some p) (ht : f p = false) : o = (L.drop (k + 1)).find? f := by
  rw [h, List.drop_eq_getElem_cons (List.getElem?_eq_some_iff.1 hp).1, (List.getElem?_eq_some_iff.1 hp).2, List.find?_cons_of_neg (by rw [ht]; simp)]
theorem outPost_none {w w' : World} {a b : Mach} {o : Option Plc} (h : o = none) (he : outW a b = o.map (·.2)) (hb : Below w.heap.size w w') : OutPost w (outW a b) (.returned (.tuple #[.slice none 0 0, .bool false])) w' := by
  rw [he, h]; exact ⟨none, 0, rfl, .inl rfl, Nat.zero_le _, hb⟩
theorem outPost_some {w w' : World} {a b : Mach} {o : Option Plc} {p : Plc} {va : Option Addr} {vc : Nat} (h : o = some p) (he : outW a b = o.map (·.2)) (hv : At w' va p.2) (hl : p.2.length ≤ maxLen) (hb : Below w.heap.size w w') : OutPost w (outW a b) (.returned (.tuple #[.slice va p.2.length vc, .bool true])) w' := by
  rw [he, h]; exact ⟨va, vc, rfl, hv, hl, hb⟩

set_option maxRecDepth 100000 in
set_option maxHeartbeats 8000000 in
theorem without_any (a b : Mach) (la lb : ML) (w : World) (h : Hid (MAt w a la)) (h' : Hid (MAt w b lb)) (hm : Hid (mayB a = true)) (hm' : Hid (mayB b = true)) (z1 : Hid (a.st ≤ 6)) (z2 : Hid (b.st ≤ 6)) :
    Calls Tryd.prog 39 #[mval a la, mval b lb] w fun e w' => OutPost w (outW a b) e w' := by
  have B0 : Hid (Below w.heap.size w ((w.alloc (.cells (mcells a la) 25)).alloc (.cells (mcells b lb) 25))) := ((Below.refl _ _).alloc (Nat.le_refl _) _).alloc (by simp) _
  have KA0 : Hid (Blk ((w.alloc (.cells (mcells a la) 25)).alloc (.cells (mcells b lb) 25)) w.heap.size 25 (mcells a la)) := (Blk.new w _ _).alloc _
  have KB0 : Hid (Blk ((w.alloc (.cells (mcells a la) 25)).alloc (.cells (mcells b lb) 25)) (w.heap.size + 1) 25 (mcells b lb)) := by
    have := Blk.new (w.alloc (.cells (mcells a la) 25)) 25 (mcells b lb)
    rwa [World.size_alloc] at this
  have HZ0 : Hid (((w.alloc (.cells (mcells a la) 25)).alloc (.cells (mcells b lb) 25)).heap.size = w.heap.size + 2) := by show _ = _; simp
  go_enter Tryd.func39, Tryd.ntmps39
  go_wp2_with fail
  refine (plcs_any a b la lb _ (h.out.below B0.out (Nat.le_refl _)) (h'.out.below B0.out (Nat.le_refl _)) hm.out hm'.out z1.out z2.out).mono ?_
  rintro r V ⟨v, rfl, ow, bV⟩
  rw [HZ0.out] at ow
  have HI := Hid.of (plc_all hm.out hm'.out z1.out z2.out)
  have HF0 : Hid ((plcAll a b).find? (outP a b) = ((plcAll a b).drop 0).find? (outP a b)) := by show _ = _; rw [List.drop_zero]
  have HOW : Hid (outW a b = ((plcAll a b).find? (outP a b)).map (·.2)) := rfl
  have HBD := Hid.of (plc_bound hm.out hm'.out z1.out z2.out HI.out)
  have HX : Hid (WO w V a b la lb v (plcAll a b)) := ⟨B0.out.trans (bV.mono B0.out.size), KA0.out.below bV KA0.out.lt, KB0.out.below bV KB0.out.lt, ow, Nat.le_trans (Nat.le_of_eq HZ0.out.symm) bV.size⟩
  have HPOS : Hid (0 < (plcAll a b).length) := (List.getElem?_eq_some_iff.1 HI.out.hd).1
  have HIN : Hid (∀ p ∈ plcAll a b, p.1.1.length ≤ 4096 ∧ p.1.2.length ≤ 4096) := fun p hp => plc_lens hm.out hm'.out z1.out z2.out HI.out hp
  clear ow bV HZ0 B0 KA0 KB0
  revert HI HF0 HOW HBD HX HPOS HIN
  generalize plcAll a b = L
  intro HI HF0 HOW HBD HX HPOS HIN
  have hbd := HBD.out
  obtain ⟨g, cap, hv, -, -, -, -⟩ := HX.out.ow.cellsP HPOS.out
  subst hv
  obtain ⟨O, HO⟩ : ∃ O, Hid (O = L.find? (outP a b)) := ⟨_, rfl⟩
  rw [← HO.out] at HF0 HOW
  obtain ⟨st, ev, starts, ars, ends⟩ := a
  obtain ⟨sb, eb, startsB, arsB, endsB⟩ := b
  obtain ⟨a1, c1, a2, c2, a3, c3⟩ := la
  obtain ⟨b1, d1, b2, d2, b3, d3⟩ := lb
  go_wp2_with fail
  go_loopw [7] (fun i wr => ∃ (k : Nat), i = .int .i64 k ∧ k ≤ L.length ∧ Hid (WO w wr ⟨st, ev, starts, ars, ends⟩ ⟨sb, eb, startsB, arsB, endsB⟩ ⟨a1, c1, a2, c2, a3, c3⟩ ⟨b1, d1, b2, d2, b3, d3⟩ (.slice (some ⟨g, 0, none⟩) L.length cap) L) ∧ Hid (O = (L.drop k).find? (outP ⟨st, ev, starts, ars, ends⟩ ⟨sb, eb, startsB, arsB, endsB⟩))) (fun i _ => L.length - (intOf i).toNat)
  case atStart => exact ⟨0, rfl, Nat.zero_le _, HX, HF0⟩
  case round =>
    clear HX HF0
    obtain ⟨k, rfl, hk, HR, HF⟩ := hrel
    by_cases hlt : k < L.length
    · obtain ⟨p, HP⟩ : ∃ p, Hid (L[k]? = some p) := ⟨_, List.getElem?_eq_getElem hlt⟩
      obtain ⟨g', cap', hv, hg, hgs, -, hcc⟩ := HR.out.ow.cells HPOS.out
      cases hv
      obtain ⟨xv, yv, zv, cx, cy, cz, ix, iy, iz⟩ := hcc k p HP.out
      obtain ⟨xa, xc, rfl, hxa, hxl, -⟩ := ix.at
      obtain ⟨ya, yc, rfl, hya, hyl, -⟩ := iy.at
      obtain ⟨za, zc, rfl, hza, hzl, -⟩ := iz.at
      rw [Nat.zero_add] at cx cy cz
      have IZ := Hid.of iz
      have IY := Hid.of iy
      have HG := Hid.of hgs
      have CY := Hid.of cy
      have CZ := Hid.of cz
      have HL1 := Hid.of (HIN.out p (List.mem_of_getElem? HP.out)).1
      have HL2 := Hid.of (HIN.out p (List.mem_of_getElem? HP.out)).2
      obtain ⟨x0, x1, x2, x3, x4⟩ := mcell_at HR.out.ka
      dsimp only at x0 x1 x2 x3 x4
      obtain ⟨xs, HXS⟩ : ∃ xs, Hid (xs = p.1.1.filter (fun n => hasB ends n == true)) := ⟨_, rfl⟩
      have KEY : Hid (Calls Tryd.prog 49 #[.slice xa p.1.1.length xc, .slice a3 ends.length c3, .bool true] wr.drew fun r w' => Gives wr.drew xs r w') := by
        rw [HXS.out]; exact only_any xa a3 xc c3 p.1.1 ends true wr.drew (At.drewN hxa 1) (Nat.le_trans HL1.out (by decide)) (h.out.e.below HR.out.bel.drew (Nat.le_refl _)) (Nat.le_trans h.out.e1 h.out.e2)
      clear hcc ix iy iz hxa hxl hya hyl hza hzl hg hgs cy cz x0 x1 x2 x3
      go_wp2_with fail
      go_region_held3 (fun w' => w'.cell? ⟨w.heap.size, 4, none⟩ = some (.slice a3 ends.length c3) ∧ w'.cell? ⟨g, k * 3, none⟩ = some (.slice xa p.1.1.length xc)) (go_keep) (first | (go_at_call 49; refine KEY.out.mono ?_; rintro r wL ⟨ra, rc, rfl, -, ol, b8⟩; have OL := Hid.of ol; have GL : Hid (Below wr.heap.size wr wL) := ((Below.refl _ wr).drew).trans b8; have xx4 : wL.cell? ⟨w.heap.size, 4, none⟩ = some (.slice a3 ends.length c3) := (HR.out.below GL.out).ka.cell 4 rfl; have cc1 := (GL.out.cell (p := ⟨g, k * 3, none⟩) HG.out).trans cx; clear b8 ol))
      clear KEY xx4 cc1 x4 cx
      have HRL := Hid.of (HR.out.below GL.out)
      have CYL : wL.cell? ⟨g, k * 3 + 1, none⟩ = some (.slice ya p.1.2.length yc) := (GL.out.cell (p := ⟨g, k * 3 + 1, none⟩) HG.out).trans CY.out
      have CZL : Hid (wL.cell? ⟨g, k * 3 + 2, none⟩ = some (.slice za p.2.length zc)) := (GL.out.cell (p := ⟨g, k * 3 + 2, none⟩) HG.out).trans CZ.out
      have IZL := Hid.of (IZ.out.below GL.out HR.out.hB)
      have IYL := Hid.of (IY.out.below GL.out HR.out.hB)
      have HGL : Hid (g < wL.heap.size) := Nat.lt_of_lt_of_le HG.out GL.out.size
      clear HR GL HG CY CZ IZ IY
      have x4 : wL.cell? ⟨w.heap.size + 1, 4, none⟩ = some (.slice b3 endsB.length d3) := HRL.out.kb.cell 4 rfl
      obtain ⟨ya', yc', hye, hya, hyl, -⟩ := IYL.out.at
      cases hye
      obtain ⟨ys, HYS⟩ : ∃ ys, Hid (ys = p.1.2.filter (fun n => hasB endsB n == true)) := ⟨_, rfl⟩
      have KEY : Hid (Calls Tryd.prog 49 #[.slice ya p.1.2.length yc, .slice b3 endsB.length d3, .bool true] wL.drew fun r w' => Gives wL.drew ys r w') := by
        rw [HYS.out]; exact only_any ya b3 yc d3 p.1.2 endsB true wL.drew (At.drewN hya 1) (Nat.le_trans HL2.out (by decide)) (h'.out.e.below HRL.out.bel.drew (Nat.le_refl _)) (Nat.le_trans h'.out.e1 h'.out.e2)
      clear hya hyl
      go_wp2_with fail
      go_region_held3 (fun w' => w'.cell? ⟨w.heap.size + 1, 4, none⟩ = some (.slice b3 endsB.length d3) ∧ w'.cell? ⟨g, k * 3 + 1, none⟩ = some (.slice ya p.1.2.length yc)) (go_keep) (first | (go_at_call 49; refine KEY.out.mono ?_; rintro r wM ⟨rb, rd, rfl, -, om, b9⟩; have OM := Hid.of om; have GL : Hid (Below wL.heap.size wL wM) := ((Below.refl _ wL).drew).trans b9; have xx4 : wM.cell? ⟨w.heap.size + 1, 4, none⟩ = some (.slice b3 endsB.length d3) := (HRL.out.below GL.out).kb.cell 4 rfl; have cc1 := (GL.out.cell (p := ⟨g, k * 3 + 1, none⟩) HGL.out).trans CYL; clear b9 om))
      clear KEY xx4 cc1 x4 CYL
      have HRM := Hid.of (HRL.out.below GL.out)
      have CZM : wM.cell? ⟨g, k * 3 + 2, none⟩ = some (.slice za p.2.length zc) := (GL.out.cell (p := ⟨g, k * 3 + 2, none⟩) HGL.out).trans CZL.out
      have IZM := Hid.of (IZL.out.below GL.out HRL.out.hB)
      clear HRL GL HGL CZL IZL IYL
      have HOP : Hid (outP ⟨st, ev, starts, ars, ends⟩ ⟨sb, eb, startsB, arsB, endsB⟩ p = (decide (0 < xs.length) && decide (ys.length = 0))) := by show _ = _; unfold outP; rw [HXS.out, HYS.out]
      by_cases hx : 0 < xs.length
      · by_cases hy : ys.length = 0
        · have HT := Hid.of (find_hit HF.out HP.out (by rw [HOP.out]; simp [hx, hy]))
          have dy : ((ys.length : Int) == 0) = true := by rw [hy]; rfl
          clear hy
          obtain ⟨za', zc', hze, hza, hzl, -⟩ := IZM.out.at
          cases hze
          have HZA := Hid.of hza
          have HZL := Hid.of hzl
          clear hza hzl
          go_wp2_with fail
          exact bodyPost_ret (results_pairW (u := 4) (v := 5) rfl _ _ _) rfl (outPost_some HT.out HOW.out HZA.out HZL.out HRM.out.bel)
        · have HT := Hid.of (find_miss HF.out HP.out (by rw [HOP.out]; simp [hy]))
          have dy : ((ys.length : Int) == 0) = false := by rw [beq_eq_false_iff_ne]; omega
          clear hy CZM
          go_wp2_with fail
          go_roundw
          case rel => exact ⟨k + 1, by go_num, by omega, HRM, HT⟩
          case measure => simp [intOf]; omega
      · have HT := Hid.of (find_miss HF.out HP.out (by rw [HOP.out]; simp; omega))
        clear CZM
        go_wp2_with fail
        go_roundw
        case rel => exact ⟨k + 1, by go_num, by omega, HRM, HT⟩
        case measure => simp [intOf]; omega
    · have HN : Hid (O = none) := by show _ = _; rw [HF.out, List.drop_eq_nil_of_le (by omega)]; rfl
      go_wp2_with fail
      exact bodyPost_ret (results_pairW (u := 4) (v := 5) rfl _ _ _) rfl (outPost_none HN.out HOW.out HR.out.bel)

end Go.Proofs.YtkkkacmccndinaaDoor
namespace Go.Proofs.YtkkkacmccndinaaDoor
open Go.RowKit
set_option linter.unusedVariables false

/-- Are two lists of lists one? -/
def sameL : List (List Int) → List (List Int) → Bool
  | [], [] => true
  | x :: r, y :: s => if sameB x y = true then sameL r s else false
  | _, _ => false
theorem sameL_iff : ∀ (p q : List (List Int)), sameL p q = true ↔ p = q
  | [], [] => by simp [sameL]
  | [], _ :: _ => by simp [sameL]
  | _ :: _, [] => by simp [sameL]
  | x :: r, y :: s => by
    unfold sameL
    by_cases h : sameB x y = true
    · rw [if_pos h, sameL_iff r s]
      have : x = y := by simpa [sameB] using h
      simp [this]
    · rw [if_neg h]
      have : ¬ x = y := fun e => h (by simp [sameB, e])
      simp [this]
theorem sameL_len {p q : List (List Int)} (h : ¬ p.length = q.length) : false = sameL p q := by
  cases e : sameL p q with
  | false => rfl
  | true => exact absurd (by rw [(sameL_iff p q).1 e]) h
theorem dropL {p : List (List Int)} {k : Nat} {x : List Int} (h : p[k]? = some x) : p.drop k = x :: p.drop (k + 1) := by
  obtain ⟨h1, h2⟩ := List.getElem?_eq_some_iff.1 h
  rw [List.drop_eq_getElem_cons h1, h2]
theorem sameL_no {k : Nat} {p q : List (List Int)} {x y : List Int} {t : Bool} (hx : Hid (p[k]? = some x)) (hy : Hid (q[k]? = some y)) (e : Hid (t = sameL (p.drop k) (q.drop k))) (hn : Hid (sameB x y = false)) : false = t := by
  rw [e.out, dropL hx.out, dropL hy.out, sameL, if_neg (by rw [hn.out]; simp)]
theorem sameL_yes {k : Nat} {p q : List (List Int)} {x y : List Int} {t : Bool} (hx : Hid (p[k]? = some x)) (hy : Hid (q[k]? = some y)) (e : Hid (t = sameL (p.drop k) (q.drop k))) (hn : Hid (sameB x y = true)) : Hid (t = sameL (p.drop (k + 1)) (q.drop (k + 1))) := by
  show t = _
  rw [e.out, dropL hx.out, dropL hy.out, sameL, if_pos hn.out]
theorem sameL_end {k : Nat} {p q : List (List Int)} {t : Bool} (h : ¬ k < p.length) (hl : p.length = q.length) (e : Hid (t = sameL (p.drop k) (q.drop k))) : true = t := by
  rw [e.out, List.drop_eq_nil_of_le (by omega), List.drop_eq_nil_of_le (by omega)]; rfl

set_option maxHeartbeats 400000 in
theorem rows_ne (a b : Option Addr) (ca cb : Nat) (xs ys : List (List Int)) (w : World) (hne : ¬ xs.length = ys.length) (hl : xs.length ≤ 9223372036854775807) (hm : ys.length ≤ 9223372036854775807) :
    Calls Tryd.prog 33 #[.slice a xs.length ca, .slice b ys.length cb] w fun e w' => e = .returned (.bool (sameL xs ys)) ∧ ∃ q, w' = w.drewN q := by
  have hb : ((xs.length : Int) != (ys.length : Int)) = true := by rw [bne_iff_ne]; omega
  go_enter Tryd.func33, Tryd.ntmps33
  go_wp2
  go_ret
  exact ⟨ret_bool (sameL_len hne), 0, rfl⟩

/-- What a slice of slices has in a place. -/
def CellsL (w : World) (b off : Nat) (LL : List (List Int)) : Prop := ∀ (k : Nat) (xs : List Int), LL[k]? = some xs → ∃ a' c', w.cell? ⟨b, off + k, none⟩ = some (.slice a' xs.length c') ∧ At w a' xs ∧ xs.length ≤ maxLen

set_option maxHeartbeats 2000000 in
theorem rows_eq (ba oa ca bb ob cb : Nat) (xs ys : List (List Int)) (w : World) (hlen : Hid (xs.length = ys.length)) (hl : xs.length ≤ 9223372036854775807) (hca : Hid (CellsL w ba oa xs)) (hcb : Hid (CellsL w bb ob ys)) :
    Calls Tryd.prog 33 #[.slice (some ⟨ba, oa, none⟩) xs.length ca, .slice (some ⟨bb, ob, none⟩) ys.length cb] w fun e w' => e = .returned (.bool (sameL xs ys)) ∧ ∃ q, w' = w.drewN q := by
  have hm : ys.length ≤ 9223372036854775807 := by have := hlen.out; omega
  have hb : ((xs.length : Int) != (ys.length : Int)) = false := by have := hlen.out; simp; omega
  go_enter Tryd.func33, Tryd.ntmps33
  go_wp2
  go_loopw [5] (fun i wr => ∃ k q : Nat, k ≤ xs.length ∧ i = .int .i64 k ∧ wr = w.drewN q ∧ Hid (sameL xs ys = sameL (xs.drop k) (ys.drop k))) (fun i _ => xs.length - (intOf i).toNat)
  case atStart => exact ⟨0, 0, Nat.zero_le _, rfl, rfl, by show _ = _; simp⟩
  case round =>
    obtain ⟨k, q, hk, rfl, rfl, he⟩ := hrel
    by_cases hlt : k < xs.length
    · have hlt2 : k < ys.length := by have := hlen.out; omega
      obtain ⟨x, HX⟩ : ∃ x, Hid (xs[k]? = some x) := ⟨_, List.getElem?_eq_getElem hlt⟩
      obtain ⟨y, HY⟩ : ∃ y, Hid (ys[k]? = some y) := ⟨_, List.getElem?_eq_getElem hlt2⟩
      obtain ⟨xa, xc, cx, ax, lx⟩ := hca.out k x HX.out
      obtain ⟨ya, yc, cy, ay, ly⟩ := hcb.out k y HY.out
      obtain ⟨V, HV⟩ : ∃ V, Hid (V = w.drewN q) := ⟨_, rfl⟩
      replace cx : V.cell? ⟨ba, oa + k, none⟩ = some (.slice xa x.length xc) := by rw [HV.out]; exact cx
      replace cy : V.cell? ⟨bb, ob + k, none⟩ = some (.slice ya y.length yc) := by rw [HV.out]; exact cy
      replace ax : At V xa x := by rw [HV.out]; exact At.drewN ax q
      replace ay : At V ya y := by rw [HV.out]; exact At.drewN ay q
      rw [← HV.out]
      have KEY : Hid (∀ n, Calls Tryd.prog 20 #[.slice xa x.length xc, .slice ya y.length yc] (V.drewN n) fun e w' => e = .returned (.bool (sameB x y)) ∧ ∃ r, w' = (V.drewN n).drewN r) := fun n => same_any xa ya xc yc x y _ (At.drewN ax n) (At.drewN ay n) lx ly
      clear ax ay lx ly
      by_cases hxy : sameB x y = true
      · have HXY : Hid (sameB x y = true) := hxy
        rw [hxy] at KEY
        clear hxy
        go_wp2_with fail
        go_quiet (first | (go_at_call 20; exact Calls.quiet_of (KEY.out _)))
        go_wp2
        go_roundw
        case rel => exact ⟨k + 1, _, by omega, by go_num, by rw [HV.out, World.drewN_drewN], sameL_yes HX HY he HXY⟩
        case measure => simp [intOf]; omega
      · have hxy : sameB x y = false := by simpa using hxy
        have HXY : Hid (sameB x y = false) := hxy
        rw [hxy] at KEY
        clear hxy
        go_wp2_with fail
        go_quiet (first | (go_at_call 20; exact Calls.quiet_of (KEY.out _)))
        go_wp2
        go_ret
        exact ⟨ret_bool (sameL_no HX HY he HXY), _, by rw [HV.out, World.drewN_drewN]⟩
    · go_wp2
      go_ret
      exact ⟨ret_bool (sameL_end hlt hlen.out he), q, rfl⟩

set_option maxHeartbeats 400000 in
theorem rows_nil (a b : Option Addr) (ca cb : Nat) (w : World) :
    Calls Tryd.prog 33 #[.slice a 0 ca, .slice b 0 cb] w fun e w' => e = .returned (.bool true) ∧ ∃ q, w' = w.drewN q := by
  go_enter Tryd.func33, Tryd.ntmps33
  go_wp2
  refine wp_loop_rounds 1 ?_
  rw [rounds_succ]
  go_wp2
  go_ret
  exact ⟨rfl, 0, rfl⟩

theorem rows_any (a b : Option Addr) (ca cb : Nat) (xs ys : List (List Int)) (w : World) (hs : At2 w a xs) (ht : At2 w b ys) (hl : xs.length ≤ maxLen) (hm : ys.length ≤ maxLen) :
    Calls Tryd.prog 33 #[.slice a xs.length ca, .slice b ys.length cb] w fun e w' => e = .returned (.bool (sameL xs ys)) ∧ ∃ q, w' = w.drewN q := by
  by_cases hne : xs.length = ys.length
  · rcases hs with rfl | ⟨ba, oa, rfl, -, hca⟩
    · have : ys = [] := List.eq_nil_of_length_eq_zero (by simpa using hne.symm)
      subst this
      exact rows_nil a b ca cb w
    · rcases ht with rfl | ⟨bb, ob, rfl, -, hcb⟩
      · have : xs = [] := List.eq_nil_of_length_eq_zero (by simpa using hne)
        subst this
        exact rows_nil _ b ca cb w
      · exact rows_eq ba oa ca bb ob cb xs ys w hne hl (Hid.of hca) (Hid.of hcb)
  · exact rows_ne a b ca cb xs ys w hne hl hm

end Go.Proofs.YtkkkacmccndinaaDoor
namespace Go.Proofs.YtkkkacmccndinaaDoor
open Go.RowKit
set_option linter.unusedVariables false

theorem detB_no1 {m : Mach} (h : mayB m = false) : detB m = false := by unfold detB; rw [h]; rfl
theorem detB_no2 {m : Mach} (h : ¬ m.starts.length = 1) : detB m = false := by unfold detB; simp [h]
theorem detB_no3 {m : Mach} (h : ¬ (m.arrows.length : Int) = m.st * m.ev) : detB m = false := by unfold detB; simp [h]
theorem detB_go {m : Mach} (h1 : mayB m = true) (h2 : m.starts.length = 1) (h3 : (m.arrows.length : Int) = m.st * m.ev) : detB m = goD m.ev 0 (m.arrows.drop 0) := by
  unfold detB; simp [h1, h2, h3]
theorem goD_yes {ev : Int} {ars : List Arr} {k : Nat} {a : Arr} {b : Bool} (h : k < ars.length) (ha : Hid (a = ars[k]?.getD arr0)) (e : Hid (b = goD ev k (ars.drop k))) (hx : a.f * ev + a.e = (k : Int)) : Hid (b = goD ev (k + 1) (ars.drop (k + 1))) := by
  show b = _
  rw [e.out, dropA h, ← ha.out, goD, if_pos hx]
theorem goD_no {ev : Int} {ars : List Arr} {k : Nat} {a : Arr} {b : Bool} (h : k < ars.length) (ha : Hid (a = ars[k]?.getD arr0)) (e : Hid (b = goD ev k (ars.drop k))) (hx : ¬ a.f * ev + a.e = (k : Int)) : false = b := by
  rw [e.out, dropA h, ← ha.out, goD, if_neg hx]
theorem goD_end {ev : Int} {ars : List Arr} {k : Nat} {b : Bool} (h : ¬ k < ars.length) (e : Hid (b = goD ev k (ars.drop k))) : true = b := by
  rw [e.out, List.drop_eq_nil_of_le (by omega)]; rfl

set_option maxRecDepth 100000 in
set_option maxHeartbeats 4000000 in
theorem detIs_any (m : Mach) (l : ML) (w : World) (h : Hid (MAt w m l)) :
    Calls Tryd.prog 29 #[mval m l] w fun e w' => e = .returned (.bool (detB m)) ∧ Below w.heap.size w w' := by
  have B0 : Hid (Below w.heap.size w (w.alloc (.cells (mcells m l) 25))) := (Below.refl _ _).alloc (Nat.le_refl _) _
  have K0 : Hid (Blk (w.alloc (.cells (mcells m l) 25)) w.heap.size 25 (mcells m l)) := Blk.new w _ _
  go_enter Tryd.func29, Tryd.ntmps29
  go_wp2_with fail
  revert B0 K0
  generalize w.alloc (.cells (mcells m l) 25) = V0
  intro B0 K0
  refine (pMay_any m l _ (h.out.below B0.out (Nat.le_refl _))).mono ?_
  rintro e V ⟨rfl, hb1⟩
  have B1 := Hid.of (B0.out.trans (hb1.mono B0.out.size))
  have K1 := Hid.of (K0.out.below hb1 K0.out.lt)
  clear hb1 B0 K0
  cases hm : mayB m with
  | false =>
    have HF := Hid.of (detB_no1 hm)
    clear hm
    go_wp2
    go_ret
    exact ⟨ret_bool HF.out.symm, B1.out⟩
  | true =>
    have hz := mayB_size hm
    have hin := Hid.of (may_arrs hm)
    have hlo := Hid.of h.out.a1
    have HMY := Hid.of hm
    obtain ⟨st, ev, starts, ars, ends⟩ := m
    obtain ⟨a1, c1, a2, c2, a3, c3⟩ := l
    obtain ⟨z1, z2, z3, z4, z5⟩ := hz
    simp only at z1 z2 z3 z4 z5
    obtain ⟨s, rfl⟩ : ∃ s : Nat, st = (s : Int) := ⟨st.toNat, by omega⟩
    obtain ⟨v, rfl⟩ : ∃ v : Nat, ev = (v : Int) := ⟨ev.toNat, by omega⟩
    have hN : s * v ≤ 256 * 8 := Nat.mul_le_mul (by omega) (by omega)
    obtain ⟨N, HN⟩ : ∃ N, Hid (N = s * v) := ⟨_, rfl⟩
    rw [← HN.out] at hN
    have hw0 : IntKind.i64.wrap ((s : Int) * (v : Int)) = (N : Int) := by rw [IntKind.wrap_i64, ← Int.natCast_mul, ← HN.out]; omega
    obtain ⟨x0, x1, x2, x3, x4⟩ := mcell_at K1.out
    dsimp only at x0 x1 x2 x3 x4
    clear hm
    by_cases h1 : starts.length = 1
    · have d1 : ((starts.length : Int) != 1) = false := by rw [h1]; rfl
      have H1 := Hid.of h1
      clear h1
      by_cases h2 : ars.length = N
      · have d2 : ((ars.length : Int) != (N : Int)) = false := by rw [h2]; simp
        have HG : Hid (detB ⟨(s : Int), (v : Int), starts, ars, ends⟩ = goD (v : Int) 0 (ars.drop 0)) := detB_go HMY.out H1.out (by show (ars.length : Int) = (s : Int) * (v : Int); rw [h2, HN.out, Int.natCast_mul])
        have H2 := Hid.of h2
        clear h2
        go_wp2
        go_loopw [28] (fun i wr => ∃ k : Nat, k ≤ ars.length ∧ i = .int .i64 k ∧ Hid (Blk wr w.heap.size 25 (mcells ⟨(s : Int), (v : Int), starts, ars, ends⟩ ⟨a1, c1, a2, c2, a3, c3⟩)) ∧ Hid (Below w.heap.size w wr) ∧ Hid (detB ⟨(s : Int), (v : Int), starts, ars, ends⟩ = goD (v : Int) k (ars.drop k))) (fun i _ => ars.length - (intOf i).toNat)
        case atStart => exact ⟨0, Nat.zero_le _, rfl, K1, B1, HG⟩
        case round =>
          clear x0 x1 x2 x3 x4 K1 B1 HG
          obtain ⟨k, hk, rfl, KB, HB, HE⟩ := hrel
          by_cases hlt : k < ars.length
          · obtain ⟨b, off, rfl, hb, hc⟩ : ∃ b off, a2 = some ⟨b, off, none⟩ ∧ b < w.heap.size ∧ CellsA w b off ars := by
              rcases h.out.a with h0 | ⟨b, off, h0⟩
              · have h0 : ars = [] := h0
                rw [h0] at hlt; simp at hlt
              · exact ⟨b, off, h0⟩
            obtain ⟨a, HA, y1, y2, y3⟩ := hc.at hlt
            replace y1 := (HB.out.cell (p := ⟨b, off + k * 3, none⟩) hb).trans y1
            replace y2 := (HB.out.cell (p := ⟨b, off + k * 3 + 1, none⟩) hb).trans y2
            replace y3 := (HB.out.cell (p := ⟨b, off + k * 3 + 2, none⟩) hb).trans y3
            have hia : arrIn (s : Int) (v : Int) a := by
              have h := HA.out
              rw [List.getElem?_eq_getElem hlt, Option.getD_some] at h
              rw [h]; exact hin.out _ (List.getElem_mem hlt)
            obtain ⟨f, ef⟩ : ∃ f : Nat, a.f = (f : Int) := ⟨a.f.toNat, by omega⟩
            obtain ⟨e, ee⟩ : ∃ e : Nat, a.e = (e : Int) := ⟨a.e.toNat, by omega⟩
            rw [ef] at y1
            rw [ee] at y2
            obtain ⟨q, hq⟩ : ∃ q, q = f * v := ⟨_, rfl⟩
            have hfv : f * v ≤ 256 * 8 := Nat.mul_le_mul (by omega) (by omega)
            have hw1 : IntKind.i64.wrap ((f : Int) * (v : Int)) = (q : Int) := by rw [IntKind.wrap_i64, ← Int.natCast_mul, ← hq]; omega
            have he8 : e ≤ 8 := by omega
            have hq8 : q ≤ 256 * 8 := by omega
            obtain ⟨p, hp⟩ : ∃ p, p = q + e := ⟨_, rfl⟩
            have hw2 : IntKind.i64.wrap ((q : Int) + (e : Int)) = (p : Int) := by rw [IntKind.wrap_i64]; omega
            have HC : Hid (a.f * (v : Int) + a.e = (p : Int)) := by show _ = _; rw [ef, ee, ← Int.natCast_mul, ← hq]; omega
            have z1 : (wr.alloc (.cells #[.int .i64 f, .int .i64 e, .int .i64 a.t] 54)).cell? ⟨w.heap.size, 1, none⟩ = some (.int .i64 v) := (KB.out.alloc _).cell 1 rfl
            have KB' := Hid.of (KB.out.alloc (.cells #[.int .i64 f, .int .i64 e, .int .i64 a.t] 54))
            have HB' := Hid.of (HB.out.alloc HB.out.size (.cells #[.int .i64 f, .int .i64 e, .int .i64 a.t] 54))
            clear hq hp hia ef ee hfv KB HB
            by_cases hpk : p = k
            · have d3 : ((p : Int) != (k : Int)) = false := by rw [hpk]; simp
              have HY := goD_yes hlt HA HE (by rw [HC.out, hpk])
              clear hpk
              go_wp2
              go_roundw
              case rel => exact ⟨k + 1, by omega, by go_num, KB', HB', HY⟩
              case measure => simp [intOf]; omega
            · have d3 : ((p : Int) != (k : Int)) = true := by rw [bne_iff_ne]; omega
              have HY := Hid.of (goD_no hlt HA HE (by rw [HC.out]; omega))
              clear hpk
              go_wp2
              go_ret
              exact ⟨ret_bool HY.out, HB'.out⟩
          · go_wp2
            go_ret
            exact ⟨ret_bool (goD_end hlt HE), HB.out⟩
      · have d2 : ((ars.length : Int) != (N : Int)) = true := by rw [bne_iff_ne]; omega
        have HF : Hid (detB ⟨(s : Int), (v : Int), starts, ars, ends⟩ = false) := detB_no3 (by show ¬ (ars.length : Int) = (s : Int) * (v : Int); rw [← Int.natCast_mul, ← HN.out]; omega)
        clear h2
        go_wp2
        go_ret
        exact ⟨ret_bool HF.out.symm, B1.out⟩
    · have d1 : ((starts.length : Int) != 1) = true := by rw [bne_iff_ne]; omega
      have HF : Hid (detB ⟨(s : Int), (v : Int), starts, ars, ends⟩ = false) := detB_no2 h1
      clear h1
      go_wp2
      go_ret
      exact ⟨ret_bool HF.out.symm, B1.out⟩

end Go.Proofs.YtkkkacmccndinaaDoor
namespace Go.Proofs.YtkkkacmccndinaaDoor
open Go.RowKit
set_option linter.unusedVariables false

theorem findL_hit {L : List (List Int)} {k : Nat} {x s : List Int} (h : Hid (L[k]? = some x)) (e : Hid (findL L s = k + findL (L.drop k) s)) (h1 : Hid (sameB x s = true)) : (k : Int) = (findL L s : Nat) := by
  have h2 : x = s := by have := h1.out; simpa [sameB] using this
  rw [e.out, dropL h.out, findL, if_pos h2]; simp
theorem findL_miss {L : List (List Int)} {k : Nat} {x s : List Int} (h : Hid (L[k]? = some x)) (e : Hid (findL L s = k + findL (L.drop k) s)) (h1 : Hid (sameB x s = false)) : Hid (findL L s = (k + 1) + findL (L.drop (k + 1)) s) := by
  have h2 : ¬ x = s := by have := h1.out; simpa [sameB] using this
  show _ = _
  rw [e.out, dropL h.out, findL, if_neg h2]; omega
theorem findL_end {L : List (List Int)} {k : Nat} {s : List Int} (h : ¬ k < L.length) (hk : k ≤ L.length) (e : Hid (findL L s = k + findL (L.drop k) s)) : (L.length : Int) = (findL L s : Nat) := by
  rw [e.out, List.drop_eq_nil_of_le (by omega)]; simp [findL]; omega
theorem ret_i64g {a b : Int} (h : a = b) : Ending.returned (.int .i64 a) = .returned (.int .i64 b) := by rw [h]

set_option maxHeartbeats 2000000 in
theorem rfind_some (ba oa ca : Nat) (sa : Option Addr) (sc : Nat) (LL : List (List Int)) (s : List Int) (w : World) (hl : LL.length ≤ 9223372036854775807) (hca : Hid (CellsL w ba oa LL)) (hs : Hid (At w sa s)) (hsl : Hid (s.length ≤ maxLen)) :
    Calls Tryd.prog 67 #[.slice (some ⟨ba, oa, none⟩) LL.length ca, .slice sa s.length sc] w fun e w' => e = .returned (.int .i64 (findL LL s : Nat)) ∧ ∃ q, w' = w.drewN q := by
  go_enter Tryd.func67, Tryd.ntmps67
  go_wp2
  go_loopw [5] (fun i wr => ∃ k q : Nat, k ≤ LL.length ∧ i = .int .i64 k ∧ wr = w.drewN q ∧ Hid (findL LL s = k + findL (LL.drop k) s)) (fun i _ => LL.length - (intOf i).toNat)
  case atStart => exact ⟨0, 0, Nat.zero_le _, rfl, rfl, by show _ = _; simp⟩
  case round =>
    obtain ⟨k, q, hk, rfl, rfl, he⟩ := hrel
    by_cases hlt : k < LL.length
    · obtain ⟨x, HX⟩ : ∃ x, Hid (LL[k]? = some x) := ⟨_, List.getElem?_eq_getElem hlt⟩
      obtain ⟨xa, xc, cx, ax, lx⟩ := hca.out k x HX.out
      obtain ⟨V, HV⟩ : ∃ V, Hid (V = w.drewN q) := ⟨_, rfl⟩
      replace cx : V.cell? ⟨ba, oa + k, none⟩ = some (.slice xa x.length xc) := by rw [HV.out]; exact cx
      have KEY : Hid (Calls Tryd.prog 20 #[.slice xa x.length xc, .slice sa s.length sc] V fun e w' => e = .returned (.bool (sameB x s)) ∧ ∃ r, w' = V.drewN r) := by
        rw [HV.out]; exact same_any xa sa xc sc x s _ (At.drewN ax q) (At.drewN hs.out q) lx hsl.out
      rw [← HV.out]
      clear ax lx
      go_wp2_with fail
      refine KEY.out.mono ?_
      rintro e V' ⟨rfl, r, rfl⟩
      have HVr : Hid (V.drewN r = w.drewN (q + r)) := by show _ = _; rw [HV.out, World.drewN_drewN]
      rw [HVr.out]
      clear KEY cx
      cases hxy : sameB x s with
      | true =>
        have HXY := Hid.of hxy
        clear hxy
        go_wp2
        go_ret
        exact ⟨ret_i64g (findL_hit HX he HXY), _, rfl⟩
      | false =>
        have HXY := Hid.of hxy
        clear hxy
        go_wp2
        go_roundw
        case rel => exact ⟨k + 1, _, by omega, by go_num, rfl, findL_miss HX he HXY⟩
        case measure => simp [intOf]; omega
    · go_wp2
      go_ret
      exact ⟨ret_i64g (findL_end hlt hk he), q, rfl⟩
set_option maxHeartbeats 400000 in
theorem rfind_nil (a sa : Option Addr) (ca sc : Nat) (s : List Int) (w : World) :
    Calls Tryd.prog 67 #[.slice a 0 ca, .slice sa s.length sc] w fun e w' => e = .returned (.int .i64 (findL [] s : Nat)) ∧ ∃ q, w' = w.drewN q := by
  go_enter Tryd.func67, Tryd.ntmps67
  go_wp2
  refine wp_loop_rounds 1 ?_
  rw [rounds_succ]
  go_wp2
  go_ret
  exact ⟨rfl, 0, rfl⟩
theorem rfind_any (a sa : Option Addr) (ca sc : Nat) (LL : List (List Int)) (s : List Int) (w : World) (h : At2 w a LL) (hl : LL.length ≤ maxLen) (hs : At w sa s) (hsl : s.length ≤ maxLen) :
    Calls Tryd.prog 67 #[.slice a LL.length ca, .slice sa s.length sc] w fun e w' => e = .returned (.int .i64 (findL LL s : Nat)) ∧ ∃ q, w' = w.drewN q := by
  rcases h with rfl | ⟨b, off, rfl, -, hc⟩
  · exact rfind_nil a sa ca sc s w
  · exact rfind_some b off ca sa sc LL s w hl (Hid.of hc) (Hid.of hs) (Hid.of hsl)

/-! jalousieref6.Is -/
theorem cntL_take {ars : List Arr} {k : Nat} {a : Arr} {s e : Int} (h : k < ars.length) (ha : Hid (a = ars[k]?.getD arr0)) : cntL (ars.take (k + 1)) s e = if (decide (a.f = s) && decide (a.e = e)) = true then cntL (ars.take k) s e + 1 else cntL (ars.take k) s e := by
  have ha := ha.out
  rw [List.getElem?_eq_getElem h, Option.getD_some] at ha
  unfold cntL
  rw [List.take_add_one, List.getElem?_eq_getElem h, List.filter_append, ← ha, List.length_append]
  by_cases c : (decide (a.f = s) && decide (a.e = e)) = true
  · rw [if_pos c]; simp only [Option.toList_some, List.filter_cons, c, if_true, List.filter_nil, List.length_cons, List.length_nil]
  · rw [if_neg c]; simp only [Option.toList_some, List.filter_cons, c, Bool.false_eq_true, if_false, List.filter_nil, List.length_nil, Nat.add_zero]
theorem cntL_le (ars : List Arr) (s e : Int) : cntL ars s e ≤ ars.length := List.length_filter_le _ _
theorem cntL_zero (s e : Int) : cntL [] s e = 0 := rfl
theorem detB_one {s v : Nat} {starts : List Int} {ars : List Arr} {ends : List Int} (hm : mayB ⟨(s : Int), (v : Int), starts, ars, ends⟩ = true) (h1 : starts.length = 1) : detB ⟨(s : Int), (v : Int), starts, ars, ends⟩ = allOne ars v s := by
  unfold detB
  rw [hm, ← det_same (may_arrs hm) (may_inc hm)]
  simp [h1]
theorem allOne_no {ars : List Arr} {v s k e : Nat} (hk : k < s) (he : e < v) (h : ¬ cntL ars (k : Int) (e : Int) = 1) : allOne ars v s = false := by
  cases hh : allOne ars v s with
  | false => rfl
  | true =>
    unfold allOne oneRow at hh
    simp only [List.all_eq_true, List.mem_range, decide_eq_true_eq] at hh
    exact absurd (hh k hk e he) h
theorem allOne_yes {ars : List Arr} {v s : Nat} (h : ∀ k, k < s → ∀ e, e < v → cntL ars (k : Int) (e : Int) = 1) : allOne ars v s = true := by
  unfold allOne oneRow
  simp only [List.all_eq_true, List.mem_range, decide_eq_true_eq]
  exact h

set_option maxRecDepth 100000 in
set_option maxHeartbeats 4000000 in
theorem rIs_any (m : Mach) (l : ML) (w : World) (h : Hid (MAt w m l)) :
    Calls Tryd.prog 32 #[mval m l] w fun e w' => e = .returned (.bool (detB m)) ∧ Below w.heap.size w w' := by
  have B0 : Hid (Below w.heap.size w (w.alloc (.cells (mcells m l) 25))) := (Below.refl _ _).alloc (Nat.le_refl _) _
  have K0 : Hid (Blk (w.alloc (.cells (mcells m l) 25)) w.heap.size 25 (mcells m l)) := Blk.new w _ _
  go_enter Tryd.func32, Tryd.ntmps32
  go_wp2_with fail
  revert B0 K0
  generalize w.alloc (.cells (mcells m l) 25) = V0
  intro B0 K0
  refine (refMay_any m l _ (h.out.below B0.out (Nat.le_refl _))).mono ?_
  rintro e V ⟨rfl, hb1⟩
  have B1 := Hid.of (B0.out.trans (hb1.mono B0.out.size))
  have K1 := Hid.of (K0.out.below hb1 K0.out.lt)
  clear hb1 B0 K0
  cases hm : mayB m with
  | false =>
    have HF := Hid.of (detB_no1 hm)
    clear hm
    go_wp2
    go_ret
    exact ⟨ret_bool HF.out.symm, B1.out⟩
  | true =>
    have hz := mayB_size hm
    have hin := Hid.of (may_arrs hm)
    have HMY := Hid.of hm
    obtain ⟨st, ev, starts, ars, ends⟩ := m
    obtain ⟨a1, c1, a2, c2, a3, c3⟩ := l
    obtain ⟨z1, z2, z3, z4, z5⟩ := hz
    simp only at z1 z2 z3 z4 z5
    obtain ⟨s, rfl⟩ : ∃ s : Nat, st = (s : Int) := ⟨st.toNat, by omega⟩
    obtain ⟨v, rfl⟩ : ∃ v : Nat, ev = (v : Int) := ⟨ev.toNat, by omega⟩
    obtain ⟨x0, x1, x2, x3, x4⟩ := mcell_at K1.out
    dsimp only at x0 x1 x2 x3 x4
    clear hm
    by_cases h1 : starts.length = 1
    · have d1 : ((starts.length : Int) != 1) = false := by rw [h1]; rfl
      have HO : Hid (detB ⟨(s : Int), (v : Int), starts, ars, ends⟩ = allOne ars v s) := detB_one HMY.out h1
      clear h1
      go_wp2
      go_loop [3] (fun i => ∃ k : Nat, k ≤ s ∧ i = .int .i64 k ∧ Hid (∀ j, j < k → ∀ e, e < v → cntL ars (j : Int) (e : Int) = 1)) (fun i => s - (intOf i).toNat)
      case atStart => exact ⟨0, Nat.zero_le _, rfl, fun j hj => by omega⟩
      case round =>
        obtain ⟨k, hk, rfl, HK⟩ := hrel
        by_cases hlt : k < s
        · go_wp2
          go_loop [4] (fun i => ∃ q : Nat, q ≤ v ∧ i = .int .i64 q ∧ Hid (∀ e, e < q → cntL ars (k : Int) (e : Int) = 1)) (fun i => v - (intOf i).toNat)
          case atStart => exact ⟨0, Nat.zero_le _, rfl, fun j hj => by omega⟩
          case round =>
            obtain ⟨q, hq, rfl, HQ⟩ := hrel
            by_cases hqt : q < v
            · go_wp2
              go_loop [5, 6] (fun c i => ∃ n : Nat, n ≤ ars.length ∧ i = .int .i64 n ∧ c = .int .i64 (cntL (ars.take n) (k : Int) (q : Int) : Nat)) (fun _ i => ars.length - (intOf i).toNat)
              case atStart => exact ⟨0, Nat.zero_le _, rfl, rfl⟩
              case round =>
                obtain ⟨n, hn, rfl, rfl⟩ := hrel
                have hcl := cntL_le (ars.take n) (k : Int) (q : Int)
                rw [List.length_take] at hcl
                by_cases hnt : n < ars.length
                · obtain ⟨b, off, rfl, hb, hc⟩ : ∃ b off, a2 = some ⟨b, off, none⟩ ∧ b < w.heap.size ∧ CellsA w b off ars := by
                    rcases h.out.a with h0 | ⟨b, off, h0⟩
                    · have h0 : ars = [] := h0
                      rw [h0] at hnt; simp at hnt
                    · exact ⟨b, off, h0⟩
                  obtain ⟨a, HA, y1, y2, y3⟩ := hc.at hnt
                  replace y1 := (B1.out.cell (p := ⟨b, off + n * 3, none⟩) hb).trans y1
                  replace y2 := (B1.out.cell (p := ⟨b, off + n * 3 + 1, none⟩) hb).trans y2
                  replace y3 := (B1.out.cell (p := ⟨b, off + n * 3 + 2, none⟩) hb).trans y3
                  have HC := Hid.of (cntL_take (s := (k : Int)) (e := (q : Int)) hnt HA)
                  obtain ⟨cn, HCN⟩ : ∃ cn, Hid (cn = cntL (ars.take n) (k : Int) (q : Int)) := ⟨_, rfl⟩
                  rw [← HCN.out] at HC hcl ⊢
                  by_cases e1 : a.f = (k : Int)
                  · have d3 : (a.f == (k : Int)) = true := by simpa using e1
                    by_cases e2 : a.e = (q : Int)
                    · have d4 : (a.e == (q : Int)) = true := by simpa using e2
                      rw [if_pos (by simp [e1, e2])] at HC
                      clear e1 e2
                      go_wp2
                      go_round
                      case rel => exact ⟨n + 1, by omega, by go_num, by rw [HC.out]; go_num⟩
                      case measure => simp [intOf]; omega
                    · have d4 : (a.e == (q : Int)) = false := by simpa using e2
                      rw [if_neg (by simp [e2])] at HC
                      clear e1 e2
                      go_wp2
                      go_round
                      case rel => exact ⟨n + 1, by omega, by go_num, by rw [HC.out]⟩
                      case measure => simp [intOf]; omega
                  · have d3 : (a.f == (k : Int)) = false := by simpa using e1
                    rw [if_neg (by simp [e1])] at HC
                    clear e1
                    go_wp2
                    go_round
                    case rel => exact ⟨n + 1, by omega, by go_num, by rw [HC.out]⟩
                    case measure => simp [intOf]; omega
                · have HT : Hid (ars.take n = ars) := List.take_of_length_le (by omega)
                  rw [HT.out]
                  obtain ⟨cn, HCN⟩ : ∃ cn, Hid (cn = cntL ars (k : Int) (q : Int)) := ⟨_, rfl⟩
                  rw [← HCN.out]
                  by_cases hc1 : cn = 1
                  · have d5 : ((cn : Int) != 1) = false := by rw [hc1]; rfl
                    have HQ' : Hid (∀ e, e < q + 1 → cntL ars (k : Int) (e : Int) = 1) := fun e he => by
                      by_cases h9 : e < q
                      · exact HQ.out e h9
                      · have : e = q := by omega
                        rw [this, ← HCN.out]; exact hc1
                    clear hc1
                    go_wp2
                    go_round
                    case rel => exact ⟨q + 1, by omega, by go_num, HQ'⟩
                    case measure => simp [intOf]; omega
                  · have d5 : ((cn : Int) != 1) = true := by rw [bne_iff_ne]; omega
                    have HNO : Hid (allOne ars v s = false) := allOne_no hlt hqt (by rw [← HCN.out]; exact hc1)
                    clear hc1
                    go_wp2
                    go_ret
                    exact ⟨ret_bool (by rw [HO.out, HNO.out]), B1.out⟩
            · have HK' : Hid (∀ j, j < k + 1 → ∀ e, e < v → cntL ars (j : Int) (e : Int) = 1) := fun j hj e he => by
                by_cases h9 : j < k
                · exact HK.out j h9 e he
                · have : j = k := by omega
                  rw [this]; exact HQ.out e (by omega)
              go_wp2
              go_round
              case rel => exact ⟨k + 1, by omega, by go_num, HK'⟩
              case measure => simp [intOf]; omega
        · have HY : Hid (allOne ars v s = true) := allOne_yes (fun j hj => HK.out j (by omega))
          go_wp2
          go_ret
          exact ⟨ret_bool (by rw [HO.out, HY.out]), B1.out⟩
    · have d1 : ((starts.length : Int) != 1) = true := by rw [bne_iff_ne]; omega
      have HF : Hid (detB ⟨(s : Int), (v : Int), starts, ars, ends⟩ = false) := detB_no2 h1
      clear h1
      go_wp2
      go_ret
      exact ⟨ret_bool HF.out.symm, B1.out⟩

end Go.Proofs.YtkkkacmccndinaaDoor
