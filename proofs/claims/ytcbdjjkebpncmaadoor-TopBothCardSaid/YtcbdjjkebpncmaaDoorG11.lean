/-
  The walk of jalousieref7.Places.
  The walk of jalousieref1.Only: the numbers of a list that are (or are not) in another one.
  The walk of jalousieref2.ahead.
-/
import Derived.Test.YtcbdjjkebpncmaaDoorG09
import Derived.Test.YtcbdjjkebpncmaaDoorG10
import Derived.Deep.RegionHeld3
import Derived.Test.YtcbdjjkebpncmaaDoorG07
import Derived.Test.YtcbdjjkebpncmaaDoorG03
namespace Go.Proofs.YtcbdjjkebpncmaaDoor
open Go.RowKit
set_option linter.unusedVariables false

theorem bfGo_next {σ : Type} [DecidableEq σ] {δ : σ → Nat → σ} {ev f k : Nat} {l : List (σ × List Int)} {x : σ × List Int} (h : l[k]? = some x) : bfGo δ ev (f + 1) k l = bfGo δ ev f (k + 1) (bfRow δ x l ev) := by rw [bfGo, h]
theorem bfGo_stop {σ : Type} [DecidableEq σ] {δ : σ → Nat → σ} {ev f k : Nat} {l : List (σ × List Int)} (h : ¬ k < l.length) : bfGo δ ev f k l = l := by
  cases f with
  | zero => rfl
  | succ f =>
    have : l[k]? = none := List.getElem?_eq_none_iff.2 (by omega)
    unfold bfGo; rw [this]
theorem at_onew (W : World) (x : Int) : At (W.alloc (.cells #[.int .i64 x] 3)) (some ⟨W.heap.size, 0, none⟩) [x] := by
  refine .inr ⟨_, _, rfl, by simp, fun j hj => ?_⟩
  have : j = 0 := by simpa using hj
  subst this
  rw [World.cell?_alloc_at _ _ _ _ rfl]; rfl
theorem innW_at {w W : World} {a : Option Addr} {c : Nat} {xs : List Int} (h : At w a xs) (hl : xs.length ≤ maxLen) (hn : a = none → c = 0) (hb : Below w.heap.size w W) : InnW w.heap.size W (.slice a xs.length c) xs :=
  ⟨InnN.of_at h hl hb, fun m c' e => by cases e; exact hn rfl⟩
theorem innW_nil (n : Nat) (W : World) : InnW n W (.slice none 0 0) [] := ⟨⟨none, 0, rfl, Nat.zero_le _, .inl rfl⟩, fun m c e => by cases e; rfl⟩

set_option maxRecDepth 100000 in
set_option maxHeartbeats 8000000 in
theorem places_ok (st ev sb eb : Nat) (starts startsB : List Int) (ars arsB : List Arr) (ends endsB : List Int) (a1 : Option Addr) (c1 : Nat) (a2 : Option Addr) (c2 : Nat) (a3 : Option Addr) (c3 : Nat) (b1 : Option Addr) (d1 : Nat) (b2 : Option Addr) (d2 : Nat) (b3 : Option Addr) (d3 : Nat) (w : World) (h : Hid (MAt w ⟨(st : Int), (ev : Int), starts, ars, ends⟩ ⟨a1, c1, a2, c2, a3, c3⟩)) (h' : Hid (MAt w ⟨(sb : Int), (eb : Int), startsB, arsB, endsB⟩ ⟨b1, d1, b2, d2, b3, d3⟩)) (hm : Hid (mayB ⟨(st : Int), (ev : Int), starts, ars, ends⟩ = true)) (hm' : Hid (mayB ⟨(sb : Int), (eb : Int), startsB, arsB, endsB⟩ = true)) (z1 : Hid (st ≤ 6)) (z2 : Hid (sb ≤ 6)) :
    Calls Tryd.prog 89 #[mval ⟨(st : Int), (ev : Int), starts, ars, ends⟩ ⟨a1, c1, a2, c2, a3, c3⟩, mval ⟨(sb : Int), (eb : Int), startsB, arsB, endsB⟩ ⟨b1, d1, b2, d2, b3, d3⟩] w fun e w' => PlcPost w (plcAll ⟨(st : Int), (ev : Int), starts, ars, ends⟩ ⟨(sb : Int), (eb : Int), startsB, arsB, endsB⟩) e w' := by
  have hz := mayB_size hm.out
  have hzB := mayB_size hm'.out
  unfold sizeOk at hz hzB
  dsimp only at hz hzB
  have hev : ev ≤ 8 := by omega
  have hlen : Hid (ars.length ≤ 4096) := show _ ≤ _ by omega
  have hlenB : Hid (arsB.length ≤ 4096) := show _ ≤ _ by omega
  clear hz hzB
  have hBD : Hid (∀ (k n : Nat) (l : List Plc), BI (bothD ars arsB) (starts, startsB) ev k n l → l.length ≤ 4096) := fun k n l hI => plc_bound hm.out hm'.out (by have := z1.out; show (st : Int) ≤ 6; omega) (by have := z2.out; show (sb : Int) ≤ 6; omega) hI
  have hE0 : Hid (plcAll ⟨(st : Int), (ev : Int), starts, ars, ends⟩ ⟨(sb : Int), (eb : Int), startsB, arsB, endsB⟩ = bfGo (bothD ars arsB) ev 4097 0 [((starts, startsB), [])]) := by
    show plcAll ⟨(st : Int), (ev : Int), starts, ars, ends⟩ ⟨(sb : Int), (eb : Int), startsB, arsB, endsB⟩ = _
    unfold plcAll; simp only [Int.toNat_natCast]
  have hI0 : Hid (BI (bothD ars arsB) (starts, startsB) ev 0 0 [((starts, startsB), [])]) := bi_start _ _ _
  have bX : Below w.heap.size w (((w.alloc (.cells (mcells ⟨(st : Int), (ev : Int), starts, ars, ends⟩ ⟨a1, c1, a2, c2, a3, c3⟩) 25)).alloc (.cells (mcells ⟨(sb : Int), (eb : Int), startsB, arsB, endsB⟩ ⟨b1, d1, b2, d2, b3, d3⟩) 25)).alloc (.cells #[.slice a1 starts.length c1, .slice b1 startsB.length d1, .slice none 0 0] 132)) := (((Below.refl _ _).alloc (Nat.le_refl _) _).alloc (by simp) _).alloc (by simp; omega) _
  have HX : Hid (PL w (((w.alloc (.cells (mcells ⟨(st : Int), (ev : Int), starts, ars, ends⟩ ⟨a1, c1, a2, c2, a3, c3⟩) 25)).alloc (.cells (mcells ⟨(sb : Int), (eb : Int), startsB, arsB, endsB⟩ ⟨b1, d1, b2, d2, b3, d3⟩) 25)).alloc (.cells #[.slice a1 starts.length c1, .slice b1 startsB.length d1, .slice none 0 0] 132)) ⟨(st : Int), (ev : Int), starts, ars, ends⟩ ⟨(sb : Int), (eb : Int), startsB, arsB, endsB⟩ ⟨a1, c1, a2, c2, a3, c3⟩ ⟨b1, d1, b2, d2, b3, d3⟩ (.slice (some ⟨w.heap.size + 1 + 1, 0, none⟩) 1 1) [((starts, startsB), [])]) := by
    refine ⟨bX, ((Blk.new w _ _).alloc _).alloc _, ?_, ?_, by simp⟩
    · have := (Blk.new (w.alloc (.cells (mcells ⟨(st : Int), (ev : Int), starts, ars, ends⟩ ⟨a1, c1, a2, c2, a3, c3⟩) 25)) 25 (mcells ⟨(sb : Int), (eb : Int), startsB, arsB, endsB⟩ ⟨b1, d1, b2, d2, b3, d3⟩)).alloc (.cells #[.slice a1 starts.length c1, .slice b1 startsB.length d1, .slice none 0 0] 132)
      rwa [World.size_alloc] at this
    · refine ⟨[.slice a1 starts.length c1, .slice b1 startsB.length d1, .slice none 0 0], ?_, fun j x xs e1 e2 => ?_⟩
      · have := World.ownsRow_lit ((w.alloc (.cells (mcells ⟨(st : Int), (ev : Int), starts, ars, ends⟩ ⟨a1, c1, a2, c2, a3, c3⟩) 25)).alloc (.cells (mcells ⟨(sb : Int), (eb : Int), startsB, arsB, endsB⟩ ⟨b1, d1, b2, d2, b3, d3⟩) 25)) (base := w.heap.size + 2) (e := 132) (size := 3) #[.slice a1 starts.length c1, .slice b1 startsB.length d1, .slice none 0 0] 1 (by simp) (by decide) rfl
        rwa [World.size_alloc, World.size_alloc] at this
      · have e2' : [starts, startsB, []][j]? = some xs := e2
        match j, e1, e2' with
        | 0, e1, e2 =>
          have q1 : Value.slice a1 starts.length c1 = x := by simpa using e1
          have q2 : starts = xs := by simpa using e2
          rw [← q1, ← q2]
          exact innW_at h.out.s (Nat.le_trans h.out.s1 h.out.s2) h.out.s3 bX
        | 1, e1, e2 =>
          have q1 : Value.slice b1 startsB.length d1 = x := by simpa using e1
          have q2 : startsB = xs := by simpa using e2
          rw [← q1, ← q2]
          exact innW_at h'.out.s (Nat.le_trans h'.out.s1 h'.out.s2) h'.out.s3 bX
        | 2, e1, e2 =>
          have q1 : Value.slice none 0 0 = x := by simpa using e1
          have q2 : [] = xs := by simpa using e2
          rw [← q1, ← q2]
          exact innW_nil _ _
        | j + 3, e1, e2 => simp at e1
  have x2 : ((w.alloc (.cells (mcells ⟨(st : Int), (ev : Int), starts, ars, ends⟩ ⟨a1, c1, a2, c2, a3, c3⟩) 25)).alloc (.cells (mcells ⟨(sb : Int), (eb : Int), startsB, arsB, endsB⟩ ⟨b1, d1, b2, d2, b3, d3⟩) 25)).cell? ⟨w.heap.size, 2, none⟩ = some (.slice a1 starts.length c1) := ((Blk.new w _ _).alloc _).cell 2 rfl
  have y2 : ((w.alloc (.cells (mcells ⟨(st : Int), (ev : Int), starts, ars, ends⟩ ⟨a1, c1, a2, c2, a3, c3⟩) 25)).alloc (.cells (mcells ⟨(sb : Int), (eb : Int), startsB, arsB, endsB⟩ ⟨b1, d1, b2, d2, b3, d3⟩) 25)).cell? ⟨w.heap.size + 1, 2, none⟩ = some (.slice b1 startsB.length d1) := by
    have := (Blk.new (w.alloc (.cells (mcells ⟨(st : Int), (ev : Int), starts, ars, ends⟩ ⟨a1, c1, a2, c2, a3, c3⟩) 25)) 25 (mcells ⟨(sb : Int), (eb : Int), startsB, arsB, endsB⟩ ⟨b1, d1, b2, d2, b3, d3⟩)).cell 2 rfl
    rwa [World.size_alloc] at this
  clear bX
  go_enter Tryd.func89, Tryd.ntmps89
  go_wp2
  clear x2 y2
  revert HX
  generalize ((w.alloc (.cells (mcells ⟨(st : Int), (ev : Int), starts, ars, ends⟩ ⟨a1, c1, a2, c2, a3, c3⟩) 25)).alloc (.cells (mcells ⟨(sb : Int), (eb : Int), startsB, arsB, endsB⟩ ⟨b1, d1, b2, d2, b3, d3⟩) 25)).alloc (.cells #[.slice a1 starts.length c1, .slice b1 startsB.length d1, .slice none 0 0] 132) = X
  intro HX
  obtain ⟨i0, hi, hz0, hz1, hz2⟩ := info_parts Tryd.infoPlace
  obtain ⟨k0, ki, kz0, kz1, kz2⟩ := info_parts Tryd.infoInt
  go_loopw [5, 6] (fun v i wr => ∃ (k : Nat) (L : List Plc), i = .int .i64 k ∧ k ≤ L.length ∧ Hid (PL w wr ⟨(st : Int), (ev : Int), starts, ars, ends⟩ ⟨(sb : Int), (eb : Int), startsB, arsB, endsB⟩ ⟨a1, c1, a2, c2, a3, c3⟩ ⟨b1, d1, b2, d2, b3, d3⟩ v L) ∧ Hid (BI (bothD ars arsB) (starts, startsB) ev k 0 L) ∧ Hid (plcAll ⟨(st : Int), (ev : Int), starts, ars, ends⟩ ⟨(sb : Int), (eb : Int), startsB, arsB, endsB⟩ = bfGo (bothD ars arsB) ev (4097 - k) k L)) (fun _ i _ => 4097 - (intOf i).toNat)
  case atStart => exact ⟨0, _, rfl, Nat.zero_le _, HX, hI0, hE0⟩
  case round =>
    clear HX hI0 hE0
    obtain ⟨k, L, rfl, hk, HR, HI, HE⟩ := hrel
    have hpos : 0 < L.length := (List.getElem?_eq_some_iff.1 HI.out.hd).1
    have h4096 : L.length ≤ 4096 := hBD.out _ _ _ HI.out
    obtain ⟨g, cap, hv, -, -, -, -⟩ := HR.out.ow.cellsP hpos
    subst hv
    by_cases hlt : k < L.length
    · obtain ⟨p, HP⟩ : ∃ p, Hid (L[k]? = some p) := ⟨_, List.getElem?_eq_getElem hlt⟩
      go_wp2_with fail
      go_loopw [5, 7] (fun v i wr => ∃ (e : Nat), i = .int .i64 e ∧ e ≤ ev ∧ Hid (PL w wr ⟨(st : Int), (ev : Int), starts, ars, ends⟩ ⟨(sb : Int), (eb : Int), startsB, arsB, endsB⟩ ⟨a1, c1, a2, c2, a3, c3⟩ ⟨b1, d1, b2, d2, b3, d3⟩ v (bfRow (bothD ars arsB) p L e))) (fun _ i _ => ev - (intOf i).toNat)
      case atStart => exact ⟨0, rfl, Nat.zero_le _, HR⟩
      case round =>
        clear HR
        obtain ⟨e, rfl, hee, HR⟩ := hrel
        have HIe := Hid.of (bi_row _ HI.out HP.out e hee)
        have HSuc : Hid (bfRow (bothD ars arsB) p L (e + 1) = bfStep (bothD ars arsB) p (bfRow (bothD ars arsB) p L e) e) := bfRow_succ _ _ _ _
        have HPe : Hid ((bfRow (bothD ars arsB) p L e)[k]? = some p) := by
          obtain ⟨t, ht⟩ := bfRow_pre (bothD ars arsB) p L e
          show _ = _
          rw [ht, List.getElem?_append_left hlt]; exact HP.out
        obtain ⟨L1, HL1⟩ : ∃ L1, Hid (L1 = bfRow (bothD ars arsB) p L e) := ⟨_, rfl⟩
        rw [← HL1.out] at HR HIe HSuc HPe
        have hk1 : k < L1.length := (List.getElem?_eq_some_iff.1 HPe.out).1
        have hl1 : L1.length ≤ 4096 := hBD.out _ _ _ HIe.out
        have hwl : Hid (p.2.length ≤ 4096) := by have := bi_wlen HIe.out k p HPe.out; show _ ≤ _; omega
        obtain ⟨g, cap, hv, hg, hgs, -, hcc⟩ := HR.out.ow.cells (by omega)
        subst hv
        obtain ⟨xv, yv, zv, cx, cy, cz, ix, iy, iz⟩ := hcc k p HPe.out
        obtain ⟨xa, xc, rfl, hxa, hxl, -⟩ := ix.at
        obtain ⟨ya, yc, rfl, hya, hyl, -⟩ := iy.at
        obtain ⟨za, zc, rfl, hza, hzl, hzn⟩ := iz.at
        have IZ := Hid.of iz
        clear hcc ix iy iz hza hzl
        rw [Nat.zero_add] at cx cy cz
        obtain ⟨x0, x1, x2, x3, x4⟩ := mcell_at HR.out.ka
        obtain ⟨y0, y1, y2, y3, y4⟩ := mcell_at HR.out.kb
        dsimp only at x0 x1 x2 x3 x4 y0 y1 y2 y3 y4
        by_cases hle : e < ev
        · have HG := Hid.of hgs
          have HZN := Hid.of hzn
          have HYA := Hid.of hya
          have HYL := Hid.of hyl
          have KEY : Hid (Calls Tryd.prog 37 #[mval ⟨(st : Int), (ev : Int), starts, ars, ends⟩ ⟨a1, c1, a2, c2, a3, c3⟩, .slice xa p.1.1.length xc, .int .i64 e] wr.drew fun r w' => GivesO wr.drew (stepL ars p.1.1 (e : Int)) r w') := refStep_own ⟨(st : Int), (ev : Int), starts, ars, ends⟩ ⟨a1, c1, a2, c2, a3, c3⟩ xa xc p.1.1 (e : Int) wr.drew (h.out.a.below HR.out.bel.drew (Nat.le_refl _)) (Nat.le_trans hlen.out (by decide)) (At.drewN hxa 1) hxl
          clear hxa hxl hya hyl hzn hg hgs
          have CY := Hid.of cy
          have CZ := Hid.of cz
          clear cy cz y0 y1 y2 y3 y4
          go_wp2_with fail
          go_region_held3 (fun w' => w'.cell? ⟨w.heap.size, 0, none⟩ = some (.int .i64 st) ∧ w'.cell? ⟨w.heap.size, 1, none⟩ = some (.int .i64 ev) ∧ w'.cell? ⟨w.heap.size, 2, none⟩ = some (.slice a1 starts.length c1) ∧ w'.cell? ⟨w.heap.size, 3, none⟩ = some (.slice a2 ars.length c2) ∧ w'.cell? ⟨w.heap.size, 4, none⟩ = some (.slice a3 ends.length c3) ∧ w'.cell? ⟨g, k * 3, none⟩ = some (.slice xa p.1.1.length xc)) (go_keep) (first | (go_at_call 37; refine KEY.out.mono ?_; rintro r wL ⟨v8, rfl, o8, b8⟩; have GL : Hid (Below wr.heap.size wr wL) := ((Below.refl _ wr).drew).trans b8; obtain ⟨xx0, xx1, xx2, xx3, xx4⟩ := mcell_at (HR.out.below GL.out).ka; dsimp only at xx0 xx1 xx2 xx3 xx4; have cc1 := (GL.out.cell (p := ⟨g, k * 3, none⟩) HG.out).trans cx; have O8 := Hid.of o8; clear b8 o8))
          clear KEY xx0 xx1 xx2 xx3 xx4 cc1 x0 x1 x2 x3 x4 cx
          have HRL := Hid.of (HR.out.below GL.out)
          have CYL : wL.cell? ⟨g, k * 3 + 1, none⟩ = some (.slice ya p.1.2.length yc) := (GL.out.cell (p := ⟨g, k * 3 + 1, none⟩) HG.out).trans CY.out
          have CZL : Hid (wL.cell? ⟨g, k * 3 + 2, none⟩ = some (.slice za p.2.length zc)) := (GL.out.cell (p := ⟨g, k * 3 + 2, none⟩) HG.out).trans CZ.out
          have IZL := Hid.of (IZ.out.below GL.out HR.out.bel.size)
          have HYL1 : Hid (At wL ya p.1.2) := HYA.out.below GL.out (Nat.le_refl _)
          have HGL : Hid (g < wL.heap.size) := Nat.lt_of_lt_of_le HG.out GL.out.size
          have I8 : Hid (InnW w.heap.size wL v8 (stepL ars p.1.1 (e : Int))) := InnW.of_own O8.out
          clear HR GL HG CY CZ IZ HYA O8
          obtain ⟨y0, y1, y2, y3, y4⟩ := mcell_at HRL.out.kb
          dsimp only at y0 y1 y2 y3 y4
          have KEY : Hid (Calls Tryd.prog 37 #[mval ⟨(sb : Int), (eb : Int), startsB, arsB, endsB⟩ ⟨b1, d1, b2, d2, b3, d3⟩, .slice ya p.1.2.length yc, .int .i64 e] wL.drew fun r w' => GivesO wL.drew (stepL arsB p.1.2 (e : Int)) r w') := refStep_own ⟨(sb : Int), (eb : Int), startsB, arsB, endsB⟩ ⟨b1, d1, b2, d2, b3, d3⟩ ya yc p.1.2 (e : Int) wL.drew (h'.out.a.below HRL.out.bel.drew (Nat.le_refl _)) (Nat.le_trans hlenB.out (by decide)) (At.drewN HYL1.out 1) HYL.out
          clear HYL1
          obtain ⟨xs, HXS⟩ : ∃ xs, Hid (xs = stepL ars p.1.1 (e : Int)) := ⟨_, rfl⟩
          rw [← HXS.out] at I8
          obtain ⟨xa, xc, rfl, -, -, -⟩ := I8.out.at
          go_wp2_with fail
          go_region_held3 (fun w' => w'.cell? ⟨w.heap.size + 1, 0, none⟩ = some (.int .i64 sb) ∧ w'.cell? ⟨w.heap.size + 1, 1, none⟩ = some (.int .i64 eb) ∧ w'.cell? ⟨w.heap.size + 1, 2, none⟩ = some (.slice b1 startsB.length d1) ∧ w'.cell? ⟨w.heap.size + 1, 3, none⟩ = some (.slice b2 arsB.length d2) ∧ w'.cell? ⟨w.heap.size + 1, 4, none⟩ = some (.slice b3 endsB.length d3) ∧ w'.cell? ⟨g, k * 3 + 1, none⟩ = some (.slice ya p.1.2.length yc)) (go_keep) (first | (go_at_call 37; refine KEY.out.mono ?_; rintro r wM ⟨v9, rfl, o9, b9⟩; have GL : Hid (Below wL.heap.size wL wM) := ((Below.refl _ wL).drew).trans b9; obtain ⟨xx0, xx1, xx2, xx3, xx4⟩ := mcell_at (HRL.out.below GL.out).kb; dsimp only at xx0 xx1 xx2 xx3 xx4; have cc1 := (GL.out.cell (p := ⟨g, k * 3 + 1, none⟩) HGL.out).trans CYL; have O9 := Hid.of o9; clear b9 o9))
          clear KEY xx0 xx1 xx2 xx3 xx4 cc1 y0 y1 y2 y3 y4 CYL
          have HRM := Hid.of (HRL.out.below GL.out)
          have CZM : Hid (wM.cell? ⟨g, k * 3 + 2, none⟩ = some (.slice za p.2.length zc)) := (GL.out.cell (p := ⟨g, k * 3 + 2, none⟩) HGL.out).trans CZL.out
          have IZM := Hid.of (IZL.out.below GL.out HRL.out.bel.size)
          have I8M := Hid.of (I8.out.below GL.out HRL.out.bel.size)
          obtain ⟨ys, HYS⟩ : ∃ ys, Hid (ys = stepL arsB p.1.2 (e : Int)) := ⟨_, rfl⟩
          rw [← HYS.out] at O9
          have I9M : Hid (InnW w.heap.size wM v9 ys) := InnW.of_own O9.out
          clear HRL GL HGL CZL IZL I8 O9
          have HST : Hid (bfStep (bothD ars arsB) p L1 e = if knownB L1 (xs, ys) = true then L1 else L1 ++ [((xs, ys), p.2 ++ [(e : Int)])]) := by
            show _ = _
            unfold bfStep bothD; rw [← HXS.out, ← HYS.out]
          obtain ⟨xa', xc', hxe, hxa, hxl, -⟩ := I8M.out.at
          cases hxe
          obtain ⟨yb, yd, rfl, hya, hyl, -⟩ := I9M.out.at
          obtain ⟨g', cap', hv, -, -, -, hcp⟩ := HRM.out.ow.cellsP (by omega)
          cases hv
          have KEYK : Hid (Calls Tryd.prog 117 #[.slice (some ⟨g, 0, none⟩) L1.length cap, .slice xa xs.length xc, .slice yb ys.length yd] wM fun r w' => r = .returned (.bool (knownB L1 (xs, ys))) ∧ ∃ q, w' = wM.drewN q) := known_some g 0 cap xa yb xc yd L1 xs ys wM (by omega) (Hid.of hcp) (Hid.of hxa) (Hid.of hxl) (Hid.of hya) (Hid.of hyl)
          clear hcp hxa hxl hya hyl
          go_wp2_with fail
          refine KEYK.out.mono ?_
          rintro r wF ⟨rfl, q, rfl⟩
          clear KEYK
          replace HRM : Hid (PL w (wM.drewN q) ⟨(st : Int), (ev : Int), starts, ars, ends⟩ ⟨(sb : Int), (eb : Int), startsB, arsB, endsB⟩ ⟨a1, c1, a2, c2, a3, c3⟩ ⟨b1, d1, b2, d2, b3, d3⟩ (.slice (some ⟨g, 0, none⟩) L1.length cap) L1) := HRM.out.below (below_drewN (Below.refl _ _) q)
          replace IZM : Hid (InnW w.heap.size (wM.drewN q) (.slice za p.2.length zc) p.2) := IZM.out
          replace I8M : Hid (InnW w.heap.size (wM.drewN q) (.slice xa xs.length xc) xs) := I8M.out
          replace I9M : Hid (InnW w.heap.size (wM.drewN q) (.slice yb ys.length yd) ys) := I9M.out
          replace CZM : Hid ((wM.drewN q).cell? ⟨g, k * 3 + 2, none⟩ = some (.slice za p.2.length zc)) := CZM.out
          revert HRM IZM I8M I9M CZM
          generalize wM.drewN q = U
          intro HRM IZM I8M I9M CZM
          cases hkn : knownB L1 (xs, ys) with
          | true =>
            have HNX : Hid (bfRow (bothD ars arsB) p L (e + 1) = L1) := by show _ = _; rw [HSuc.out, HST.out, if_pos hkn]
            clear hkn
            go_wp2_with fail
            go_roundw
            case rel => exact ⟨e + 1, by go_num, by omega, (by show PL _ _ _ _ _ _ _ _; rw [HNX.out]; exact HRM.out)⟩
            case measure => simp [intOf]; omega
          | false =>
            have HNX : Hid (bfRow (bothD ars arsB) p L (e + 1) = L1 ++ [((xs, ys), p.2 ++ [(e : Int)])]) := by show _ = _; rw [HSuc.out, HST.out, if_neg (by rw [hkn]; simp)]
            clear hkn
            have bU : Below U.heap.size U (U.alloc (.cells #[] 3)) := (Below.refl _ _).alloc (Nat.le_refl _) _
            have cz : (U.alloc (.cells #[] 3)).cell? ⟨g, k * 3 + 2, none⟩ = some (.slice za p.2.length zc) := by
              obtain ⟨g', cap', hv, -, hgU, -, -⟩ := HRM.out.ow.cellsP (by omega)
              exact (bU.cell (p := ⟨g, k * 3 + 2, none⟩) (by cases hv; exact hgU)).trans CZM.out
            have o0 := own_empty U
            have atz : At (U.alloc (.cells #[] 3)) za p.2 := by
              obtain ⟨za', zc', hze, hza, -, -⟩ := (IZM.out.below bU HRM.out.bel.size).at
              cases hze; exact hza
            have hw' := hwl.out
            have HBU := Hid.of HRM.out.hB
            have HSU : Hid (w.heap.size ≤ U.heap.size) := HRM.out.bel.size
            go_wp2_with (at_builtin; refine wpList_append_ints _ rfl (.tmp 50) (.tmp 55) 22 rfl U.heap.size k0 Tryd.underlying22 ki kz0 kz1 kz2 _ [] rfl o0 za zc p.2 rfl atz HZN.out (by simp only [List.length_nil]; omega) (by simp) ?_)
            intro v1 u1 o1 b1 s1
            replace o1 : Own u1 U.heap.size v1 p.2 := o1
            have bb1 : Below U.heap.size U u1 := bU.trans b1
            clear o0 cz atz b1 bU
            obtain ⟨va, vc, rfl, -, -, -, -⟩ := o1.at2
            have O1 := Hid.of o1
            have BB1 := Hid.of bb1
            clear o1 bb1
            go_wp2_with (at_builtin; refine wpList_append_ints _ rfl (.tmp 56) (.tmp 58) 22 rfl U.heap.size k0 Tryd.underlying22 ki kz0 kz1 kz2 _ p.2 rfl (World.ownsRow.alloc O1.out _) (some ⟨u1.heap.size, 0, none⟩) 1 [(e : Int)] rfl (at_onew u1 (e : Int)) (fun h => by cases h) (by simp only [List.length_cons, List.length_nil]; omega) (by simp; omega) ?_)
            intro v2 u2 o2 b2 s2
            have BB2 : Hid (Below U.heap.size U u2) := (BB1.out.alloc s1 _).trans b2
            clear b2 O1 BB1
            obtain ⟨va2, vc2, hv2, -, -, -, -⟩ := o2.at2
            have hl2 : (p.2 ++ [(e : Int)]).length = p.2.length + 1 := by simp
            rw [hl2] at hv2
            subst hv2
            have I2 : Hid (InnW w.heap.size u2 (.slice va2 (p.2.length + 1) vc2) (p.2 ++ [(e : Int)])) := InnW.of_own o2
            clear o2 hl2
            have HR2 := Hid.of (HRM.out.below BB2.out)
            have I82 := Hid.of (I8M.out.below BB2.out HSU.out)
            have I92 := Hid.of (I9M.out.below BB2.out HSU.out)
            clear HRM I8M I9M IZM CZM BB2 s1 s2
            obtain ⟨vs, ho, hin⟩ := HR2.out.ow
            have HO := Hid.of ho
            have HIN := Hid.of hin
            clear ho hin
            have hB2 := HR2.out.hB
            have bV : Below u2.heap.size u2 (u2.alloc (.cells #[.slice xa xs.length xc, .slice yb ys.length yd, .slice va2 (p.2.length + 1) vc2] 132)) := (Below.refl _ _).alloc (Nat.le_refl _) _
            have BV := Hid.of bV
            clear bV
            go_wp2_with (at_builtin; refine wpList_append_block _ rfl (.tmp 60) (.tmp 65) 129 rfl (w.heap.size + 2) 132 i0 (.agg #[.slice none 0 0, .slice none 0 0, .slice none 0 0]) 3 72 Tryd.underlying129 hi hz0 hz1 hz2 rfl (by decide) _ _ _ rfl (World.ownsRow.alloc HO.out _) ⟨u2.heap.size, 0, none⟩ 1 1 [.slice xa xs.length xc, .slice yb ys.length yd, .slice va2 (p.2.length + 1) vc2] rfl rfl (cell_three_new _ _ _ _ _) (by intro u hu; simp at hu; rcases hu with rfl | rfl | rfl <;> rfl) (by decide) (by unfold maxLen; omega) (by omega) (by simp; omega) ?_)
            intro v7 w7 o7 g7 n7
            have P1 := Hid.of (PL.push (p := ((xs, ys), p.2 ++ [(e : Int)])) HR2.out BV.out (World.ownsRow.alloc HO.out _) (fun j x xs e1 e2 => (HIN.out j x xs e1 e2).below BV.out HR2.out.bel.size) (I82.out.below BV.out HR2.out.bel.size) (I92.out.below BV.out HR2.out.bel.size) (I2.out.below BV.out HR2.out.bel.size) o7 g7)
            clear o7 g7 n7 HO HIN HR2 I2 I82 I92 BV hB2
            go_wp2_with fail
            go_roundw
            case rel => exact ⟨e + 1, by go_num, by omega, (by show PL _ _ _ _ _ _ _ _; rw [HNX.out]; exact P1.out)⟩
            case measure => simp [intOf]; omega
        · have he2 : ev = e := by omega
          subst he2
          have HIN := Hid.of (bi_next _ HI.out HP.out)
          rw [← HL1.out] at HIN
          have HEN : Hid (plcAll ⟨(st : Int), (ev : Int), starts, ars, ends⟩ ⟨(sb : Int), (eb : Int), startsB, arsB, endsB⟩ = bfGo (bothD ars arsB) ev (4097 - (k + 1)) (k + 1) L1) := by
            show _ = _
            rw [HE.out, show 4097 - k = (4097 - (k + 1)) + 1 by omega, bfGo_next HP.out, HL1.out]
          clear hxa hxl hya hyl hzn cx cy cz
          go_wp2_with fail
          go_roundw
          case rel => exact ⟨k + 1, L1, by go_num, by omega, HR, HIN, HEN⟩
          case measure => simp [intOf]; omega
    · have HF : Hid (plcAll ⟨(st : Int), (ev : Int), starts, ars, ends⟩ ⟨(sb : Int), (eb : Int), startsB, arsB, endsB⟩ = L) := by show _ = _; rw [HE.out, bfGo_stop hlt]
      go_wp2_with fail
      go_ret
      exact ⟨_, rfl, by rw [HF.out]; exact HR.out.ow, HR.out.bel⟩

end Go.Proofs.YtcbdjjkebpncmaaDoor
namespace Go.Proofs.YtcbdjjkebpncmaaDoor
open Go.RowKit
set_option linter.unusedVariables false

/-- Of the first k numbers those that are (b = true) or are not in ys. -/
def onlyTo (xs ys : List Int) (b : Bool) (k : Nat) : List Int := (xs.take k).filter (fun n => hasB ys n == b)

theorem onlyTo_len (xs ys : List Int) (b : Bool) (k : Nat) : (onlyTo xs ys b k).length ≤ k := Nat.le_trans (List.length_filter_le _ _) (List.length_take_le _ _)
theorem onlyTo_all {xs : List Int} (ys : List Int) (b : Bool) {k : Nat} (h : ¬ k < xs.length) : onlyTo xs ys b k = xs.filter (fun n => hasB ys n == b) := by
  rw [onlyTo, List.take_of_length_le (by omega)]
theorem onlyTo_hit {xs ys : List Int} {b : Bool} {k : Nat} {x : Int} (h : k < xs.length) (hx : Hid (x = xs[k]?.getD 0)) (hb : hasB ys x = b) : onlyTo xs ys b (k + 1) = onlyTo xs ys b k ++ [x] := by
  have hx := hx.out
  rw [List.getElem?_eq_getElem h] at hx
  simp only [Option.getD_some] at hx
  rw [onlyTo, onlyTo, List.take_add_one, List.getElem?_eq_getElem h, List.filter_append]
  simp [← hx, hb]
theorem onlyTo_miss {xs ys : List Int} {b : Bool} {k : Nat} {x : Int} (h : k < xs.length) (hx : Hid (x = xs[k]?.getD 0)) (hb : ¬ hasB ys x = b) : onlyTo xs ys b (k + 1) = onlyTo xs ys b k := by
  have hx := hx.out
  rw [List.getElem?_eq_getElem h] at hx
  simp only [Option.getD_some] at hx
  rw [onlyTo, onlyTo, List.take_add_one, List.getElem?_eq_getElem h, List.filter_append]
  simp [← hx, hb]

set_option maxHeartbeats 1600000 in
set_option maxRecDepth 100000 in
theorem only_some (bx ox cx cy : Nat) (ay : Option Addr) (xs ys : List Int) (bb : Bool) (w : World) (hl : xs.length ≤ 17592186044416) (hbx : bx < w.heap.size) (hc : Cells w bx ox xs) (ht : At w ay ys) (hm : ys.length ≤ maxLen) :
    Calls Tryd.prog 38 #[.slice (some ⟨bx, ox, none⟩) xs.length cx, .slice ay ys.length cy, .bool bb] w fun e w' => ∃ v, e = .returned v ∧ Own w' w.heap.size v (xs.filter (fun n => hasB ys n == bb)) ∧ Below w.heap.size w w' := by
  obtain ⟨i0, hi, hz0, hz1, hz2⟩ := info_parts Tryd.infoInt
  go_enter Tryd.func38, Tryd.ntmps38
  go_wp2
  go_loopw [7, 8] (fun v i wr => ∃ k : Nat, k ≤ xs.length ∧ i = .int .i64 k ∧ Own wr w.heap.size v (onlyTo xs ys bb k) ∧ Below w.heap.size w wr) (fun _ i _ => xs.length - (intOf i).toNat)
  case atStart => exact ⟨0, Nat.zero_le _, rfl, own_nil _ _, Below.refl _ _⟩
  case round =>
    obtain ⟨k, hk, rfl, hown, hbel⟩ := hrel
    by_cases hlt : k < xs.length
    · obtain ⟨x, HX, hcx0⟩ := hc.at hlt
      have hcx : wr.cell? ⟨bx, ox + k, none⟩ = some (.int .i64 x) := (hbel.cell (p := ⟨bx, ox + k, none⟩) hbx).trans hcx0
      clear hcx0
      have htr : At wr ay ys := ht.below hbel (Nat.le_refl _)
      have hsz := hbel.size
      have hll := onlyTo_len xs ys bb k
      go_wp2_with fail
      refine (refHas_any ay cy ys x _ htr hm).mono ?_
      rintro e w' ⟨rfl, rfl⟩
      by_cases hh : hasB ys x = bb
      · have HH : Hid (hasB ys x = bb) := hh
        have d : (hasB ys x == bb) = true := by simp [hh]
        clear hh
        go_wp2_with (at_builtin; refine wpList_append_own _ rfl _ _ 22 rfl w.heap.size 3 i0 (.int .i64 0) 1 8 Tryd.underlying22 hi hz0 hz1 hz2 rfl (by decide) _ _ _ rfl (World.ownsRow.alloc hown _) ⟨w'.heap.size, 0, none⟩ 1 1 [.int .i64 x] rfl rfl (cell_one_new _ _ _) (by intro u hu; simp at hu; subst hu; rfl) (by unfold maxLen; omega) (by omega) (by simp; omega) ?_)
        intro v' w1 hown' hgrow _
        obtain ⟨r1, r2, -⟩ := own_snoc hown hbel hsz hown' hgrow
        rw [← onlyTo_hit hlt HX HH.out] at r1
        clear hown' hgrow hown hcx htr
        go_wp2
        go_roundw
        case rel => exact ⟨k + 1, by omega, by go_num, r1, r2⟩
        case measure => simp [intOf]; omega
      · have d : (hasB ys x == bb) = false := by simp [hh]
        have r1 := hown
        rw [← onlyTo_miss hlt HX hh] at r1
        go_wp2
        go_roundw
        case rel => exact ⟨k + 1, by omega, by go_num, r1, hbel⟩
        case measure => simp [intOf]; omega
    · rw [onlyTo_all ys bb hlt] at hown
      go_wp2
      go_ret
      exact ⟨_, rfl, hown, hbel⟩

set_option maxHeartbeats 400000 in
theorem only_nil (a ay : Option Addr) (cx cy : Nat) (ys : List Int) (bb : Bool) (w : World) :
    Calls Tryd.prog 38 #[.slice a 0 cx, .slice ay ys.length cy, .bool bb] w fun e w' => e = .returned (.slice none 0 0) ∧ w' = w := by
  go_enter Tryd.func38, Tryd.ntmps38
  go_wp2
  refine wp_loop_rounds 1 ?_
  rw [rounds_succ]
  go_wp2
  go_ret
  exact ⟨rfl, rfl⟩

theorem only_any (a ay : Option Addr) (cx cy : Nat) (xs ys : List Int) (bb : Bool) (w : World) (hs : At w a xs) (hl : xs.length ≤ 17592186044416) (ht : At w ay ys) (hm : ys.length ≤ maxLen) :
    Calls Tryd.prog 38 #[.slice a xs.length cx, .slice ay ys.length cy, .bool bb] w fun e w' => Gives w (xs.filter (fun n => hasB ys n == bb)) e w' := by
  rcases hs with rfl | ⟨b, off, rfl, hb, hc⟩
  · refine (only_nil a ay cx cy ys bb w).mono ?_
    rintro e w' ⟨rfl, rfl⟩
    exact gives_of_own (B := w'.heap.size) (own_nil _ _) (Below.refl _ _)
  · refine (only_some b off cx cy ay xs ys bb w hl hb hc ht hm).mono ?_
    rintro e w' ⟨v, rfl, h1, h2⟩
    exact gives_of_own h1 h2

end Go.Proofs.YtcbdjjkebpncmaaDoor
namespace Go.Proofs.YtcbdjjkebpncmaaDoor
open Go.RowKit
set_option linter.unusedVariables false

set_option maxHeartbeats 400000 in
theorem refAhead_any (a b : Arr) (w : World) :
    Calls Tryd.prog 32 #[.agg #[.int .i64 a.f, .int .i64 a.e, .int .i64 a.t], .agg #[.int .i64 b.f, .int .i64 b.e, .int .i64 b.t]] w fun e w' => e = .returned (.bool (aheadB a b)) ∧ Below w.heap.size w w' := by
  obtain ⟨af, ae, at'⟩ := a
  obtain ⟨bf, be, bt⟩ := b
  by_cases h1 : af = bf
  · have d1 : (af != bf) = false := by simp [h1]
    have H1 : Hid (af = bf) := h1
    clear h1
    by_cases h2 : ae = be
    · have d2 : (ae != be) = false := by simp [h2]
      have H2 : Hid (ae = be) := h2
      clear h2
      go_enter Tryd.func32, Tryd.ntmps32
      go_wp2
      go_ret
      exact ⟨ret_bool (by simp [aheadB, H1.out, H2.out]), ((Below.refl _ _).alloc (Nat.le_refl _) _).alloc (by simp) _⟩
    · have d2 : (ae != be) = true := by simp [h2]
      go_enter Tryd.func32, Tryd.ntmps32
      go_wp2
      go_ret
      exact ⟨ret_bool (by simp [aheadB, H1.out, h2]), ((Below.refl _ _).alloc (Nat.le_refl _) _).alloc (by simp) _⟩
  · have d1 : (af != bf) = true := by simp [h1]
    go_enter Tryd.func32, Tryd.ntmps32
    go_wp2
    go_ret
    exact ⟨ret_bool (by simp [aheadB, h1]), ((Below.refl _ _).alloc (Nat.le_refl _) _).alloc (by simp) _⟩

theorem below_call {B n : Nat} {W0 wr w1 : World} {o : Obj} (h : Below B W0 wr) (hB : B ≤ wr.heap.size) (h1 : Below n ((wr.alloc o).drew) w1) (hn : B ≤ n) : Below B W0 w1 :=
  (h.alloc hB o).drew.trans (h1.mono hn)

end Go.Proofs.YtcbdjjkebpncmaaDoor
