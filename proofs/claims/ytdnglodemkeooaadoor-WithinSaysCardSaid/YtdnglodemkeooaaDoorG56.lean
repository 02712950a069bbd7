/-
  The walk of within.refuse.
  The walk of within.wordTo: the word by which a place was found.
-/
import Derived.Test.YtdnglodemkeooaaDoorG54
import Derived.Test.YtdnglodemkeooaaDoorG07
import Derived.Test.YtdnglodemkeooaaDoorG04
import Derived.Test.YtdnglodemkeooaaDoorCAppInts
namespace Go.Proofs.YtdnglodemkeooaaDoor
open Go.RowKit
set_option linter.unusedVariables false

/-- What refuse tells. -/
def refB (a b : Mach) : Int := (withOut a b).2.2

set_option maxRecDepth 100000 in
set_option maxHeartbeats 8000000 in
theorem wrefuse_any (a b : Mach) (la lb : ML) (w : World) (h : Hid (MAt w a la)) (h' : Hid (MAt w b lb)) :
    Calls Tryd.prog 86 #[mval a la, mval b lb] w fun e w' => e = .returned (.int .i64 (refB a b)) ∧ Below w.heap.size w w' := by
  have B0 : Hid (Below w.heap.size w ((w.alloc (.cells (mcells a la) 25)).alloc (.cells (mcells b lb) 25))) := ((Below.refl _ _).alloc (Nat.le_refl _) _).alloc (by simp) _
  have KA0 : Hid (Blk ((w.alloc (.cells (mcells a la) 25)).alloc (.cells (mcells b lb) 25)) w.heap.size 25 (mcells a la)) := (Blk.new w _ _).alloc _
  have KB0 : Hid (Blk ((w.alloc (.cells (mcells a la) 25)).alloc (.cells (mcells b lb) 25)) (w.heap.size + 1) 25 (mcells b lb)) := by
    have := Blk.new (w.alloc (.cells (mcells a la) 25)) 25 (mcells b lb)
    rwa [World.size_alloc] at this
  go_enter Tryd.func86, Tryd.ntmps86
  go_wp2_with fail
  revert B0 KA0 KB0
  generalize (w.alloc (.cells (mcells a la) 25)).alloc (.cells (mcells b lb) 25) = V0
  intro B0 KA0 KB0
  refine (pMay_any a la _ (h.out.below B0.out (Nat.le_refl _))).mono ?_
  rintro e V ⟨rfl, hb1⟩
  have B1 := Hid.of (B0.out.trans (hb1.mono B0.out.size))
  have KA1 := Hid.of (KA0.out.below hb1 KA0.out.lt)
  have KB1 := Hid.of (KB0.out.below hb1 KB0.out.lt)
  clear hb1 B0 KA0 KB0
  cases hma : mayB a with
  | false =>
    have HW : Hid (refB a b = 2) := by show _ = _; unfold refB withOut; rw [if_neg (by rw [hma]; simp)]
    clear hma
    go_wp2_with fail
    exact bodyPost_ret (v := .int .i64 2) (by simp [results, go_sem]) rfl ⟨by rw [HW.out], B1.out⟩
  | true =>
    have HA := Hid.of hma
    clear hma
    obtain ⟨y0, y1, y2, y3, y4⟩ := mcell_at KB1.out
    go_wp2_with fail
    refine (pMay_any b lb _ (h'.out.below B1.out (Nat.le_refl _))).mono ?_
    rintro e V2 ⟨rfl, hb1⟩
    have B2 := Hid.of (B1.out.trans (hb1.mono B1.out.size))
    have KA2 := Hid.of (KA1.out.below hb1 KA1.out.lt)
    have KB2 := Hid.of (KB1.out.below hb1 KB1.out.lt)
    clear hb1 B1 KA1 KB1 y0 y1 y2 y3 y4
    cases hmb : mayB b with
    | false =>
      have HW : Hid (refB a b = 2) := by show _ = _; unfold refB withOut; rw [if_neg (by rw [hmb]; simp)]
      clear hmb
      go_wp2_with fail
      exact bodyPost_ret (v := .int .i64 2) (by simp [results, go_sem]) rfl ⟨by rw [HW.out], B2.out⟩
    | true =>
      have HB := Hid.of hmb
      clear hmb
      have HW : Hid (withOut a b = if a.ev = b.ev then if a.st ≤ 6 ∧ b.st ≤ 6 then ((outW a b).isNone, (outW a b).getD [], 0) else (false, [], 1) else (false, [], 3)) := by show _ = _; unfold withOut; rw [if_pos ⟨HA.out, HB.out⟩]
      obtain ⟨st, ev, starts, ars, ends⟩ := a
      obtain ⟨sb, eb, startsB, arsB, endsB⟩ := b
      obtain ⟨a1, c1, a2, c2, a3, c3⟩ := la
      obtain ⟨b1, d1, b2, d2, b3, d3⟩ := lb
      obtain ⟨x0, x1, x2, x3, x4⟩ := mcell_at KA2.out
      obtain ⟨y0, y1, y2, y3, y4⟩ := mcell_at KB2.out
      dsimp only at x0 x1 x2 x3 x4 y0 y1 y2 y3 y4 HW
      by_cases he : ev = eb
      · have de : (ev != eb) = false := by rw [he]; simp
        by_cases h6 : st ≤ 6
        · have d6 : decide ((6 : Int) < st) = false := by simp; omega
          by_cases h6' : sb ≤ 6
          · have d6' : decide ((6 : Int) < sb) = false := by simp; omega
            have HE : Hid (refB ⟨st, ev, starts, ars, ends⟩ ⟨sb, eb, startsB, arsB, endsB⟩ = 0) := by show _ = _; unfold refB; rw [HW.out, if_pos he, if_pos ⟨h6, h6'⟩]
            clear he
            go_wp2_with fail
            exact bodyPost_ret (v := .int .i64 0) (by simp [results, go_sem]) rfl ⟨by rw [HE.out], B2.out⟩
          · have d6' : decide ((6 : Int) < sb) = true := by simp; omega
            have HE : Hid (refB ⟨st, ev, starts, ars, ends⟩ ⟨sb, eb, startsB, arsB, endsB⟩ = 1) := by show _ = _; unfold refB; rw [HW.out, if_pos he, if_neg (fun h => h6' h.2)]
            clear he
            go_wp2_with fail
            exact bodyPost_ret (v := .int .i64 1) (by simp [results, go_sem]) rfl ⟨by rw [HE.out], B2.out⟩
        · have d6 : decide ((6 : Int) < st) = true := by simp; omega
          have HE : Hid (refB ⟨st, ev, starts, ars, ends⟩ ⟨sb, eb, startsB, arsB, endsB⟩ = 1) := by show _ = _; unfold refB; rw [HW.out, if_pos he, if_neg (fun h => h6 h.1)]
          clear he
          go_wp2_with fail
          exact bodyPost_ret (v := .int .i64 1) (by simp [results, go_sem]) rfl ⟨by rw [HE.out], B2.out⟩
      · have de : (ev != eb) = true := by simp [he]
        have HE : Hid (refB ⟨st, ev, starts, ars, ends⟩ ⟨sb, eb, startsB, arsB, endsB⟩ = 3) := by show _ = _; unfold refB; rw [HW.out, if_neg he]
        clear he
        go_wp2_with fail
        exact bodyPost_ret (v := .int .i64 3) (by simp [results, go_sem]) rfl ⟨by rw [HE.out], B2.out⟩

end Go.Proofs.YtdnglodemkeooaaDoor
namespace Go.Proofs.YtdnglodemkeooaaDoor
open Go.RowKit
set_option linter.unusedVariables false

/-- From where, and at which event, each place but the first was found. -/
def TrL {σ : Type} (L : List PlW) (l : List (σ × List Int)) : Prop := ∀ (j : Nat) (p : PlW), 0 < j → L[j]? = some p → p.fr < j ∧ ∃ x y, l[p.fr]? = some x ∧ l[j]? = some y ∧ y.2 = x.2 ++ [(p.ev : Int)]
theorem TrL.one {σ : Type} (p : PlW) (x : σ × List Int) : TrL [p] [x] := fun j q hj h => by
  have := (List.getElem?_eq_some_iff.1 h).1
  simp at this; omega
theorem TrL.snoc {σ : Type} {L : List PlW} {l : List (σ × List Int)} (h : TrL L l) (hl : L.length = l.length) {sp : SP} {k e : Nat} {x : σ × List Int} (hx : l[k]? = some x) (s : σ) : TrL (L ++ [⟨sp, k, e⟩]) (l ++ [(s, x.2 ++ [(e : Int)])]) := by
  intro j p hj hp
  have hk := (List.getElem?_eq_some_iff.1 hx).1
  have up : ∀ {i : Nat} {y : σ × List Int}, l[i]? = some y → (l ++ [(s, x.2 ++ [(e : Int)])])[i]? = some y := fun {i y} hy => by
    rw [List.getElem?_append_left (List.getElem?_eq_some_iff.1 hy).1]; exact hy
  by_cases hlt : j < L.length
  · rw [List.getElem?_append_left hlt] at hp
    obtain ⟨h1, a, b, h2, h3, h4⟩ := h j p hj hp
    exact ⟨h1, a, b, up h2, up h3, h4⟩
  · have hk' := (List.getElem?_eq_some_iff.1 hp).1
    simp at hk'
    have e1 : j = L.length := by omega
    subst e1
    rw [List.getElem?_append_right (Nat.le_refl _)] at hp
    have : (⟨sp, k, e⟩ : PlW) = p := by simpa using hp
    subst this
    exact ⟨by show k < L.length; omega, x, (s, x.2 ++ [(e : Int)]), up hx, by rw [hl, List.getElem?_append_right (Nat.le_refl _)]; simp, rfl⟩

set_option maxRecDepth 100000 in
set_option maxHeartbeats 4000000 in
theorem wordTo_any {σ : Type} (B : Nat) (v : Value) (L : List PlW) (l : List (σ × List Int)) (s0 : σ) (k : Nat) (x : σ × List Int) (w : World) (hO : Hid (OwnW w B v L)) (hT : Hid (TrL L l)) (hd : Hid (l[0]? = some (s0, []))) (hll : Hid (L.length = l.length)) (hx : Hid (l[k]? = some x)) (hL : L.length ≤ 65536) :
    Calls Tryd.prog 113 #[v, .int .i64 k] w fun e w' => GivesO w x.2 e w' := by
  obtain ⟨j0, ji, jz0, jz1, jz2⟩ := info_parts Tryd.infoInt
  obtain ⟨va, vc, hv, -, -, -⟩ := own_form2 hO.out
  subst hv
  have hk : k < L.length := by have := (List.getElem?_eq_some_iff.1 hx.out).1; rw [hll.out]; exact this
  go_enter Tryd.func113, Tryd.ntmps113
  go_wp2
  go_loopw [1, 5] (fun i v5 wr => ∃ (j : Nat) (u : List Int), i = .int .i64 j ∧ u.length + j ≤ k ∧ Hid (Own wr w.heap.size v5 u) ∧ Hid (Below w.heap.size w wr) ∧ Hid (∃ y, l[j]? = some y ∧ x.2 = y.2 ++ u.reverse)) (fun i _ _ => (intOf i).toNat)
  case atStart => exact ⟨k, [], rfl, by simp, own_nil _ _, Below.refl _ _, ⟨x, hx.out, by simp⟩⟩
  case round =>
    obtain ⟨j, u, rfl, hju, HO, HB, HY⟩ := hrel
    obtain ⟨fa, fc, hfa, -, -, -⟩ := own_form2 HO.out
    subst hfa
    have hwz := HB.out.size
    by_cases hj : 0 < j
    · have hjl : j < L.length := by omega
      obtain ⟨p, HP⟩ : ∃ p, Hid (L[j]? = some p) := ⟨_, List.getElem?_eq_getElem hjl⟩
      obtain ⟨g, cap, hvg, hg1, hg2, hc⟩ := hO.out.cell HP.out
      cases hvg
      have d8 := (HB.out.cell (p := ⟨g, j * 10 + 8, none⟩) hg2).trans (hc 8 _ rfl)
      have d9 := (HB.out.cell (p := ⟨g, j * 10 + 9, none⟩) hg2).trans (hc 9 _ rfl)
      have HC8 := Hid.of (hc 8 _ rfl)
      clear hc
      have HN : Hid (p.fr < j ∧ ∃ y, l[p.fr]? = some y ∧ x.2 = y.2 ++ (u ++ [(p.ev : Int)]).reverse) := by
        obtain ⟨h1, a, b, h2, h3, h4⟩ := hT.out j p hj HP.out
        obtain ⟨y, h5, h6⟩ := HY.out
        rw [h3] at h5
        have := Option.some.inj h5
        subst this
        exact ⟨h1, a, h2, by rw [h6, h4]; simp⟩
      have hf := HN.out.1
      obtain ⟨f, Hf⟩ : ∃ f, Hid (f = p.fr) := ⟨_, rfl⟩
      obtain ⟨ev, He⟩ : ∃ ev, Hid (ev = p.ev) := ⟨_, rfl⟩
      rw [← Hf.out, ← He.out] at HN
      rw [← Hf.out] at hf d8 HC8
      rw [← He.out] at d9
      go_wp2_with (at_builtin; refine wpList_append_block _ rfl (.tmp 13) (.tmp 19) 22 rfl w.heap.size 3 j0 (.int .i64 0) 1 8 Tryd.underlying22 ji jz0 jz1 jz2 rfl (by decide) _ _ _ rfl (World.ownsRow.alloc HO.out _) ⟨wr.heap.size, 0, none⟩ 1 1 [.int .i64 (ev : Int)] rfl rfl (cell_one_new _ _ _) (by intro u hu; simp at hu; subst hu; rfl) (by decide) (by unfold maxLen; omega) (by omega) (by simp; omega) ?_)
      intro v9 w9 o9 g9 n9
      obtain ⟨q1, q2, q3⟩ := own_snoc HO.out HB.out hwz o9 g9
      have Q1 := Hid.of q1
      have Q2 := Hid.of q2
      have c8 := (Q2.out.cell (p := ⟨g, j * 10 + 8, none⟩) hg2).trans HC8.out
      clear q1 q2 q3 o9 g9 n9
      go_wp2_with fail
      go_roundw
      case rel => exact ⟨f, u ++ [(ev : Int)], rfl, by simp; omega, Q1, Q2, Hid.of HN.out.2⟩
      case measure => simp [intOf]; omega
    · have hj0 : j = 0 := by omega
      subst hj0
      have HX : Hid (x.2 = u.reverse) := by
        obtain ⟨y, h1, h2⟩ := HY.out
        rw [hd.out] at h1
        have := Option.some.inj h1
        subst this
        show x.2 = u.reverse
        simpa using h2
      have REV := Hid.of (revI_any wr w.heap.size (.slice fa u.length fc) u HO.out (by omega))
      go_wp2_with fail
      refine REV.out.mono ?_
      rintro e W2 ⟨rfl, r1, r2⟩
      have R1 := Hid.of r1
      have R2 := Hid.of (r2 _ _ (Nat.le_refl _) HB.out)
      clear r1 r2
      go_wp2
      exact bodyPost_ret (v := .slice fa u.length fc) (by simp [results, go_sem]) rfl ⟨_, rfl, by rw [HX.out]; exact R1.out, R2.out⟩

end Go.Proofs.YtdnglodemkeooaaDoor
