/-
  Plain: words that a veil lets be. No program, no model.
  The walk of jalousieref15.Stay.
  The walks of jalousieref15.Plain and jalousielaw.veiled.
  The walk of jalousielaw.veiled.
  Veils in memory: rows of rows, and rows of moves.
  What veil.Make leaves.
  What jalousieref15.Make knows of the memory.
-/
import Derived.Test.YtkodmnooibpflaaDoorI31
import Derived.Test.YtkodmnooibpflaaDoorER15G
import Derived.Test.YtkodmnooibpflaaDoorI14
import Derived.Test.YtkodmnooibpflaaDoorI04
import Derived.Test.YtkodmnooibpflaaDoorI05
import Derived.Test.YtkodmnooibpflaaDoorI30
import Derived.Test.YtkodmnooibpflaaDoorI06
namespace Go.Proofs.YtkodmnooibpflaaDoor
open Go.RowKit
set_option linter.unusedVariables false

/-- The move of a node and an event. -/
def mvF (mv : List Mv) (nd : Nat) (e : Int) : Option Mv := mv.find? fun m => decide (m.nd = nd) && decide (m.ev = e)
theorem one_of {l : List Int} (h : l.length = 1) : l = [l[0]?.getD 0] := by
  match l, h with
  | [t], _ => rfl
theorem step_arrow {p : Plant} {s e t : Int} (h : t ∈ stepL p.m.arrows [s] e) : ∃ a ∈ p.m.arrows, a.e = e ∧ a.f = s ∧ a.t = t := by
  obtain ⟨a, h1, h2, h3, h4⟩ := (mem_stepL _ _ _ _).1 h
  exact ⟨a, h1, h2, by simpa using h3, h4⟩
end Go.Proofs.YtkodmnooibpflaaDoor
namespace Go.Proofs.YtkodmnooibpflaaDoor
open Go.RowKit
set_option linter.unusedVariables false

theorem at_one15 (W : World) (x : Int) : At (W.alloc (.cells #[.int .i64 x] 3)) (some ⟨W.heap.size, 0, none⟩) [x] := by
 refine .inr ⟨_, 0, rfl, by simp, fun j hj => ?_⟩
 have : j = 0 := by simp at hj; omega
 subst this
 exact (Blk.new W 3 #[.int .i64 x]).cell 0 rfl

end Go.Proofs.YtkodmnooibpflaaDoor
namespace Go.Proofs.YtkodmnooibpflaaDoor
open Go.RowKit
set_option linter.unusedVariables false

/-- Is a plant plain? -/
def plainB (p : Plant) : Bool := decide (p.m.starts.length ≤ 1) && (List.range p.m.st.toNat).all fun s => (List.range p.m.ev.toNat).all fun e => decide ((stepL p.m.arrows [(s : Int)] (e : Int)).length ≤ 1)
theorem plain_yes {p : Plant} {S E : Nat} (h1 : ¬ 1 < p.m.starts.length) (hS : p.m.st = (S : Int)) (hE : p.m.ev = (E : Int)) (h : ∀ s, s < S → ∀ e, e < E → (stepL p.m.arrows [(s : Int)] (e : Int)).length ≤ 1) : plainB p = true := by
  unfold plainB
  rw [Bool.and_eq_true, decide_eq_true_eq, hS, hE, Int.toNat_natCast, Int.toNat_natCast, List.all_eq_true]
  refine ⟨by omega, fun s hs => List.all_eq_true.2 fun e he => decide_eq_true (h s (List.mem_range.1 hs) e (List.mem_range.1 he))⟩
theorem plain_no {p : Plant} {S E s e : Nat} (hS : p.m.st = (S : Int)) (hE : p.m.ev = (E : Int)) (hs : s < S) (he : e < E) (h : 1 < (stepL p.m.arrows [(s : Int)] (e : Int)).length) : plainB p = false := by
  cases hb : plainB p with
  | false => rfl
  | true =>
    unfold plainB at hb
    rw [Bool.and_eq_true, hS, hE, Int.toNat_natCast, Int.toNat_natCast, List.all_eq_true] at hb
    have := List.all_eq_true.1 (hb.2 s (List.mem_range.2 hs)) e (List.mem_range.2 he)
    rw [decide_eq_true_eq] at this
    omega
theorem plain_many {p : Plant} (h : 1 < p.m.starts.length) : plainB p = false := by
  unfold plainB
  rw [decide_eq_false (by omega)]; rfl

set_option maxRecDepth 100000 in
set_option maxHeartbeats 8000000 in
theorem rplain_any (p : Plant) (Pl : ML) (sa : Option Addr) (sc : Nat) (ta : Option Addr) (tc : Nat) (w : World) (h : Hid (PAt w p ⟨Pl, sa, sc, ta, tc⟩)) (hp : Hid (mayP p = true)) :
    Calls Tryd.prog 89 #[ptval p ⟨Pl, sa, sc, ta, tc⟩] w fun e w' => e = .returned (.bool (plainB p)) ∧ Below w.heap.size w w' := by
  have hmP := (mayP_iff p).1 hp.out
  have hz := mayB_size hmP.1
  unfold sizeOk at hz
  have hal : Hid (p.m.arrows.length ≤ 4096) := by show _ ≤ _; omega
  obtain ⟨S, hS, hS6⟩ : ∃ S : Nat, Hid (p.m.st = (S : Int)) ∧ S ≤ 6 := ⟨p.m.st.toNat, by show _ = _; omega, by omega⟩
  obtain ⟨E, hE, hE9⟩ : ∃ E : Nat, Hid (p.m.ev = (E : Int)) ∧ E ≤ 4096 := ⟨p.m.ev.toNat, by show _ = _; omega, by omega⟩
  have hsl : p.m.starts.length ≤ 9223372036854775807 := by
    have h2 := may_starts hmP.1
    have := nodup_len 256 _ (inc_nodup h2.1) (fun x hx => by have := h2.2 x hx; omega)
    omega
  clear hmP hz
  have B : Hid (Below w.heap.size w (w.alloc (.cells (ptcells p ⟨Pl, sa, sc, ta, tc⟩) 44))) := (Below.refl _ _).alloc (Nat.le_refl _) _
  have KP : Hid (Blk (w.alloc (.cells (ptcells p ⟨Pl, sa, sc, ta, tc⟩) 44)) w.heap.size 44 (ptcells p ⟨Pl, sa, sc, ta, tc⟩)) := Blk.new w _ _
  go_enter Tryd.func89, Tryd.ntmps89
  obtain ⟨x0, x1, x2, x3, x4, x5, x6⟩ := ptcell_at KP.out
  by_cases h1 : 1 < p.m.starts.length
  · have HEND := Hid.of (plain_many h1)
    have d1 : decide ((1 : Int) < (p.m.starts.length : Int)) = true := by simp; omega
    go_wp2_with fail
    go_ret
    exact ⟨ret_bool HEND.out.symm, B.out⟩
  · have H1 := Hid.of h1
    have d1 : decide ((1 : Int) < (p.m.starts.length : Int)) = false := by simp; omega
    go_wp2_with fail
    clear x0 x1 x2 x3 x4 x5 x6 d1 h1
    revert B KP
    generalize w.alloc (.cells (ptcells p ⟨Pl, sa, sc, ta, tc⟩) 44) = V
    intro B KP
    have BV0 : Hid (Below V.heap.size V V) := Below.refl _ _
    go_loopw [3] (fun x wr => ∃ k : Nat, x = .int .i64 k ∧ k ≤ S ∧ Hid (Below V.heap.size V wr) ∧ Hid (∀ s : Nat, s < k → ∀ e : Nat, e < E → (stepL p.m.arrows [(s : Int)] (e : Int)).length ≤ 1)) (fun x _ => S - (intOf x).toNat)
    case atStart => exact ⟨0, rfl, Nat.zero_le _, BV0, fun s hs => by omega⟩
    case round =>
      clear BV0
      obtain ⟨k, rfl, hk, BV, HA⟩ := hrel
      obtain ⟨y0, y1, y2, y3, y4, y5, y6⟩ := ptcell_at (KP.out.below BV.out KP.out.lt)
      rw [hS.out] at y0
      by_cases hks : k < S
      · have hkI : (k : Int) < (S : Int) := by omega
        go_wp2_with fail
        clear y0 y1 y2 y3 y4 y5 y6
        have HB0 : Hid (∀ e : Nat, e < 0 → (stepL p.m.arrows [(k : Int)] (e : Int)).length ≤ 1) := fun s hs => by omega
        go_loopw [4] (fun x wr => ∃ j : Nat, x = .int .i64 j ∧ j ≤ E ∧ Hid (Below V.heap.size V wr) ∧ Hid (∀ e : Nat, e < j → (stepL p.m.arrows [(k : Int)] (e : Int)).length ≤ 1)) (fun x _ => E - (intOf x).toNat)
        case atStart => exact ⟨0, rfl, Nat.zero_le _, BV, HB0⟩
        case round =>
          clear BV HB0
          obtain ⟨j, rfl, hj, BV, HB⟩ := hrel
          obtain ⟨y0, y1, y2, y3, y4, y5, y6⟩ := ptcell_at (KP.out.below BV.out KP.out.lt)
          rw [hE.out] at y1
          by_cases hje : j < E
          · have hjI : (j : Int) < (E : Int) := by omega
            have A1 : Hid (At (wr.alloc (.cells #[.int .i64 (k : Int)] 3)) (some ⟨wr.heap.size, 0, none⟩) [(k : Int)]) := at_one15 wr (k : Int)
            have b1 : Below wr.heap.size wr (wr.alloc (.cells #[.int .i64 (k : Int)] 3)) := (Below.refl _ _).alloc (Nat.le_refl _) _
            replace BV := Hid.of (BV.out.trans (b1.mono BV.out.size))
            have HMV : Hid (mval p.m Pl = .agg #[.int .i64 p.m.st, .int .i64 (E : Int), .slice Pl.a1 p.m.starts.length Pl.c1, .slice Pl.a2 p.m.arrows.length Pl.c2, .slice Pl.a3 p.m.ends.length Pl.c3]) := by show _ = _; rw [← hE.out]
            have KEY := Hid.of (refStep_own p.m Pl (some ⟨wr.heap.size, 0, none⟩) 1 [(k : Int)] (j : Int) (wr.alloc (.cells #[.int .i64 (k : Int)] 3)) (h.out.m.a.below (B.out.trans (BV.out.mono B.out.size)) (Nat.le_refl _)) (Nat.le_trans hal.out (by decide)) A1.out (by simp; unfold maxLen; omega))
            rw [HMV.out] at KEY
            clear b1 A1
            go_wp2_with fail
            clear y0 y1 y2 y3 y4 y5 y6
            refine KEY.out.mono ?_
            rintro e' Y2 ⟨lv, rfl, ol, hb1⟩
            obtain ⟨SL, HSL⟩ : ∃ SL, Hid (SL = stepL p.m.arrows [(k : Int)] (j : Int)) := ⟨_, rfl⟩
            rw [← HSL.out] at ol
            obtain ⟨la, lc, hlv, -, lln⟩ := ol.at
            subst hlv
            replace BV := Hid.of (BV.out.trans (hb1.mono BV.out.size))
            clear KEY ol hb1
            by_cases h2 : 1 < SL.length
            · have HEND : Hid (plainB p = false) := plain_no hS.out hE.out hks hje (by rw [← HSL.out]; exact h2)
              have d1 : decide ((1 : Int) < (SL.length : Int)) = true := by simp; omega
              go_wp2_with fail
              go_ret
              exact ⟨ret_bool HEND.out.symm, B.out.trans (BV.out.mono B.out.size)⟩
            · have HB2 : Hid (∀ e : Nat, e < j + 1 → (stepL p.m.arrows [(k : Int)] (e : Int)).length ≤ 1) := fun e he => by
                by_cases e1 : e = j
                · rw [e1, ← HSL.out]; omega
                · exact HB.out e (by omega)
              have d1 : decide ((1 : Int) < (SL.length : Int)) = false := by simp; omega
              clear HSL
              go_wp2_with fail
              go_roundw
              case rel => exact ⟨j + 1, by go_num, by omega, BV, HB2⟩
              case measure => simp [intOf]; omega
          · have hjl : j = E := by omega
            subst hjl
            have HA2 : Hid (∀ s : Nat, s < k + 1 → ∀ e : Nat, e < j → (stepL p.m.arrows [(s : Int)] (e : Int)).length ≤ 1) := fun s hs e he => by
              by_cases e1 : s = k
              · rw [e1]; exact HB.out e he
              · exact HA.out s (by omega) e he
            clear hje
            go_wp2_with fail
            go_roundw
            case rel => exact ⟨k + 1, by go_num, by omega, BV, HA2⟩
            case measure => simp [intOf]; omega
      · have hkl : k = S := by omega
        subst hkl
        have HEND : Hid (plainB p = true) := plain_yes H1.out hS.out hE.out HA.out
        clear hks
        go_wp2_with fail
        go_ret
        exact ⟨ret_bool HEND.out.symm, B.out.trans (BV.out.mono B.out.size)⟩

end Go.Proofs.YtkodmnooibpflaaDoor
namespace Go.Proofs.YtkodmnooibpflaaDoor
open Go.RowKit
set_option linter.unusedVariables false

/-- May a veil be asked for? -/
def veiledB (p : Plant) (free : List Int) : Bool := mayP p && (rowB p.m.ev free && (plainB p && decide ((free.filter (fun n => hasB p.seen n == false)).length = 0)))

set_option maxRecDepth 100000 in
set_option maxHeartbeats 8000000 in
theorem veiled_any (p : Plant) (Pl : ML) (sa : Option Addr) (sc : Nat) (ta : Option Addr) (tc : Nat) (fa : Option Addr) (fc : Nat) (free : List Int) (w : World) (h : Hid (PAt w p ⟨Pl, sa, sc, ta, tc⟩)) (hF : Hid (At w fa free)) (hFl : Hid (free.length ≤ maxLen)) :
    Calls Tryd.prog 42 #[ptval p ⟨Pl, sa, sc, ta, tc⟩, .slice fa free.length fc] w fun e w' => e = .returned (.bool (veiledB p free)) ∧ Below w.heap.size w w' := by
  have B : Hid (Below w.heap.size w (w.alloc (.cells (ptcells p ⟨Pl, sa, sc, ta, tc⟩) 44))) := (Below.refl _ _).alloc (Nat.le_refl _) _
  have KP : Hid (Blk (w.alloc (.cells (ptcells p ⟨Pl, sa, sc, ta, tc⟩) 44)) w.heap.size 44 (ptcells p ⟨Pl, sa, sc, ta, tc⟩)) := Blk.new w _ _
  go_enter Tryd.func42, Tryd.ntmps42
  obtain ⟨x0, x1, x2, x3, x4, x5, x6⟩ := ptcell_at KP.out
  go_wp2_with fail
  clear x0 x1 x2 x3 x4 x5 x6
  revert B KP
  generalize w.alloc (.cells (ptcells p ⟨Pl, sa, sc, ta, tc⟩) 44) = V
  intro B KP
  refine (rMayP_any p ⟨Pl, sa, sc, ta, tc⟩ V (Hid.of (h.out.below B.out (Nat.le_refl _)))).mono ?_
  rintro e1 W1 ⟨rfl, hb1⟩
  replace B := Hid.of (B.out.trans (hb1.mono B.out.size))
  replace KP := Hid.of (KP.out.below hb1 KP.out.lt)
  clear hb1
  cases hM : mayP p with
  | false =>
    have HEND : Hid (false = veiledB p free) := by show _ = _; unfold veiledB; rw [hM]; rfl
    clear hM
    go_wp2_with fail
    go_ret
    exact ⟨ret_bool HEND.out, B.out⟩
  | true =>
    have HM := Hid.of hM
    clear hM
    obtain ⟨x0, x1, x2, x3, x4, x5, x6⟩ := ptcell_at KP.out
    go_wp2_with fail
    clear x0 x1 x2 x3 x4 x5 x6
    refine (refIs_any fa fc free p.m.ev W1 (hF.out.below B.out (Nat.le_refl _)) hFl.out).mono ?_
    rintro e1 W2 ⟨rfl, m, rfl⟩
    replace B : Hid (Below w.heap.size w (W1.drewN m)) := below_drewN B.out m
    replace KP : Hid (Blk (W1.drewN m) w.heap.size 44 (ptcells p ⟨Pl, sa, sc, ta, tc⟩)) := KP.out.below (below_drewN (Below.refl _ _) m) KP.out.lt
    revert B KP
    generalize W1.drewN m = W3
    intro B KP
    cases hR : rowB p.m.ev free with
    | false =>
      have HEND : Hid (false = veiledB p free) := by show _ = _; unfold veiledB; rw [hR, HM.out]; rfl
      clear hR
      go_wp2_with fail
      go_ret
      exact ⟨ret_bool HEND.out, B.out⟩
    | true =>
      have HR := Hid.of hR
      clear hR
      obtain ⟨x0, x1, x2, x3, x4, x5, x6⟩ := ptcell_at KP.out
      go_wp2_with fail
      clear x0 x1 x2 x3 x4 x5 x6
      refine (rplain_any p Pl sa sc ta tc W3 (Hid.of (h.out.below B.out (Nat.le_refl _))) HM).mono ?_
      rintro e1 W4 ⟨rfl, hb1⟩
      replace B := Hid.of (B.out.trans (hb1.mono B.out.size))
      replace KP := Hid.of (KP.out.below hb1 KP.out.lt)
      clear hb1
      cases hP : plainB p with
      | false =>
        have HEND : Hid (false = veiledB p free) := by show _ = _; unfold veiledB; rw [hP, HR.out, HM.out]; rfl
        clear hP
        go_wp2_with fail
        go_ret
        exact ⟨ret_bool HEND.out, B.out⟩
      | true =>
        have HP := Hid.of hP
        clear hP
        have HFS : Hid (free.length ≤ 17592186044416) := by
          show _ ≤ _
          have hmP := (mayP_iff p).1 HM.out
          have hz := mayB_size hmP.1
          unfold sizeOk at hz
          have := row_short (by omega) (by omega) HR.out
          omega
        obtain ⟨x0, x1, x2, x3, x4, x5, x6⟩ := ptcell_at KP.out
        go_wp2_with fail
        clear x0 x1 x2 x3 x4 x5 x6
        refine (only_any fa sa fc sc free p.seen false W4 (hF.out.below B.out (Nat.le_refl _)) HFS.out (h.out.s.at_.below B.out (Nat.le_refl _)) h.out.s.len).mono ?_
        rintro e1 W5 ⟨ga, gc, rfl, -, gl, hb1⟩
        replace B := Hid.of (B.out.trans (hb1.mono B.out.size))
        obtain ⟨ON, HON⟩ : ∃ ON, Hid (ON = free.filter (fun n => hasB p.seen n == false)) := ⟨_, rfl⟩
        rw [← HON.out] at gl ⊢
        clear hb1
        by_cases h0 : ON.length = 0
        · have HEND : Hid (true = veiledB p free) := by show _ = _; unfold veiledB; rw [← HON.out, h0, HP.out, HR.out, HM.out]; rfl
          have d1 : ((ON.length : Int) == 0) = true := by simp [h0]
          clear h0 HON
          go_wp2_with fail
          go_ret
          exact ⟨ret_bool HEND.out, B.out⟩
        · have HEND : Hid (false = veiledB p free) := by show _ = _; unfold veiledB; rw [← HON.out, decide_eq_false h0, HP.out, HR.out, HM.out]; rfl
          have d1 : ((ON.length : Int) == 0) = false := beq_eq_false_iff_ne.2 (by omega)
          clear h0 HON
          go_wp2_with fail
          go_ret
          exact ⟨ret_bool HEND.out, B.out⟩

end Go.Proofs.YtkodmnooibpflaaDoor
namespace Go.Proofs.YtkodmnooibpflaaDoor
open Go.RowKit
set_option linter.unusedVariables false

theorem Tryd.infoMove : (Tryd.prog.info? 67).map (fun i => (i.zero, i.size, i.bytes)) = some (some (.agg #[.int .i64 0, .int .i64 0, .slice none 0 0, .int .i64 0]), 4, 48) := by kernel_rfl
/-- A list of moves in memory. -/
def AtMv (W : World) (a : Option Addr) (L : List Mv) : Prop := L = [] ∨ ∃ g o, a = some ⟨g, o, none⟩ ∧ g < W.heap.size ∧ ∀ (k : Nat) (m : Mv), L[k]? = some m → ∃ sa sc, W.cell? ⟨g, o + k * 4, none⟩ = some (.int .i64 (m.nd : Int)) ∧ W.cell? ⟨g, o + k * 4 + 1, none⟩ = some (.int .i64 m.ev) ∧ W.cell? ⟨g, o + k * 4 + 2, none⟩ = some (.slice sa m.st.length sc) ∧ W.cell? ⟨g, o + k * 4 + 3, none⟩ = some (.int .i64 (m.to : Int)) ∧ At W sa m.st ∧ m.st.length ≤ maxLen
theorem AtMv.below {W W' : World} {a : Option Addr} {L : List Mv} (h : AtMv W a L) (hb : Below W.heap.size W W') : AtMv W' a L := by
  rcases h with h | ⟨g, o, e, hg, hc⟩
  · exact .inl h
  · refine .inr ⟨g, o, e, Nat.lt_of_lt_of_le hg hb.size, fun k m hm => ?_⟩
    obtain ⟨sa, sc, c0, c1, c2, c3, h1, h2⟩ := hc k m hm
    exact ⟨sa, sc, (hb.cell (p := ⟨g, o + k * 4, none⟩) hg).trans c0, (hb.cell (p := ⟨g, o + k * 4 + 1, none⟩) hg).trans c1, (hb.cell (p := ⟨g, o + k * 4 + 2, none⟩) hg).trans c2, (hb.cell (p := ⟨g, o + k * 4 + 3, none⟩) hg).trans c3, h1.below hb (Nat.le_refl _), h2⟩
/-- Where a veil's slices lie. -/
structure VL where
  na : Option Addr
  nc : Nat
  ma : Option Addr
  mc : Nat
abbrev vcells (v : VS) (L : VL) : Array Value := #[.slice L.na v.1.length L.nc, .slice L.ma v.2.length L.mc]
abbrev vval (v : VS) (L : VL) : Value := .agg (vcells v L)
structure VAt (W : World) (v : VS) (L : VL) : Prop where
  n : At2 W L.na v.1
  m : AtMv W L.ma v.2
  nl : v.1.length ≤ 64
  ml : v.2.length ≤ 4096
theorem VAt.below {W W' : World} {v : VS} {L : VL} (h : VAt W v L) (hb : Below W.heap.size W W') : VAt W' v L := ⟨h.n.below hb (Nat.le_refl _), h.m.below hb, h.nl, h.ml⟩
theorem vcell_at {W : World} {b : Nat} {v : VS} {L : VL} (h : Blk W b 60 (vcells v L)) : W.cell? ⟨b, 0, none⟩ = some (.slice L.na v.1.length L.nc) ∧ W.cell? ⟨b, 1, none⟩ = some (.slice L.ma v.2.length L.mc) := ⟨h.cell 0 rfl, h.cell 1 rfl⟩

end Go.Proofs.YtkodmnooibpflaaDoor
namespace Go.Proofs.YtkodmnooibpflaaDoor
open Go.RowKit
set_option linter.unusedVariables false

/-- What veil.Make leaves: o is the veil, if there is one; er what is wrong. -/
def VeilPost (w : World) (p : Plant) (free : List Int) (e : Ending) (w' : World) : Prop :=
  ∃ (o : Option VS) (er : Int) (v : VS) (L : VL), e = .returned (.tuple #[vval v L, .bool o.isSome, .int .i64 er]) ∧ v = o.getD ([], []) ∧ VAt w' v L ∧ Below w.heap.size w w' ∧
    ((mayP p && rowB p.m.ev free) = false → er = 2 ∧ o = none) ∧
    ((mayP p && rowB p.m.ev free) = true → veiledB p free = false → er = 3 ∧ o = none) ∧
    (veiledB p free = true → er = 0 ∧ ∃ g, TellsG p free g ∧ o = makeV p g free)

end Go.Proofs.YtkodmnooibpflaaDoor
namespace Go.Proofs.YtkodmnooibpflaaDoor
open Go.RowKit
set_option linter.unusedVariables false

/-- A slice of moves, of the call's own. -/
def OwnMv (n : Nat) (W : World) (B : Nat) (v : Value) (L : List Mv) : Prop := ∃ vs : List Value, W.ownsRow B 67 4 v L.length vs ∧
  ∀ (k : Nat) (m : Mv), L[k]? = some m → vs[k * 4]? = some (.int .i64 (m.nd : Int)) ∧ vs[k * 4 + 1]? = some (.int .i64 m.ev) ∧ (∃ x, vs[k * 4 + 2]? = some x ∧ InnN n W x m.st) ∧ vs[k * 4 + 3]? = some (.int .i64 (m.to : Int))
theorem OwnMv.kept {n : Nat} {W W' : World} {B : Nat} {v : Value} {L : List Mv} (h : OwnMv n W B v L) (hz : W.heap.size ≤ W'.heap.size) (h0 : ∀ k, v.ownBlock = some k → W'.heap[k]? = W.heap[k]?) (h1 : ∀ j, j < n → W'.heap[j]? = W.heap[j]?) (h2 : ∀ (g : Nat) (cs : Array Value), W.heap[g]? = some (.cells cs 3 (0, 0)) → W'.heap[g]? = W.heap[g]?) : OwnMv n W' B v L := by
  obtain ⟨vs, ho, hi⟩ := h
  refine ⟨vs, own_same ho h0, fun k m hm => ?_⟩
  obtain ⟨e0, e1, ⟨x, e2, e3⟩, e4⟩ := hi k m hm
  exact ⟨e0, e1, ⟨x, e2, e3.kept hz h1 h2⟩, e4⟩
theorem OwnMv.below {n : Nat} {W W' : World} {B : Nat} {v : Value} {L : List Mv} (h : OwnMv n W B v L) (hb : Below W.heap.size W W') (hn : n ≤ W.heap.size) : OwnMv n W' B v L := by
  obtain ⟨vs, ho, -⟩ := id h
  exact h.kept hb.size (fun k hk => hb.block k (World.ownsRow.lt ho k hk).2) (fun j hj => hb.block j (by omega)) (fun g cs hg => hb.block g (Array.getElem?_eq_some_iff.1 hg).1)
theorem OwnMv.at {n : Nat} {W : World} {B : Nat} {v : Value} {L : List Mv} (h : OwnMv n W B v L) : ∃ a cap, v = .slice a L.length cap ∧ AtMv W a L := by
  obtain ⟨vs, ho, hi⟩ := h
  have hs := ho.2
  rcases hs with ⟨rfl, hn⟩ | ⟨g, cap, cur, rfl, hg, hh, hnc, hcm, hcs, ht⟩
  · have : L = [] := List.length_eq_zero_iff.1 hn
    subst this
    exact ⟨none, 0, rfl, .inl rfl⟩
  · refine ⟨some ⟨g, 0, none⟩, cap, rfl, .inr ⟨g, 0, rfl, (Array.getElem?_eq_some_iff.1 hh).1, fun k m hm => ?_⟩⟩
    obtain ⟨e0, e1, ⟨x, e2, e3⟩, e4⟩ := hi k m hm
    obtain ⟨xa, xc, rfl, x1, x2⟩ := e3.at
    have c0 := ho.cells (g := g) rfl _ _ e0
    have c1 := ho.cells (g := g) rfl _ _ e1
    have c2 := ho.cells (g := g) rfl _ _ e2
    have c3 := ho.cells (g := g) rfl _ _ e4
    rw [addr0_add] at c0 c1 c2 c3
    exact ⟨xa, xc, c0, c1, c2, c3, x1, x2⟩
theorem veStep_len (p : Plant) (g : List Int → Bool) (free : List Int) (n : Nat) (node : List Int) (s : VS) (e : Int) : (veStep p g free n node s e).2.length ≤ s.2.length + 1 := by
  unfold veStep
  by_cases h : (stayV p g free node e).length = 0
  · rw [if_pos h]; omega
  · rw [if_neg h]; simp
theorem veRow_len (p : Plant) (g : List Int → Bool) (free : List Int) (n : Nat) (node : List Int) (s : VS) : ∀ k, k ≤ p.seen.length → (veRow p g free n node s k).2.length ≤ s.2.length + k
  | 0, _ => by show s.2.length ≤ _; omega
  | k + 1, hk => by
    have h1 := veRow_len p g free n node s k (by omega)
    have h2 := veStep_len p g free n node (veRow p g free n node s k) p.seen[k]
    rw [veRow_succ (List.getElem?_eq_getElem (by omega))]
    omega
end Go.Proofs.YtkodmnooibpflaaDoor
