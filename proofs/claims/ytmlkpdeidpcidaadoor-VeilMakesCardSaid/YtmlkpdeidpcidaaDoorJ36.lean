/-
  The walks of jalousieref15.Plain and jalousielaw.veiled.
  The walk of jalousielaw.veiled.
  What veil.Make leaves.
  The walk of jalousielaw.VeilMakes.
  Plain: what package veil does with sets of states, beside the lists that they stand for. No program, no model.
  The walk of veil.isPlain.
-/
import Derived.Test.YtmlkpdeidpcidaaDoorJ34
import Derived.Test.YtmlkpdeidpcidaaDoorJ31
import Derived.Test.YtmlkpdeidpcidaaDoorJ05
import Derived.Test.YtmlkpdeidpcidaaDoorJ32
import Derived.Test.YtmlkpdeidpcidaaDoorFR15Mk
import Derived.Test.YtmlkpdeidpcidaaDoorJ10
import Derived.Test.YtmlkpdeidpcidaaDoorJ21
import Derived.Test.YtmlkpdeidpcidaaDoorJ12
import Derived.Test.YtmlkpdeidpcidaaDoorJ30
import Derived.Test.YtmlkpdeidpcidaaDoorJ15
import Derived.Deep.QuietTactic
namespace Go.Proofs.YtmlkpdeidpcidaaDoor
open Go.RowKit
set_option linter.unusedVariables false

/-- Is a plant plain? -/
def plainB (p : Plant) : Bool := decide (p.m.starts.length ≤ 1) && (List.range p.m.st.toNat).all fun s => (List.range p.m.ev.toNat).all fun e => decide ((stepL p.m.arrows [(s : Int)] (e : Int)).length ≤ 1)
theorem plain_yes {p : Plant} {S E : Nat} (h1 : ¬ 1 < p.m.starts.length) (hS : p.m.st = (S : Int)) (hE : p.m.ev = (E : Int)) (h : ∀ s, s < S → ∀ e, e < E → (stepL p.m.arrows [(s : Int)] (e : Int)).length ≤ 1) : plainB p = true := by
  unfold plainB
  rw [Bool.and_eq_true, decide_eq_true_eq, hS, hE, Int.toNat_natCast, Int.toNat_natCast, List.all_eq_true]
  refine ⟨by omega, fun s hs => List.all_eq_true.2 fun e he => decide_eq_true (h s (List.mem_range.1 hs) e (List.mem_range.1 he))⟩
theorem plain_no {p : Plant} {S E s e : Nat} (hS : p.m.st = (S : Int)) (hE : p.m.ev = (E : Int)) (hs : s < S) (he : e < E) (h : 1 < (stepL p.m.arrows [(s : Int)] (e : Int)).length) : plainB p = false := by
  cases hb : plainB p with
  | false => rfl
  | true =>
    unfold plainB at hb
    rw [Bool.and_eq_true, hS, hE, Int.toNat_natCast, Int.toNat_natCast, List.all_eq_true] at hb
    have := List.all_eq_true.1 (hb.2 s (List.mem_range.2 hs)) e (List.mem_range.2 he)
    rw [decide_eq_true_eq] at this
    omega
theorem plain_many {p : Plant} (h : 1 < p.m.starts.length) : plainB p = false := by
  unfold plainB
  rw [decide_eq_false (by omega)]; rfl

set_option maxRecDepth 100000 in
set_option maxHeartbeats 8000000 in
theorem rplain_any (p : Plant) (Pl : ML) (sa : Option Addr) (sc : Nat) (ta : Option Addr) (tc : Nat) (w : World) (h : Hid (PAt w p ⟨Pl, sa, sc, ta, tc⟩)) (hp : Hid (mayP p = true)) :
    Calls Tryd.prog 109 #[ptval p ⟨Pl, sa, sc, ta, tc⟩] w fun e w' => e = .returned (.bool (plainB p)) ∧ Below w.heap.size w w' := by
  have hmP := (mayP_iff p).1 hp.out
  have hz := mayB_size hmP.1
  unfold sizeOk at hz
  have hal : Hid (p.m.arrows.length ≤ 4096) := by show _ ≤ _; omega
  obtain ⟨S, hS, hS6⟩ : ∃ S : Nat, Hid (p.m.st = (S : Int)) ∧ S ≤ 6 := ⟨p.m.st.toNat, by show _ = _; omega, by omega⟩
  obtain ⟨E, hE, hE9⟩ : ∃ E : Nat, Hid (p.m.ev = (E : Int)) ∧ E ≤ 4096 := ⟨p.m.ev.toNat, by show _ = _; omega, by omega⟩
  have hsl : p.m.starts.length ≤ 9223372036854775807 := by
    have h2 := may_starts hmP.1
    have := nodup_len 256 _ (inc_nodup h2.1) (fun x hx => by have := h2.2 x hx; omega)
    omega
  clear hmP hz
  have B : Hid (Below w.heap.size w (w.alloc (.cells (ptcells p ⟨Pl, sa, sc, ta, tc⟩) 44))) := (Below.refl _ _).alloc (Nat.le_refl _) _
  have KP : Hid (Blk (w.alloc (.cells (ptcells p ⟨Pl, sa, sc, ta, tc⟩) 44)) w.heap.size 44 (ptcells p ⟨Pl, sa, sc, ta, tc⟩)) := Blk.new w _ _
  go_enter Tryd.func109, Tryd.ntmps109
  obtain ⟨x0, x1, x2, x3, x4, x5, x6⟩ := ptcell_at KP.out
  by_cases h1 : 1 < p.m.starts.length
  · have HEND := Hid.of (plain_many h1)
    have d1 : decide ((1 : Int) < (p.m.starts.length : Int)) = true := by simp; omega
    go_wp2_with fail
    go_ret
    exact ⟨ret_bool HEND.out.symm, B.out⟩
  · have H1 := Hid.of h1
    have d1 : decide ((1 : Int) < (p.m.starts.length : Int)) = false := by simp; omega
    go_wp2_with fail
    clear x0 x1 x2 x3 x4 x5 x6 d1 h1
    revert B KP
    generalize w.alloc (.cells (ptcells p ⟨Pl, sa, sc, ta, tc⟩) 44) = V
    intro B KP
    have BV0 : Hid (Below V.heap.size V V) := Below.refl _ _
    go_loopw [3] (fun x wr => ∃ k : Nat, x = .int .i64 k ∧ k ≤ S ∧ Hid (Below V.heap.size V wr) ∧ Hid (∀ s : Nat, s < k → ∀ e : Nat, e < E → (stepL p.m.arrows [(s : Int)] (e : Int)).length ≤ 1)) (fun x _ => S - (intOf x).toNat)
    case atStart => exact ⟨0, rfl, Nat.zero_le _, BV0, fun s hs => by omega⟩
    case round =>
      clear BV0
      obtain ⟨k, rfl, hk, BV, HA⟩ := hrel
      obtain ⟨y0, y1, y2, y3, y4, y5, y6⟩ := ptcell_at (KP.out.below BV.out KP.out.lt)
      rw [hS.out] at y0
      by_cases hks : k < S
      · have hkI : (k : Int) < (S : Int) := by omega
        go_wp2_with fail
        clear y0 y1 y2 y3 y4 y5 y6
        have HB0 : Hid (∀ e : Nat, e < 0 → (stepL p.m.arrows [(k : Int)] (e : Int)).length ≤ 1) := fun s hs => by omega
        go_loopw [4] (fun x wr => ∃ j : Nat, x = .int .i64 j ∧ j ≤ E ∧ Hid (Below V.heap.size V wr) ∧ Hid (∀ e : Nat, e < j → (stepL p.m.arrows [(k : Int)] (e : Int)).length ≤ 1)) (fun x _ => E - (intOf x).toNat)
        case atStart => exact ⟨0, rfl, Nat.zero_le _, BV, HB0⟩
        case round =>
          clear BV HB0
          obtain ⟨j, rfl, hj, BV, HB⟩ := hrel
          obtain ⟨y0, y1, y2, y3, y4, y5, y6⟩ := ptcell_at (KP.out.below BV.out KP.out.lt)
          rw [hE.out] at y1
          by_cases hje : j < E
          · have hjI : (j : Int) < (E : Int) := by omega
            have A1 : Hid (At (wr.alloc (.cells #[.int .i64 (k : Int)] 3)) (some ⟨wr.heap.size, 0, none⟩) [(k : Int)]) := at_one15 wr (k : Int)
            have b1 : Below wr.heap.size wr (wr.alloc (.cells #[.int .i64 (k : Int)] 3)) := (Below.refl _ _).alloc (Nat.le_refl _) _
            replace BV := Hid.of (BV.out.trans (b1.mono BV.out.size))
            have HMV : Hid (mval p.m Pl = .agg #[.int .i64 p.m.st, .int .i64 (E : Int), .slice Pl.a1 p.m.starts.length Pl.c1, .slice Pl.a2 p.m.arrows.length Pl.c2, .slice Pl.a3 p.m.ends.length Pl.c3]) := by show _ = _; rw [← hE.out]
            have KEY := Hid.of (refStep_own p.m Pl (some ⟨wr.heap.size, 0, none⟩) 1 [(k : Int)] (j : Int) (wr.alloc (.cells #[.int .i64 (k : Int)] 3)) (h.out.m.a.below (B.out.trans (BV.out.mono B.out.size)) (Nat.le_refl _)) (Nat.le_trans hal.out (by decide)) A1.out (by simp; unfold maxLen; omega))
            rw [HMV.out] at KEY
            clear b1 A1
            go_wp2_with fail
            clear y0 y1 y2 y3 y4 y5 y6
            refine KEY.out.mono ?_
            rintro e' Y2 ⟨lv, rfl, ol, hb1⟩
            obtain ⟨SL, HSL⟩ : ∃ SL, Hid (SL = stepL p.m.arrows [(k : Int)] (j : Int)) := ⟨_, rfl⟩
            rw [← HSL.out] at ol
            obtain ⟨la, lc, hlv, -, lln⟩ := ol.at
            subst hlv
            replace BV := Hid.of (BV.out.trans (hb1.mono BV.out.size))
            clear KEY ol hb1
            by_cases h2 : 1 < SL.length
            · have HEND : Hid (plainB p = false) := plain_no hS.out hE.out hks hje (by rw [← HSL.out]; exact h2)
              have d1 : decide ((1 : Int) < (SL.length : Int)) = true := by simp; omega
              go_wp2_with fail
              go_ret
              exact ⟨ret_bool HEND.out.symm, B.out.trans (BV.out.mono B.out.size)⟩
            · have HB2 : Hid (∀ e : Nat, e < j + 1 → (stepL p.m.arrows [(k : Int)] (e : Int)).length ≤ 1) := fun e he => by
                by_cases e1 : e = j
                · rw [e1, ← HSL.out]; omega
                · exact HB.out e (by omega)
              have d1 : decide ((1 : Int) < (SL.length : Int)) = false := by simp; omega
              clear HSL
              go_wp2_with fail
              go_roundw
              case rel => exact ⟨j + 1, by go_num, by omega, BV, HB2⟩
              case measure => simp [intOf]; omega
          · have hjl : j = E := by omega
            subst hjl
            have HA2 : Hid (∀ s : Nat, s < k + 1 → ∀ e : Nat, e < j → (stepL p.m.arrows [(s : Int)] (e : Int)).length ≤ 1) := fun s hs e he => by
              by_cases e1 : s = k
              · rw [e1]; exact HB.out e he
              · exact HA.out s (by omega) e he
            clear hje
            go_wp2_with fail
            go_roundw
            case rel => exact ⟨k + 1, by go_num, by omega, BV, HA2⟩
            case measure => simp [intOf]; omega
      · have hkl : k = S := by omega
        subst hkl
        have HEND : Hid (plainB p = true) := plain_yes H1.out hS.out hE.out HA.out
        clear hks
        go_wp2_with fail
        go_ret
        exact ⟨ret_bool HEND.out.symm, B.out.trans (BV.out.mono B.out.size)⟩

end Go.Proofs.YtmlkpdeidpcidaaDoor
namespace Go.Proofs.YtmlkpdeidpcidaaDoor
open Go.RowKit
set_option linter.unusedVariables false

/-- May a veil be asked for? -/
def veiledB (p : Plant) (free : List Int) : Bool := mayP p && (rowB p.m.ev free && (plainB p && decide ((free.filter (fun n => hasB p.seen n == false)).length = 0)))

set_option maxRecDepth 100000 in
set_option maxHeartbeats 8000000 in
theorem veiled_any (p : Plant) (Pl : ML) (sa : Option Addr) (sc : Nat) (ta : Option Addr) (tc : Nat) (fa : Option Addr) (fc : Nat) (free : List Int) (w : World) (h : Hid (PAt w p ⟨Pl, sa, sc, ta, tc⟩)) (hF : Hid (At w fa free)) (hFl : Hid (free.length ≤ maxLen)) :
    Calls Tryd.prog 50 #[ptval p ⟨Pl, sa, sc, ta, tc⟩, .slice fa free.length fc] w fun e w' => e = .returned (.bool (veiledB p free)) ∧ Below w.heap.size w w' := by
  have B : Hid (Below w.heap.size w (w.alloc (.cells (ptcells p ⟨Pl, sa, sc, ta, tc⟩) 44))) := (Below.refl _ _).alloc (Nat.le_refl _) _
  have KP : Hid (Blk (w.alloc (.cells (ptcells p ⟨Pl, sa, sc, ta, tc⟩) 44)) w.heap.size 44 (ptcells p ⟨Pl, sa, sc, ta, tc⟩)) := Blk.new w _ _
  go_enter Tryd.func50, Tryd.ntmps50
  obtain ⟨x0, x1, x2, x3, x4, x5, x6⟩ := ptcell_at KP.out
  go_wp2_with fail
  clear x0 x1 x2 x3 x4 x5 x6
  revert B KP
  generalize w.alloc (.cells (ptcells p ⟨Pl, sa, sc, ta, tc⟩) 44) = V
  intro B KP
  refine (rMayP_any p ⟨Pl, sa, sc, ta, tc⟩ V (Hid.of (h.out.below B.out (Nat.le_refl _)))).mono ?_
  rintro e1 W1 ⟨rfl, hb1⟩
  replace B := Hid.of (B.out.trans (hb1.mono B.out.size))
  replace KP := Hid.of (KP.out.below hb1 KP.out.lt)
  clear hb1
  cases hM : mayP p with
  | false =>
    have HEND : Hid (false = veiledB p free) := by show _ = _; unfold veiledB; rw [hM]; rfl
    clear hM
    go_wp2_with fail
    go_ret
    exact ⟨ret_bool HEND.out, B.out⟩
  | true =>
    have HM := Hid.of hM
    clear hM
    obtain ⟨x0, x1, x2, x3, x4, x5, x6⟩ := ptcell_at KP.out
    go_wp2_with fail
    clear x0 x1 x2 x3 x4 x5 x6
    refine (refIs_any fa fc free p.m.ev W1 (hF.out.below B.out (Nat.le_refl _)) hFl.out).mono ?_
    rintro e1 W2 ⟨rfl, m, rfl⟩
    replace B : Hid (Below w.heap.size w (W1.drewN m)) := below_drewN B.out m
    replace KP : Hid (Blk (W1.drewN m) w.heap.size 44 (ptcells p ⟨Pl, sa, sc, ta, tc⟩)) := KP.out.below (below_drewN (Below.refl _ _) m) KP.out.lt
    revert B KP
    generalize W1.drewN m = W3
    intro B KP
    cases hR : rowB p.m.ev free with
    | false =>
      have HEND : Hid (false = veiledB p free) := by show _ = _; unfold veiledB; rw [hR, HM.out]; rfl
      clear hR
      go_wp2_with fail
      go_ret
      exact ⟨ret_bool HEND.out, B.out⟩
    | true =>
      have HR := Hid.of hR
      clear hR
      obtain ⟨x0, x1, x2, x3, x4, x5, x6⟩ := ptcell_at KP.out
      go_wp2_with fail
      clear x0 x1 x2 x3 x4 x5 x6
      refine (rplain_any p Pl sa sc ta tc W3 (Hid.of (h.out.below B.out (Nat.le_refl _))) HM).mono ?_
      rintro e1 W4 ⟨rfl, hb1⟩
      replace B := Hid.of (B.out.trans (hb1.mono B.out.size))
      replace KP := Hid.of (KP.out.below hb1 KP.out.lt)
      clear hb1
      cases hP : plainB p with
      | false =>
        have HEND : Hid (false = veiledB p free) := by show _ = _; unfold veiledB; rw [hP, HR.out, HM.out]; rfl
        clear hP
        go_wp2_with fail
        go_ret
        exact ⟨ret_bool HEND.out, B.out⟩
      | true =>
        have HP := Hid.of hP
        clear hP
        have HFS : Hid (free.length ≤ 17592186044416) := by
          show _ ≤ _
          have hmP := (mayP_iff p).1 HM.out
          have hz := mayB_size hmP.1
          unfold sizeOk at hz
          have := row_short (by omega) (by omega) HR.out
          omega
        obtain ⟨x0, x1, x2, x3, x4, x5, x6⟩ := ptcell_at KP.out
        go_wp2_with fail
        clear x0 x1 x2 x3 x4 x5 x6
        refine (only_any fa sa fc sc free p.seen false W4 (hF.out.below B.out (Nat.le_refl _)) HFS.out (h.out.s.at_.below B.out (Nat.le_refl _)) h.out.s.len).mono ?_
        rintro e1 W5 ⟨ga, gc, rfl, -, gl, hb1⟩
        replace B := Hid.of (B.out.trans (hb1.mono B.out.size))
        obtain ⟨ON, HON⟩ : ∃ ON, Hid (ON = free.filter (fun n => hasB p.seen n == false)) := ⟨_, rfl⟩
        rw [← HON.out] at gl ⊢
        clear hb1
        by_cases h0 : ON.length = 0
        · have HEND : Hid (true = veiledB p free) := by show _ = _; unfold veiledB; rw [← HON.out, h0, HP.out, HR.out, HM.out]; rfl
          have d1 : ((ON.length : Int) == 0) = true := by simp [h0]
          clear h0 HON
          go_wp2_with fail
          go_ret
          exact ⟨ret_bool HEND.out, B.out⟩
        · have HEND : Hid (false = veiledB p free) := by show _ = _; unfold veiledB; rw [← HON.out, decide_eq_false h0, HP.out, HR.out, HM.out]; rfl
          have d1 : ((ON.length : Int) == 0) = false := beq_eq_false_iff_ne.2 (by omega)
          clear h0 HON
          go_wp2_with fail
          go_ret
          exact ⟨ret_bool HEND.out, B.out⟩

end Go.Proofs.YtmlkpdeidpcidaaDoor
namespace Go.Proofs.YtmlkpdeidpcidaaDoor
open Go.RowKit
set_option linter.unusedVariables false

/-- What veil.Make leaves: o is the veil, if there is one; er what is wrong. -/
def VeilPost (w : World) (p : Plant) (free : List Int) (e : Ending) (w' : World) : Prop :=
  ∃ (o : Option VS) (er : Int) (v : VS) (L : VL), e = .returned (.tuple #[vval v L, .bool o.isSome, .int .i64 er]) ∧ v = o.getD ([], []) ∧ VAt w' v L ∧ Below w.heap.size w w' ∧
    ((mayP p && rowB p.m.ev free) = false → er = 2 ∧ o = none) ∧
    ((mayP p && rowB p.m.ev free) = true → veiledB p free = false → er = 3 ∧ o = none) ∧
    (veiledB p free = true → er = 0 ∧ ∃ g, TellsG p free g ∧ o = makeV p g free)

end Go.Proofs.YtmlkpdeidpcidaaDoor
namespace Go.Proofs.YtmlkpdeidpcidaaDoor
open Go.RowKit
set_option linter.unusedVariables false

theorem make_post {w : World} {o : Option VS} {e : Ending} {w' : World} (h : MakePost w o e w') : ∃ L : VL, e = .returned (.tuple #[vval (o.getD ([], [])) L, .bool o.isSome]) ∧ VAt w' (o.getD ([], [])) L ∧ Below w.heap.size w w' := by
  cases o with
  | none => exact ⟨⟨none, 0, none, 0⟩, h.1, ⟨.inl rfl, .inl rfl, Nat.zero_le _, Nat.zero_le _⟩, h.2⟩
  | some v => exact h
theorem rmake_any (p : Plant) (Pl : ML) (sa : Option Addr) (sc : Nat) (ta : Option Addr) (tc : Nat) (fa : Option Addr) (fc : Nat) (free : List Int) (w : World) (h : Hid (PAt w p ⟨Pl, sa, sc, ta, tc⟩)) (hF : Hid (At w fa free)) (hFl : Hid (free.length ≤ maxLen)) (hp : Hid (mayP p = true)) :
    Calls Tryd.prog 51 #[ptval p ⟨Pl, sa, sc, ta, tc⟩, .slice fa free.length fc] w fun e w' => ∃ g : List Int → Bool, TellsG p free g ∧ MakePost w (makeV p g free) e w' := by
  have hmP := (mayP_iff p).1 hp.out
  have hz := mayB_size hmP.1
  unfold sizeOk at hz
  obtain ⟨S, hS, hS6⟩ : ∃ S : Nat, Hid (p.m.st = (S : Int)) ∧ S ≤ 6 := ⟨p.m.st.toNat, by show _ = _; omega, by omega⟩
  exact rmake_go p Pl sa sc ta tc fa fc free w h hF hFl hp S (2 ^ S) hS hS6 rfl (Nat.le_trans (Nat.pow_le_pow_right (by decide) hS6) (by decide))
theorem rowsS_any (a b : Option Addr) (ca cb : Nat) (xs : List (List Int)) (w : World) (hs : At2 w a xs) (ht : At2 w b xs) (hl : xs.length ≤ maxLen) :
    Calls Tryd.prog 52 #[.slice a xs.length ca, .slice b xs.length cb] w fun e w' => e = .returned (.bool true) ∧ Below w.heap.size w w' := by
  refine (rows_any a b ca cb xs xs w hs ht hl hl).mono ?_
  rintro e w' ⟨h1, q, rfl⟩
  refine ⟨?_, below_drewN (Below.refl _ _) q⟩
  rw [h1, (sameL_iff _ _).2 rfl]

set_option maxRecDepth 100000 in
set_option maxHeartbeats 16000000 in
theorem vmakes_any (p : Plant) (Pl : ML) (sa : Option Addr) (sc : Nat) (ta : Option Addr) (tc : Nat) (fa : Option Addr) (fc : Nat) (free : List Int) (w : World) (hT : Hid (Tab w)) (h : Hid (PAt w p ⟨Pl, sa, sc, ta, tc⟩)) (hF : Hid (At w fa free)) (hFl : Hid (free.length ≤ maxLen))
    (HC : Hid (∀ u : World, Tab u → PAt u p ⟨Pl, sa, sc, ta, tc⟩ → At u fa free → Calls Tryd.prog 49 #[ptval p ⟨Pl, sa, sc, ta, tc⟩, .slice fa free.length fc] u fun e w' => VeilPost u p free e w')) :
    Calls Tryd.prog 11 #[ptval p ⟨Pl, sa, sc, ta, tc⟩, .slice fa free.length fc] w fun e w' => e = .returned (.bool true) ∧ Below w.heap.size w w' := by
  have B : Hid (Below w.heap.size w (w.alloc (.cells (ptcells p ⟨Pl, sa, sc, ta, tc⟩) 44))) := (Below.refl _ _).alloc (Nat.le_refl _) _
  have KP : Hid (Blk (w.alloc (.cells (ptcells p ⟨Pl, sa, sc, ta, tc⟩) 44)) w.heap.size 44 (ptcells p ⟨Pl, sa, sc, ta, tc⟩)) := Blk.new w _ _
  go_enter Tryd.func11, Tryd.ntmps11
  obtain ⟨x0, x1, x2, x3, x4, x5, x6⟩ := ptcell_at KP.out
  go_wp2_with fail
  clear x0 x1 x2 x3 x4 x5 x6
  revert B KP
  generalize w.alloc (.cells (ptcells p ⟨Pl, sa, sc, ta, tc⟩) 44) = V
  intro B KP
  refine (HC.out V (hT.out.below B.out hT.out.lt) (h.out.below B.out (Nat.le_refl _)) (hF.out.below B.out (Nat.le_refl _))).mono ?_
  rintro e0 W1 ⟨o, er, v, L, rfl, hv, hat, hb1, c1, c2, c3⟩
  replace B := Hid.of (B.out.trans (hb1.mono B.out.size))
  replace KP := Hid.of (KP.out.below hb1 KP.out.lt)
  clear hb1 HC
  cases hA : mayP p && rowB p.m.ev free with
  | false =>
    obtain ⟨rfl, rfl⟩ := c1 hA
    subst hv
    have HAT := Hid.of hat
    clear c1 c2 c3 hat
    have hb2 : Below W1.heap.size W1 (W1.alloc (.cells #[.slice L.na 0 L.nc, .slice L.ma 0 L.mc] 72)) := (Below.refl _ _).alloc (Nat.le_refl _) _
    replace B := Hid.of (B.out.trans (hb2.mono B.out.size))
    replace KP := Hid.of (KP.out.below hb2 KP.out.lt)
    have KV := Hid.of (Blk.new W1 72 #[.slice L.na 0 L.nc, .slice L.ma 0 L.mc])
    replace HAT := Hid.of (HAT.out.below hb2)
    clear hb2
    obtain ⟨x0, x1, x2, x3, x4, x5, x6⟩ := ptcell_at KP.out
    have y0 := KV.out.cell 0 rfl
    have y1 := KV.out.cell 1 rfl
    go_wp2_with fail
    clear x0 x1 x2 x3 x4 x5 x6 y0 y1
    revert B KP KV HAT
    show Hid (Below w.heap.size w (W1.alloc (.cells #[.slice L.na 0 L.nc, .slice L.ma 0 L.mc] 72))) → _
    generalize W1.alloc (.cells #[.slice L.na 0 L.nc, .slice L.ma 0 L.mc] 72) = U
    generalize W1.heap.size = vb
    intro B KP KV HAT
    refine (rMayP_any p ⟨Pl, sa, sc, ta, tc⟩ U (Hid.of (h.out.below B.out (Nat.le_refl _)))).mono ?_
    rintro e1 U1 ⟨rfl, hb⟩
    replace B := Hid.of (B.out.trans (hb.mono B.out.size))
    replace KP := Hid.of (KP.out.below hb KP.out.lt)
    replace KV := Hid.of (KV.out.below hb KV.out.lt)
    replace HAT := Hid.of (HAT.out.below hb)
    clear hb
    cases hM : mayP p with
    | false =>
      clear hM
      go_wp2_with fail
      go_ret
      exact ⟨rfl, B.out⟩
    | true =>
      have hR : rowB p.m.ev free = false := by rw [hM] at hA; simpa using hA
      clear hA hM
      obtain ⟨x0, x1, x2, x3, x4, x5, x6⟩ := ptcell_at KP.out
      go_wp2_with fail
      clear x0 x1 x2 x3 x4 x5 x6
      refine (isB_any fa fc free p.m.ev _ (hF.out.below B.out (Nat.le_refl _)) hFl.out).mono ?_
      rintro e1 U2 ⟨rfl, hb⟩
      replace B := Hid.of (B.out.trans (hb.mono B.out.size))
      replace KP := Hid.of (KP.out.below hb KP.out.lt)
      replace KV := Hid.of (KV.out.below hb KV.out.lt)
      replace HAT := Hid.of (HAT.out.below hb)
      clear hb
      rw [hR]
      clear hR
      go_wp2_with fail
      go_ret
      exact ⟨rfl, B.out⟩
  | true =>
    obtain ⟨hM, hR⟩ := (Bool.and_eq_true _ _).mp hA
    have HM := Hid.of hM
    have HR := Hid.of hR
    cases hB : veiledB p free with
    | false =>
      have HVE := Hid.of hB
      obtain ⟨rfl, rfl⟩ := c2 hA hB
      subst hv
      have HAT := Hid.of hat
      clear c1 c2 c3 hat hA hM hR hB
      have hb2 : Below W1.heap.size W1 (W1.alloc (.cells #[.slice L.na 0 L.nc, .slice L.ma 0 L.mc] 72)) := (Below.refl _ _).alloc (Nat.le_refl _) _
      replace B := Hid.of (B.out.trans (hb2.mono B.out.size))
      replace KP := Hid.of (KP.out.below hb2 KP.out.lt)
      have KV := Hid.of (Blk.new W1 72 #[.slice L.na 0 L.nc, .slice L.ma 0 L.mc])
      replace HAT := Hid.of (HAT.out.below hb2)
      clear hb2
      obtain ⟨x0, x1, x2, x3, x4, x5, x6⟩ := ptcell_at KP.out
      have y0 := KV.out.cell 0 rfl
      have y1 := KV.out.cell 1 rfl
      go_wp2_with fail
      clear x0 x1 x2 x3 x4 x5 x6 y0 y1
      revert B KP KV HAT
      show Hid (Below w.heap.size w (W1.alloc (.cells #[.slice L.na 0 L.nc, .slice L.ma 0 L.mc] 72))) → _
      generalize W1.alloc (.cells #[.slice L.na 0 L.nc, .slice L.ma 0 L.mc] 72) = U
      generalize W1.heap.size = vb
      intro B KP KV HAT
      refine (rMayP_any p ⟨Pl, sa, sc, ta, tc⟩ U (Hid.of (h.out.below B.out (Nat.le_refl _)))).mono ?_
      rintro e1 U1 ⟨rfl, hb⟩
      replace B := Hid.of (B.out.trans (hb.mono B.out.size))
      replace KP := Hid.of (KP.out.below hb KP.out.lt)
      replace KV := Hid.of (KV.out.below hb KV.out.lt)
      replace HAT := Hid.of (HAT.out.below hb)
      clear hb
      rw [HM.out]
      obtain ⟨x0, x1, x2, x3, x4, x5, x6⟩ := ptcell_at KP.out
      go_wp2_with fail
      clear x0 x1 x2 x3 x4 x5 x6
      refine (isB_any fa fc free p.m.ev _ (hF.out.below B.out (Nat.le_refl _)) hFl.out).mono ?_
      rintro e1 U2 ⟨rfl, hb⟩
      replace B := Hid.of (B.out.trans (hb.mono B.out.size))
      replace KP := Hid.of (KP.out.below hb KP.out.lt)
      replace KV := Hid.of (KV.out.below hb KV.out.lt)
      replace HAT := Hid.of (HAT.out.below hb)
      clear hb
      rw [HR.out]
      obtain ⟨x0, x1, x2, x3, x4, x5, x6⟩ := ptcell_at KP.out
      go_wp2_with fail
      clear x0 x1 x2 x3 x4 x5 x6
      refine (veiled_any p Pl sa sc ta tc fa fc free _ (Hid.of (h.out.below B.out (Nat.le_refl _))) (Hid.of (hF.out.below B.out (Nat.le_refl _))) hFl).mono ?_
      rintro e1 U3 ⟨rfl, hb⟩
      replace B := Hid.of (B.out.trans (hb.mono B.out.size))
      replace KP := Hid.of (KP.out.below hb KP.out.lt)
      replace KV := Hid.of (KV.out.below hb KV.out.lt)
      replace HAT := Hid.of (HAT.out.below hb)
      clear hb
      rw [HVE.out]
      go_wp2_with fail
      go_ret
      exact ⟨rfl, B.out⟩
    | true =>
      have HVE := Hid.of hB
      obtain ⟨rfl, g, tg, ho⟩ := c3 hB
      have TG := Hid.of tg
      have HO := Hid.of ho
      clear c1 c2 c3 hA hM hR hB tg ho
      cases o with
      | none =>
        subst hv
        have HAT := Hid.of hat
        clear hat
        have hb2 : Below W1.heap.size W1 (W1.alloc (.cells #[.slice L.na 0 L.nc, .slice L.ma 0 L.mc] 72)) := (Below.refl _ _).alloc (Nat.le_refl _) _
        replace B := Hid.of (B.out.trans (hb2.mono B.out.size))
        replace KP := Hid.of (KP.out.below hb2 KP.out.lt)
        have KV := Hid.of (Blk.new W1 72 #[.slice L.na 0 L.nc, .slice L.ma 0 L.mc])
        replace HAT := Hid.of (HAT.out.below hb2)
        clear hb2
        obtain ⟨x0, x1, x2, x3, x4, x5, x6⟩ := ptcell_at KP.out
        have y0 := KV.out.cell 0 rfl
        have y1 := KV.out.cell 1 rfl
        go_wp2_with fail
        clear x0 x1 x2 x3 x4 x5 x6 y0 y1
        revert B KP KV HAT
        show Hid (Below w.heap.size w (W1.alloc (.cells #[.slice L.na 0 L.nc, .slice L.ma 0 L.mc] 72))) → _
        generalize W1.alloc (.cells #[.slice L.na 0 L.nc, .slice L.ma 0 L.mc] 72) = U
        generalize W1.heap.size = vb
        intro B KP KV HAT
        refine (rMayP_any p ⟨Pl, sa, sc, ta, tc⟩ U (Hid.of (h.out.below B.out (Nat.le_refl _)))).mono ?_
        rintro e1 U1 ⟨rfl, hb⟩
        replace B := Hid.of (B.out.trans (hb.mono B.out.size))
        replace KP := Hid.of (KP.out.below hb KP.out.lt)
        replace KV := Hid.of (KV.out.below hb KV.out.lt)
        replace HAT := Hid.of (HAT.out.below hb)
        clear hb
        rw [HM.out]
        obtain ⟨x0, x1, x2, x3, x4, x5, x6⟩ := ptcell_at KP.out
        go_wp2_with fail
        clear x0 x1 x2 x3 x4 x5 x6
        refine (isB_any fa fc free p.m.ev _ (hF.out.below B.out (Nat.le_refl _)) hFl.out).mono ?_
        rintro e1 U2 ⟨rfl, hb⟩
        replace B := Hid.of (B.out.trans (hb.mono B.out.size))
        replace KP := Hid.of (KP.out.below hb KP.out.lt)
        replace KV := Hid.of (KV.out.below hb KV.out.lt)
        replace HAT := Hid.of (HAT.out.below hb)
        clear hb
        rw [HR.out]
        obtain ⟨x0, x1, x2, x3, x4, x5, x6⟩ := ptcell_at KP.out
        go_wp2_with fail
        clear x0 x1 x2 x3 x4 x5 x6
        refine (veiled_any p Pl sa sc ta tc fa fc free _ (Hid.of (h.out.below B.out (Nat.le_refl _))) (Hid.of (hF.out.below B.out (Nat.le_refl _))) hFl).mono ?_
        rintro e1 U3 ⟨rfl, hb⟩
        replace B := Hid.of (B.out.trans (hb.mono B.out.size))
        replace KP := Hid.of (KP.out.below hb KP.out.lt)
        replace KV := Hid.of (KV.out.below hb KV.out.lt)
        replace HAT := Hid.of (HAT.out.below hb)
        clear hb
        rw [HVE.out]
        obtain ⟨x0, x1, x2, x3, x4, x5, x6⟩ := ptcell_at KP.out
        go_wp2_with fail
        clear x0 x1 x2 x3 x4 x5 x6
        refine (rmake_any p Pl sa sc ta tc fa fc free _ (Hid.of (h.out.below B.out (Nat.le_refl _))) (Hid.of (hF.out.below B.out (Nat.le_refl _))) hFl HM).mono ?_
        rintro e1 U4 ⟨g', tg', hmk⟩
        rw [makeV_eq ((mayP_iff p).1 HM.out).1 tg' TG.out, ← HO.out] at hmk
        obtain ⟨L2, rfl, hat2, hb⟩ := make_post hmk
        replace B := Hid.of (B.out.trans (hb.mono B.out.size))
        replace KP := Hid.of (KP.out.below hb KP.out.lt)
        replace KV := Hid.of (KV.out.below hb KV.out.lt)
        replace HAT := Hid.of (HAT.out.below hb)
        clear hb
        have hb2 : Below U4.heap.size U4 (U4.alloc (.cells #[.slice L2.na 0 L2.nc, .slice L2.ma 0 L2.mc] 72)) := (Below.refl _ _).alloc (Nat.le_refl _) _
        replace B := Hid.of (B.out.trans (hb2.mono B.out.size))
        replace KV := Hid.of (KV.out.below hb2 KV.out.lt)
        replace HAT := Hid.of (HAT.out.below hb2)
        have KV2 := Hid.of (Blk.new U4 72 #[.slice L2.na 0 L2.nc, .slice L2.ma 0 L2.mc])
        have HAT2 := Hid.of (VAt.below (v := (([], []) : VS)) (L := L2) hat2 hb2)
        clear hb2 hat2 hmk tg'
        have y0 := KV.out.cell 0 rfl
        have y1 := KV.out.cell 1 rfl
        have z0 := KV2.out.cell 0 rfl
        have z1 := KV2.out.cell 1 rfl
        go_wp2_with fail
        clear y0 y1 z0 z1
        revert B KV HAT KV2 HAT2
        show Hid (Below w.heap.size w (U4.alloc (.cells #[.slice L2.na 0 L2.nc, .slice L2.ma 0 L2.mc] 72))) → _
        generalize U4.alloc (.cells #[.slice L2.na 0 L2.nc, .slice L2.ma 0 L2.mc] 72) = U5
        generalize U4.heap.size = vc
        intro B KV HAT KV2 HAT2
        refine (rowsS_any L.na L2.na L.nc L2.nc (([], []) : VS).1 U5 HAT.out.n HAT2.out.n (Nat.le_trans HAT.out.nl (by decide))).mono ?_
        rintro e1 U6 ⟨rfl, hb⟩
        replace B := Hid.of (B.out.trans (hb.mono B.out.size))
        replace KV := Hid.of (KV.out.below hb KV.out.lt)
        replace HAT := Hid.of (HAT.out.below hb)
        replace KV2 := Hid.of (KV2.out.below hb KV2.out.lt)
        replace HAT2 := Hid.of (HAT2.out.below hb)
        clear hb
        have y0 := KV.out.cell 0 rfl
        have y1 := KV.out.cell 1 rfl
        have z0 := KV2.out.cell 0 rfl
        have z1 := KV2.out.cell 1 rfl
        go_wp2_with fail
        clear y0 y1 z0 z1
        have BU0 : Hid (Below U6.heap.size U6 U6) := Below.refl _ _
        go_loopw [11] (fun x wr => ∃ k : Nat, x = .int .i64 k ∧ k ≤ 0 ∧ Hid (Below U6.heap.size U6 wr)) (fun x _ => 0 - (intOf x).toNat)
        case atStart => exact ⟨0, rfl, Nat.zero_le _, BU0⟩
        case round =>
          clear BU0
          obtain ⟨k, rfl, hk, BU⟩ := hrel
          have y1 := (KV.out.below BU.out KV.out.lt).cell 1 rfl
          have z1 := (KV2.out.below BU.out KV2.out.lt).cell 1 rfl
          have hk0 : k = 0 := by omega
          subst hk0
          have BB := Hid.of (B.out.trans (BU.out.mono B.out.size))
          go_wp2_with fail
          go_ret
          exact ⟨rfl, BB.out⟩
      | some v0 =>
        replace hv : v = v0 := hv
        subst hv
        have HAT := Hid.of hat
        clear hat
        have hb2 : Below W1.heap.size W1 (W1.alloc (.cells #[.slice L.na v.1.length L.nc, .slice L.ma v.2.length L.mc] 72)) := (Below.refl _ _).alloc (Nat.le_refl _) _
        replace B := Hid.of (B.out.trans (hb2.mono B.out.size))
        replace KP := Hid.of (KP.out.below hb2 KP.out.lt)
        have KV := Hid.of (Blk.new W1 72 #[.slice L.na v.1.length L.nc, .slice L.ma v.2.length L.mc])
        replace HAT := Hid.of (HAT.out.below hb2)
        clear hb2
        obtain ⟨x0, x1, x2, x3, x4, x5, x6⟩ := ptcell_at KP.out
        have y0 := KV.out.cell 0 rfl
        have y1 := KV.out.cell 1 rfl
        have hvl := HAT.out.nl
        have hvm := HAT.out.ml
        go_wp2_with fail
        clear x0 x1 x2 x3 x4 x5 x6 y0 y1
        revert B KP KV HAT
        show Hid (Below w.heap.size w (W1.alloc (.cells #[.slice L.na v.1.length L.nc, .slice L.ma v.2.length L.mc] 72))) → _
        generalize W1.alloc (.cells #[.slice L.na v.1.length L.nc, .slice L.ma v.2.length L.mc] 72) = U
        generalize W1.heap.size = vb
        intro B KP KV HAT
        refine (rMayP_any p ⟨Pl, sa, sc, ta, tc⟩ U (Hid.of (h.out.below B.out (Nat.le_refl _)))).mono ?_
        rintro e1 U1 ⟨rfl, hb⟩
        replace B := Hid.of (B.out.trans (hb.mono B.out.size))
        replace KP := Hid.of (KP.out.below hb KP.out.lt)
        replace KV := Hid.of (KV.out.below hb KV.out.lt)
        replace HAT := Hid.of (HAT.out.below hb)
        clear hb
        rw [HM.out]
        obtain ⟨x0, x1, x2, x3, x4, x5, x6⟩ := ptcell_at KP.out
        go_wp2_with fail
        clear x0 x1 x2 x3 x4 x5 x6
        refine (isB_any fa fc free p.m.ev _ (hF.out.below B.out (Nat.le_refl _)) hFl.out).mono ?_
        rintro e1 U2 ⟨rfl, hb⟩
        replace B := Hid.of (B.out.trans (hb.mono B.out.size))
        replace KP := Hid.of (KP.out.below hb KP.out.lt)
        replace KV := Hid.of (KV.out.below hb KV.out.lt)
        replace HAT := Hid.of (HAT.out.below hb)
        clear hb
        rw [HR.out]
        obtain ⟨x0, x1, x2, x3, x4, x5, x6⟩ := ptcell_at KP.out
        go_wp2_with fail
        clear x0 x1 x2 x3 x4 x5 x6
        refine (veiled_any p Pl sa sc ta tc fa fc free _ (Hid.of (h.out.below B.out (Nat.le_refl _))) (Hid.of (hF.out.below B.out (Nat.le_refl _))) hFl).mono ?_
        rintro e1 U3 ⟨rfl, hb⟩
        replace B := Hid.of (B.out.trans (hb.mono B.out.size))
        replace KP := Hid.of (KP.out.below hb KP.out.lt)
        replace KV := Hid.of (KV.out.below hb KV.out.lt)
        replace HAT := Hid.of (HAT.out.below hb)
        clear hb
        rw [HVE.out]
        obtain ⟨x0, x1, x2, x3, x4, x5, x6⟩ := ptcell_at KP.out
        go_wp2_with fail
        clear x0 x1 x2 x3 x4 x5 x6
        refine (rmake_any p Pl sa sc ta tc fa fc free _ (Hid.of (h.out.below B.out (Nat.le_refl _))) (Hid.of (hF.out.below B.out (Nat.le_refl _))) hFl HM).mono ?_
        rintro e1 U4 ⟨g', tg', hmk⟩
        rw [makeV_eq ((mayP_iff p).1 HM.out).1 tg' TG.out, ← HO.out] at hmk
        obtain ⟨L2, rfl, hat2, hb⟩ := make_post hmk
        replace B := Hid.of (B.out.trans (hb.mono B.out.size))
        replace KP := Hid.of (KP.out.below hb KP.out.lt)
        replace KV := Hid.of (KV.out.below hb KV.out.lt)
        replace HAT := Hid.of (HAT.out.below hb)
        clear hb
        have hb2 : Below U4.heap.size U4 (U4.alloc (.cells #[.slice L2.na v.1.length L2.nc, .slice L2.ma v.2.length L2.mc] 72)) := (Below.refl _ _).alloc (Nat.le_refl _) _
        replace B := Hid.of (B.out.trans (hb2.mono B.out.size))
        replace KV := Hid.of (KV.out.below hb2 KV.out.lt)
        replace HAT := Hid.of (HAT.out.below hb2)
        have KV2 := Hid.of (Blk.new U4 72 #[.slice L2.na v.1.length L2.nc, .slice L2.ma v.2.length L2.mc])
        have HAT2 := Hid.of (VAt.below (v := v) (L := L2) hat2 hb2)
        clear hb2 hat2 hmk tg'
        have y0 := KV.out.cell 0 rfl
        have y1 := KV.out.cell 1 rfl
        have z0 := KV2.out.cell 0 rfl
        have z1 := KV2.out.cell 1 rfl
        go_wp2_with fail
        clear y0 y1 z0 z1
        revert B KV HAT KV2 HAT2
        show Hid (Below w.heap.size w (U4.alloc (.cells #[.slice L2.na v.1.length L2.nc, .slice L2.ma v.2.length L2.mc] 72))) → _
        generalize U4.alloc (.cells #[.slice L2.na v.1.length L2.nc, .slice L2.ma v.2.length L2.mc] 72) = U5
        generalize U4.heap.size = vc
        intro B KV HAT KV2 HAT2
        refine (rowsS_any L.na L2.na L.nc L2.nc v.1 U5 HAT.out.n HAT2.out.n (Nat.le_trans HAT.out.nl (by decide))).mono ?_
        rintro e1 U6 ⟨rfl, hb⟩
        replace B := Hid.of (B.out.trans (hb.mono B.out.size))
        replace KV := Hid.of (KV.out.below hb KV.out.lt)
        replace HAT := Hid.of (HAT.out.below hb)
        replace KV2 := Hid.of (KV2.out.below hb KV2.out.lt)
        replace HAT2 := Hid.of (HAT2.out.below hb)
        clear hb
        have y0 := KV.out.cell 0 rfl
        have y1 := KV.out.cell 1 rfl
        have z0 := KV2.out.cell 0 rfl
        have z1 := KV2.out.cell 1 rfl
        go_wp2_with fail
        clear y0 y1 z0 z1
        have BU0 : Hid (Below U6.heap.size U6 U6) := Below.refl _ _
        go_loopw [11] (fun x wr => ∃ k : Nat, x = .int .i64 k ∧ k ≤ v.2.length ∧ Hid (Below U6.heap.size U6 wr)) (fun x _ => v.2.length - (intOf x).toNat)
        case atStart => exact ⟨0, rfl, Nat.zero_le _, BU0⟩
        case round =>
          clear BU0
          obtain ⟨k, rfl, hk, BU⟩ := hrel
          have y1 := (KV.out.below BU.out KV.out.lt).cell 1 rfl
          have z1 := (KV2.out.below BU.out KV2.out.lt).cell 1 rfl
          by_cases hlt : k < v.2.length
          · obtain ⟨m, HMM⟩ : ∃ m, Hid (v.2[k]? = some m) := ⟨_, List.getElem?_eq_getElem hlt⟩
            have hltI : (k : Int) < ((v.2.length : Nat) : Int) := by omega
            have A1 := HAT.out.m.below BU.out
            have A2 := HAT2.out.m.below BU.out
            rcases A1 with h0 | ⟨g1, o1, hg1, -, hc1⟩
            · rw [h0] at hlt; simp at hlt
            rcases A2 with h0 | ⟨g2, o2, hg2, lg2, hc2⟩
            · rw [h0] at hlt; simp at hlt
            obtain ⟨sa1, sc1, a10, a11, a12, a13, at1, ln1⟩ := hc1 k m HMM.out
            obtain ⟨sa2, sc2, a20, a21, a22, a23, at2, ln2⟩ := hc2 k m HMM.out
            rw [hg1] at y1
            rw [hg2] at z1
            have b1 : Below wr.heap.size wr ((wr.alloc (.cells #[.int .i64 (m.nd : Int), .int .i64 m.ev, .slice sa1 m.st.length sc1, .int .i64 (m.to : Int)] 79)).alloc (.cells #[.int .i64 (m.nd : Int), .int .i64 m.ev, .slice sa2 m.st.length sc2, .int .i64 (m.to : Int)] 79)) := ((Below.refl _ _).alloc (Nat.le_refl _) _).alloc (by simp) _
            have b0 : Below wr.heap.size wr (wr.alloc (.cells #[.int .i64 (m.nd : Int), .int .i64 m.ev, .slice sa1 m.st.length sc1, .int .i64 (m.to : Int)] 79)) := (Below.refl _ _).alloc (Nat.le_refl _) _
            have AT1 := Hid.of (at1.below b1 (Nat.le_refl _))
            have AT2 := Hid.of (at2.below b1 (Nat.le_refl _))
            have LN := Hid.of ln1
            have BU2 := Hid.of (BU.out.trans (b1.mono BU.out.size))
            have z1' := ((KV2.out.below BU.out KV2.out.lt).below b0 (Nat.lt_of_lt_of_le KV2.out.lt BU.out.size)).cell 1 rfl
            rw [hg2] at z1'
            have a20' := (b0.cell (p := ⟨g2, o2 + k * 4, none⟩) lg2).trans a20
            have a21' := (b0.cell (p := ⟨g2, o2 + k * 4 + 1, none⟩) lg2).trans a21
            have a22' := (b0.cell (p := ⟨g2, o2 + k * 4 + 2, none⟩) lg2).trans a22
            have a23' := (b0.cell (p := ⟨g2, o2 + k * 4 + 3, none⟩) lg2).trans a23
            clear hc1 hc2 at1 at2 ln1 ln2 hg1 hg2 b0 b1 a20 a21 a22 a23 z1
            go_wp2_with fail
            clear a10 a11 a12 a13 a20' a21' a22' a23' z1' y1
            refine (sameS_any sa1 sa2 sc1 sc2 m.st _ AT1.out AT2.out LN.out).mono ?_
            rintro e1 Z ⟨rfl, hb⟩
            replace BU2 := Hid.of (BU2.out.trans (hb.mono BU2.out.size))
            clear hb
            go_wp2_with fail
            go_roundw
            case rel => exact ⟨k + 1, by go_num, by omega, BU2⟩
            case measure => simp [intOf]; omega
          · have hkl : k = v.2.length := by omega
            subst hkl
            have BB := Hid.of (B.out.trans (BU.out.mono B.out.size))
            clear hlt
            go_wp2_with fail
            go_ret
            exact ⟨rfl, BB.out⟩

end Go.Proofs.YtmlkpdeidpcidaaDoor
namespace Go.Proofs.YtmlkpdeidpcidaaDoor
open Go.RowKit
set_option linter.unusedVariables false

/-! From each state at each event at most one arrow. -/
def PlnV (p : Plant) : Prop := ∀ s e : Int, 0 ≤ s → s < p.m.st → 0 ≤ e → e < p.m.ev → (stepL p.m.arrows [s] e).length ≤ 1
theorem pln_eq {p : Plant} (h : PlnV p) {s e t : Int} (hs : 0 ≤ s ∧ s < p.m.st) (he : 0 ≤ e ∧ e < p.m.ev) (ht : t ∈ stepL p.m.arrows [s] e) : stepL p.m.arrows [s] e = [t] := by
  have hl := h s e hs.1 hs.2 he.1 he.2
  match hq : stepL p.m.arrows [s] e, hl, ht with
  | [], _, ht => simp at ht
  | [x], _, ht => have : t = x := by simpa using ht
                  rw [this]
  | x :: y :: r, hl, _ => simp at hl
theorem pln_arr {p : Plant} (hm : mayB p.m = true) (h : PlnV p) {a : Arr} (ha : a ∈ p.m.arrows) : stepL p.m.arrows [a.f] a.e = [a.t] := by
  obtain ⟨h1, h2, h3, h4, h5, h6⟩ := may_arrs hm a ha
  exact pln_eq h ⟨h1, h2⟩ ⟨h5, h6⟩ ((mem_stepL _ _ _ _).2 ⟨a, ha, rfl, by simp, rfl⟩)
theorem seen_bd {p : Plant} (hp : mayP p = true) : Inc p.seen ∧ ∀ e ∈ p.seen, 0 ≤ e ∧ e < p.m.ev ∧ e < 8 := by
  obtain ⟨h1, h2, h3, h4⟩ := (mayP_iff p).1 hp
  have hz := mayB_size h1
  unfold sizeOk at hz
  have := (rowB_iff _ (by omega) _).1 h3
  exact ⟨this.1, fun e he => by have := this.2 e he; omega⟩
theorem states_bd {p : Plant} (hp : mayP p = true) : 0 ≤ p.m.st ∧ p.m.st ≤ 6 := by
  obtain ⟨h1, h2, h3, h4⟩ := (mayP_iff p).1 hp
  have hz := mayB_size h1
  unfold sizeOk at hz
  omega

/-! The table of where each state leads to at a seen event. -/
def wideS (p : Plant) (ss : List Int) : Nat → Nat := ofS (wideL p.m.arrows p.seen ss)
theorem rep_wideS {p : Plant} (hp : mayP p = true) {ss : List Int} (hs : ∀ x ∈ ss, 0 ≤ x ∧ x < p.m.st) : Rep (wideS p ss) (wideL p.m.arrows p.seen ss) := by
  have hm := ((mayP_iff p).1 hp).1
  have h6 := states_bd hp
  have := rep_of (l := wideL p.m.arrows p.seen ss) (fun x hx => by have := (wide_in hm hs).2 x hx; omega) (wideL p.m.arrows p.seen ss).length
  rwa [List.take_of_length_le (Nat.le_refl _)] at this
def ldStep (p : Plant) (T : Nat → Nat → Nat) (a : Arr) : Nat → Nat → Nat := if hasB p.seen a.e = true then (fun q => if q = a.f.toNat * 8 + a.e.toNat then wideS p [a.t] else T q) else T
def ldT (p : Plant) (k : Nat) : Nat → Nat → Nat := (p.m.arrows.take k).foldl (ldStep p) (fun _ => zeroS)
theorem ldT_succ {p : Plant} {k : Nat} {a : Arr} (h : p.m.arrows[k]? = some a) : ldT p (k + 1) = ldStep p (ldT p k) a := by
  unfold ldT
  rw [List.take_add_one, h, Option.toList_some, List.foldl_append]; rfl
theorem ldT_yes {p : Plant} {k : Nat} {a : Arr} (h : p.m.arrows[k]? = some a) (hs : hasB p.seen a.e = true) : ldT p (k + 1) = fun q => if q = a.f.toNat * 8 + a.e.toNat then wideS p [a.t] else ldT p k q := by
  rw [ldT_succ h]; unfold ldStep; rw [if_pos hs]
theorem ldT_no {p : Plant} {k : Nat} {a : Arr} (h : p.m.arrows[k]? = some a) (hs : hasB p.seen a.e = false) : ldT p (k + 1) = ldT p k := by
  rw [ldT_succ h]; unfold ldStep; rw [if_neg (by rw [hs]; simp)]
theorem ldT_is (p : Plant) : ∀ (k : Nat), k ≤ p.m.arrows.length → ∀ q, (∃ a ∈ p.m.arrows.take k, hasB p.seen a.e = true ∧ q = a.f.toNat * 8 + a.e.toNat ∧ ldT p k q = wideS p [a.t]) ∨ ((∀ a ∈ p.m.arrows.take k, hasB p.seen a.e = true → q ≠ a.f.toNat * 8 + a.e.toNat) ∧ ldT p k q = zeroS)
  | 0, _, q => .inr ⟨by simp, rfl⟩
  | k + 1, hk, q => by
    have hx := List.getElem?_eq_getElem (show k < p.m.arrows.length by omega)
    generalize p.m.arrows[k] = b at hx
    have ht : p.m.arrows.take (k + 1) = p.m.arrows.take k ++ [b] := by rw [List.take_add_one, hx]; rfl
    have ih := ldT_is p k (by omega) q
    rw [ht]
    cases hs : hasB p.seen b.e with
    | false =>
      rw [ldT_no hx hs]
      rcases ih with ⟨a, h1, h2⟩ | ⟨h1, h2⟩
      · exact .inl ⟨a, List.mem_append_left _ h1, h2⟩
      · refine .inr ⟨fun a ha hsa => ?_, h2⟩
        rcases List.mem_append.1 ha with ha | ha
        · exact h1 a ha hsa
        · have : a = b := by simpa using ha
          subst this; rw [hs] at hsa; cases hsa
    | true =>
      rw [ldT_yes hx hs]
      by_cases hq : q = b.f.toNat * 8 + b.e.toNat
      · exact .inl ⟨b, List.mem_append_right _ (by simp), hs, hq, if_pos hq⟩
      · show (∃ a ∈ _, _ ∧ _ ∧ (if q = _ then _ else _) = _) ∨ (_ ∧ (if q = _ then _ else _) = _)
        rw [if_neg hq]
        rcases ih with ⟨a, h1, h2⟩ | ⟨h1, h2⟩
        · exact .inl ⟨a, List.mem_append_left _ h1, h2⟩
        · refine .inr ⟨fun a ha hsa => ?_, h2⟩
          rcases List.mem_append.1 ha with ha | ha
          · exact h1 a ha hsa
          · have : a = b := by simpa using ha
            subst this; exact hq
/-- The table tells where each state leads to. -/
structure TabV (p : Plant) (T : Nat → Nat → Nat) : Prop where
  ok : ∀ q, okS (T q)
  rep : ∀ (n : Nat) (e : Int), (n : Int) < p.m.st → e ∈ p.seen → Rep (T (n * 8 + e.toNat)) (seeL p [(n : Int)] e)
theorem ok_wideS {p : Plant} (hp : mayP p = true) {ss : List Int} (hs : ∀ x ∈ ss, 0 ≤ x ∧ x < p.m.st) : okS (wideS p ss) := (rep_wideS hp hs).ok
theorem ok_ldT {p : Plant} (hp : mayP p = true) (k : Nat) (hk : k ≤ p.m.arrows.length) (q : Nat) : okS (ldT p k q) := by
  rcases ldT_is p k hk q with ⟨a, h1, h2, h3, h4⟩ | ⟨h1, h2⟩
  · have := may_arrs ((mayP_iff p).1 hp).1 a (List.mem_of_mem_take h1)
    rw [h4]; exact ok_wideS hp (fun x hx => by have : x = a.t := by simpa using hx
                                               subst this; exact ⟨by have := this; omega, by omega⟩)
  · rw [h2]; exact okS_zero
theorem ld_tab {p : Plant} (hp : mayP p = true) (hpl : PlnV p) : TabV p (ldT p p.m.arrows.length) := by
  have hm := ((mayP_iff p).1 hp).1
  have hsb := (seen_bd hp).2
  have h6 := states_bd hp
  refine ⟨ok_ldT hp _ (Nat.le_refl _), fun n e hn he => ?_⟩
  have hse := hsb e he
  rcases ldT_is p _ (Nat.le_refl _) (n * 8 + e.toNat) with ⟨a, h1, h2, h3, h4⟩ | ⟨h1, h2⟩
  · rw [List.take_of_length_le (Nat.le_refl _)] at h1
    obtain ⟨a1, a2, a3, a4, a5, a6⟩ := may_arrs hm a h1
    have a7 := (hsb a.e ((hasB_iff _ _).1 h2)).2.2
    have e1 : a.f = (n : Int) := by omega
    have e2 : a.e = e := by omega
    rw [h4]
    have := pln_arr hm hpl h1
    unfold seeL
    rw [← e1, ← e2, this]
    exact rep_wideS hp (fun x hx => by have : x = a.t := by simpa using hx
                                       subst this; exact ⟨by omega, by omega⟩)
  · rw [List.take_of_length_le (Nat.le_refl _)] at h1
    have : stepL p.m.arrows [(n : Int)] e = [] := by
      refine List.eq_nil_iff_forall_not_mem.2 fun x hx => ?_
      obtain ⟨a, b1, b2, b3, b4⟩ := (mem_stepL _ _ _ _).1 hx
      have b3 : a.f = (n : Int) := by simpa using b3
      exact h1 a b1 (by rw [b2]; exact (hasB_iff _ _).2 he) (by rw [b3, b2]; simp)
    rw [h2]
    unfold seeL
    rw [this]
    have hnil : wideL p.m.arrows p.seen [] = [] := List.eq_nil_iff_forall_not_mem.2 fun x hx => by
      obtain ⟨t, ht, -⟩ := (vWide_one hm [] x).1 hx
      simp at ht
    rw [hnil]; exact rep_nil
theorem mem_alls {S : Nat → Nat} {l : List Int} (hr : Rep S l) (n : Nat) : n ∈ allS S ↔ (n : Int) ∈ l := by
  rw [mem_allS]
  constructor
  · rintro ⟨h1, h2⟩; exact (hr.mem n h1).1 h2
  · intro h; have := hr.bd _ h; exact ⟨by omega, (hr.mem n (by omega)).2 h⟩
/-- Where a set leads to at a seen event. -/
theorem rep_nextV {p : Plant} (hp : mayP p = true) {T : Nat → Nat → Nat} (hT : TabV p T) {S : Nat → Nat} {l : List Int} (hr : Rep S l) (hb : ∀ x ∈ l, 0 ≤ x ∧ x < p.m.st) {e : Int} (he : e ∈ p.seen) : Rep (toF (fun n => T (n * 8 + e.toNat)) (allS S)) (seeL p l e) := by
  have hm := ((mayP_iff p).1 hp).1
  have h6 := states_bd hp
  refine ⟨ok_toF (fun _ => hT.ok _) _, fun x hx => by have := (see_in hm l e).2 x hx; omega, fun k hk => ?_⟩
  rw [has_toF, vSee_one hm]
  constructor
  · rintro ⟨n, h1, h2⟩
    have h3 := (mem_alls hr n).1 h1
    exact ⟨n, h3, ((hT.rep n e (hb _ h3).2 he).mem k hk).1 h2⟩
  · rintro ⟨t, ht, hk2⟩
    have h3 := hb t ht
    obtain ⟨n, rfl⟩ : ∃ n : Nat, t = (n : Int) := ⟨t.toNat, by omega⟩
    exact ⟨n, (mem_alls hr n).2 ht, ((hT.rep n e h3.2 he).mem k hk).2 hk2⟩
theorem empty_of {S : Nat → Nat} {l : List Int} (hr : Rep S l) : emptyB S = true ↔ l = [] := by
  constructor
  · exact empty_yes hr
  · rintro rfl
    have h := (eqS_iff hr rep_nil (by simp [Inc]) (by simp [Inc])).2 rfl
    unfold emptyB
    exact decide_eq_true h
/-- The states of a set that have an arrow at a seen event. -/
def ableF (T : Nat → Nat → Nat) (e : Nat) (ns : List Nat) : Nat → Nat := ns.foldl (fun o n => if emptyB (T (n * 8 + e)) = true then o else withS o n) zeroS
theorem ableF_snoc (T : Nat → Nat → Nat) (e : Nat) (ns : List Nat) (n : Nat) : ableF T e (ns ++ [n]) = if emptyB (T (n * 8 + e)) = true then ableF T e ns else withS (ableF T e ns) n := by
  unfold ableF; rw [List.foldl_append]; rfl
theorem ok_ableG (T : Nat → Nat → Nat) (e : Nat) : ∀ (ns : List Nat) (o : Nat → Nat), okS o → okS (ns.foldl (fun o n => if emptyB (T (n * 8 + e)) = true then o else withS o n) o)
  | [], o, h => h
  | n :: r, o, h => by
    rw [List.foldl_cons]
    refine ok_ableG T e r _ ?_
    split
    · exact h
    · exact okS_with h n
theorem ok_ableF (T : Nat → Nat → Nat) (e : Nat) (ns : List Nat) : okS (ableF T e ns) := ok_ableG T e ns _ okS_zero
theorem has_ableG (T : Nat → Nat → Nat) (e k : Nat) : ∀ (ns : List Nat) (o : Nat → Nat), hasS (ns.foldl (fun o n => if emptyB (T (n * 8 + e)) = true then o else withS o n) o) k = true ↔ hasS o k = true ∨ (k ∈ ns ∧ emptyB (T (k * 8 + e)) = false)
  | [], o => by simp
  | n :: r, o => by
    rw [List.foldl_cons, has_ableG T e k r]
    cases hx : emptyB (T (n * 8 + e)) with
    | true =>
      rw [if_pos rfl]
      constructor
      · rintro (h | ⟨h1, h2⟩)
        · exact .inl h
        · exact .inr ⟨List.mem_cons_of_mem _ h1, h2⟩
      · rintro (h | ⟨h1, h2⟩)
        · exact .inl h
        · rcases List.mem_cons.1 h1 with rfl | h1
          · rw [hx] at h2; cases h2
          · exact .inr ⟨h1, h2⟩
    | false =>
      rw [if_neg (by simp), hasS_with, Bool.or_eq_true, decide_eq_true_eq]
      constructor
      · rintro ((h | rfl) | ⟨h1, h2⟩)
        · exact .inl h
        · exact .inr ⟨by simp, hx⟩
        · exact .inr ⟨List.mem_cons_of_mem _ h1, h2⟩
      · rintro (h | ⟨h1, h2⟩)
        · exact .inl (.inl h)
        · rcases List.mem_cons.1 h1 with rfl | h1
          · exact .inl (.inr rfl)
          · exact .inr ⟨h1, h2⟩
theorem has_ableF (T : Nat → Nat → Nat) (e k : Nat) (ns : List Nat) : hasS (ableF T e ns) k = true ↔ k ∈ ns ∧ emptyB (T (k * 8 + e)) = false := by
  unfold ableF
  rw [has_ableG, hasS_zero]; simp
def ableL (p : Plant) (l : List Int) (e : Int) : List Int := l.filter fun s => decide ((stepL p.m.arrows [s] e).length = 1)
theorem mem_ableL {p : Plant} (l : List Int) (e s : Int) : s ∈ ableL p l e ↔ s ∈ l ∧ ∃ t, stepL p.m.arrows [s] e = [t] := by
  unfold ableL
  rw [List.mem_filter, decide_eq_true_eq, List.length_eq_one_iff]
theorem rep_able {p : Plant} (hp : mayP p = true) (hpl : PlnV p) {T : Nat → Nat → Nat} (hT : TabV p T) {S : Nat → Nat} {l : List Int} (hr : Rep S l) (hb : ∀ x ∈ l, 0 ≤ x ∧ x < p.m.st) {e : Int} (he : e ∈ p.seen) : Rep (ableF T e.toNat (allS S)) (ableL p l e) := by
  have hm := ((mayP_iff p).1 hp).1
  have hse := (seen_bd hp).2 e he
  refine ⟨ok_ableF T _ _, fun x hx => hr.bd x (List.mem_filter.1 hx).1, fun k hk => ?_⟩
  rw [has_ableF, mem_ableL, mem_alls hr]
  refine and_congr_right fun hkl => ?_
  have hkb := hb _ hkl
  have h1 := empty_of (hT.rep k e hkb.2 he)
  constructor
  · intro h
    have hne : seeL p [(k : Int)] e ≠ [] := fun hh => by rw [h1.2 hh] at h; cases h
    obtain ⟨x, hx⟩ := List.exists_mem_of_ne_nil _ hne
    obtain ⟨t, ht, -⟩ := (vWide_one hm _ x).1 hx
    exact ⟨t, pln_eq hpl hkb ⟨hse.1, hse.2.1⟩ ht⟩
  · rintro ⟨t, ht⟩
    cases hx : emptyB (T (k * 8 + e.toNat)) with
    | false => rfl
    | true =>
      have h2 := h1.1 hx
      have : t ∈ seeL p [(k : Int)] e := wide_sub (may_to hm) _ (by rw [ht]; simp)
      rw [h2] at this; simp at this

/-! All parts of a set. -/
theorem snoc_ind {P : List Nat → Prop} (h0 : P []) (h1 : ∀ l n, P l → P (l ++ [n])) (l : List Nat) : P l := by
  have : ∀ k, k ≤ l.length → P (l.take k) := by
    intro k
    induction k with
    | zero => intro _; exact h0
    | succ k ih =>
      intro hk
      rw [List.take_add_one, List.getElem?_eq_getElem (by omega)]
      exact h1 _ _ (ih (by omega))
  have := this l.length (Nat.le_refl _)
  rwa [List.take_of_length_le (Nat.le_refl _)] at this
def prtS (ns : List Nat) : List (Nat → Nat) := ns.foldl (fun out n => out ++ out.map fun S => withS S n) [zeroS]
theorem prtS_snoc (ns : List Nat) (n : Nat) : prtS (ns ++ [n]) = prtS ns ++ (prtS ns).map fun S => withS S n := by
  unfold prtS; rw [List.foldl_append]; rfl
theorem ok_prtS (ns : List Nat) : ∀ S ∈ prtS ns, okS S := by
  refine snoc_ind (P := fun ns => ∀ S ∈ prtS ns, okS S) (fun S hS => by have : S = zeroS := by simpa [prtS] using hS
                                                                        rw [this]; exact okS_zero) (fun l n ih S hS => ?_) ns
  rw [prtS_snoc] at hS
  rcases List.mem_append.1 hS with hS | hS
  · exact ih S hS
  · obtain ⟨Q, hQ, rfl⟩ := List.mem_map.1 hS
    exact okS_with (ih Q hQ) n
def prtL (ns : List Nat) : List (List Int) := ns.foldl (fun (out : List (List Int)) (n : Nat) => out ++ out.map fun l => l ++ [(n : Int)]) [[]]
theorem prtL_snoc (ns : List Nat) (n : Nat) : prtL (ns ++ [n]) = prtL ns ++ (prtL ns).map fun l => l ++ [(n : Int)] := by
  unfold prtL; rw [List.foldl_append]; rfl
theorem prt_len (ns : List Nat) : (prtS ns).length = 2 ^ ns.length := by
  refine snoc_ind (P := fun ns => (prtS ns).length = 2 ^ ns.length) rfl (fun l n ih => ?_) ns
  show (prtS (l ++ [n])).length = _
  rw [prtS_snoc]
  simp only [List.length_append, List.length_map, List.length_cons, List.length_nil, ih, Nat.pow_succ]
  omega
theorem mem_prtL (ns : List Nat) : ∀ l, l ∈ prtL ns ↔ l.Sublist (ns.map fun n : Nat => (n : Int)) := by
  refine snoc_ind (P := fun ns => ∀ l, l ∈ prtL ns ↔ l.Sublist (ns.map fun n : Nat => (n : Int))) (fun l => by simp [prtL]) (fun ns n ih l => ?_) ns
  rw [prtL_snoc, List.mem_append, ih, List.map_append, List.sublist_append_iff, List.mem_map]
  constructor
  · rintro (h | ⟨q, hq, rfl⟩)
    · exact ⟨l, [], by simp, h, by simp⟩
    · exact ⟨q, [(n : Int)], rfl, (ih q).1 hq, by simp⟩
  · rintro ⟨l1, l2, rfl, h1, h2⟩
    have : l2 = [] ∨ l2 = [(n : Int)] := by
      cases h2 with
      | cons _ h => exact .inl (by simpa using h)
      | cons_cons _ h => exact .inr (by simp at h; simp [h])
    rcases this with rfl | rfl
    · exact .inl (by simpa using h1)
    · exact .inr ⟨l1, (ih l1).2 h1, rfl⟩
theorem prt_rep (ns : List Nat) : ns.Pairwise (· < ·) → (∀ n ∈ ns, n < 256) → RepL (prtS ns) (prtL ns) := by
  refine snoc_ind (P := fun ns => ns.Pairwise (· < ·) → (∀ n ∈ ns, n < 256) → RepL (prtS ns) (prtL ns)) (fun _ _ => RepL.one rep_nil (by simp [Inc])) (fun ns n ih hp hb => ?_) ns
  have hp' := List.pairwise_append.1 hp
  have ih := ih hp'.1 (fun k hk => hb k (List.mem_append_left _ hk))
  rw [prtS_snoc, prtL_snoc]
  refine ⟨by simp [ih.len], fun k S hk => ?_⟩
  by_cases hlt : k < (prtS ns).length
  · rw [List.getElem?_append_left hlt] at hk
    obtain ⟨l, h1, h2⟩ := ih.rep k S hk
    exact ⟨l, by rw [List.getElem?_append_left (by rw [← ih.len]; exact hlt)]; exact h1, h2⟩
  · rw [List.getElem?_append_right (by omega), List.getElem?_map] at hk
    obtain ⟨S0, h0, rfl⟩ := Option.map_eq_some_iff.1 hk
    obtain ⟨l, h1, h2, h3⟩ := ih.rep _ S0 h0
    refine ⟨l ++ [(n : Int)], by rw [List.getElem?_append_right (by rw [← ih.len]; omega), ← ih.len, List.getElem?_map, h1]; rfl, ?_, ?_⟩
    · have := rep_snoc h2 (x := (n : Int)) (by omega) (by have := hb n (by simp); omega)
      rwa [Int.toNat_natCast] at this
    · refine List.pairwise_append.2 ⟨h3, by simp, fun a ha b hb' => ?_⟩
      have : b = (n : Int) := by simpa using hb'
      subst this
      have hs := ((mem_prtL ns l).1 (List.mem_of_getElem? h1)).subset ha
      obtain ⟨q, hq, rfl⟩ := List.mem_map.1 hs
      have := hp'.2.2 q hq n (by simp)
      omega
theorem prtL_nodup (ns : List Nat) : ns.Nodup → (prtL ns).Nodup := by
  refine snoc_ind (P := fun ns => ns.Nodup → (prtL ns).Nodup) (fun _ => by simp [prtL]) (fun ns n ih hp => ?_) ns
  have hp' := List.nodup_append.1 hp
  rw [prtL_snoc, List.nodup_append]
  refine ⟨ih hp'.1, ?_, fun a ha b hb e => ?_⟩
  · rw [List.nodup_iff_pairwise_ne, List.pairwise_map]
    exact (List.nodup_iff_pairwise_ne.1 (ih hp'.1)).imp (fun h e => h (by simpa using e))
  · obtain ⟨q, hq, rfl⟩ := List.mem_map.1 hb
    have hs := ((mem_prtL ns a).1 ha).subset (show (n : Int) ∈ a by rw [e]; simp)
    obtain ⟨k, hk, hkn⟩ := List.mem_map.1 hs
    have : k = n := by omega
    exact hp'.2.2 k hk n (by simp) this
theorem natL_sub : ∀ (l : List Int) (n : Nat), Inc l → (∀ x ∈ l, 0 ≤ x ∧ x < (n : Int)) → l.Sublist ((List.range n).map fun k : Nat => (k : Int))
  | l, n, hi, hb => by
    have h1 : l = ((List.range n).map fun k : Nat => (k : Int)).filter (fun x => hasB l x) := by
      refine inc_ext hi ?_ fun x => ?_
      · refine List.Pairwise.filter _ ?_
        rw [List.pairwise_map]
        exact List.Pairwise.imp (fun h => by omega) List.pairwise_lt_range
      · rw [List.mem_filter, hasB_iff, List.mem_map]
        constructor
        · intro hx
          have := hb x hx
          exact ⟨⟨x.toNat, List.mem_range.2 (by omega), by omega⟩, hx⟩
        · exact fun h => h.2
    rw [h1]; exact List.filter_sublist

end Go.Proofs.YtmlkpdeidpcidaaDoor
namespace Go.Proofs.YtmlkpdeidpcidaaDoor
open Go.RowKit
set_option linter.unusedVariables false

/-- No two neighbours of the first k arrows lead from one state at one event. -/
def NoAdj (ars : List Arr) (k : Nat) : Prop := ∀ (j : Nat) (a b : Arr), j + 1 < k → ars[j]? = some a → ars[j + 1]? = some b → ¬ (a.f = b.f ∧ a.e = b.e)
theorem noAdj_one (ars : List Arr) (k : Nat) (hk : k ≤ 1) : NoAdj ars k := fun j a b h => by omega
theorem noAdj_more {ars : List Arr} {k : Nat} {a b : Arr} (h : NoAdj ars (k + 1)) (ha : ars[k]? = some a) (hb : ars[k + 1]? = some b) (hn : ¬ (a.f = b.f ∧ a.e = b.e)) : NoAdj ars (k + 2) := fun j x y hj hx hy => by
  by_cases e : j = k
  · subst e
    rw [ha] at hx; rw [hb] at hy
    cases hx; cases hy; exact hn
  · exact h j x y (by omega) hx hy
theorem adj_no {p : Plant} (hp : mayP p = true) {k : Nat} {a b : Arr} (ha : p.m.arrows[k]? = some a) (hb : p.m.arrows[k + 1]? = some b) (hf : a.f = b.f) (he : a.e = b.e) : plainB p = false := by
  have hm := ((mayP_iff p).1 hp).1
  have hz := mayB_size hm
  unfold sizeOk at hz
  have h1 := may_arrs hm a (List.mem_of_getElem? ha)
  obtain ⟨a1, a2, a3, a4, a5, a6⟩ := h1
  obtain ⟨k1, e1⟩ := List.getElem?_eq_some_iff.1 ha
  obtain ⟨k2, e2⟩ := List.getElem?_eq_some_iff.1 hb
  have hlt := List.pairwise_iff_getElem.1 (may_inc hm) k (k + 1) k1 k2 (by omega)
  rw [e1, e2, aheadB_iff] at hlt
  have ht : a.t < b.t := by omega
  refine plain_no (S := p.m.st.toNat) (E := p.m.ev.toNat) (s := a.f.toNat) (e := a.e.toNat) (by omega) (by omega) (by omega) (by omega) ?_
  rw [Int.toNat_of_nonneg a1, Int.toNat_of_nonneg a5]
  have m1 : a.t ∈ stepL p.m.arrows [a.f] a.e := (mem_stepL _ _ _ _).2 ⟨a, List.mem_of_getElem? ha, rfl, by simp, rfl⟩
  have m2 : b.t ∈ stepL p.m.arrows [a.f] a.e := (mem_stepL _ _ _ _).2 ⟨b, List.mem_of_getElem? hb, he.symm, by simp [hf], rfl⟩
  match hq : stepL p.m.arrows [a.f] a.e, m1, m2 with
  | [], m1, _ => simp at m1
  | [x], m1, m2 =>
    have e1 : a.t = x := by simpa using m1
    have e2 : b.t = x := by simpa using m2
    omega
  | x :: y :: r, _, _ => simp
theorem adj_yes {p : Plant} (hp : mayP p = true) (h : NoAdj p.m.arrows p.m.arrows.length) (hs : p.m.starts.length ≤ 1) : plainB p = true := by
  have hm := ((mayP_iff p).1 hp).1
  have hz := mayB_size hm
  unfold sizeOk at hz
  refine plain_yes (S := p.m.st.toNat) (E := p.m.ev.toNat) (by omega) (by omega) (by omega) fun s _ e _ => ?_
  match hq : stepL p.m.arrows [(s : Int)] (e : Int) with
  | [] => simp
  | [x] => simp
  | x :: y :: r =>
    exfalso
    have hi : Inc (stepL p.m.arrows [(s : Int)] (e : Int)) := inc_srt _
    rw [hq] at hi
    have hxy : x < y := (List.pairwise_cons.1 hi).1 y (by simp)
    obtain ⟨a, b1, b2, b3, b4⟩ := (mem_stepL _ _ _ _).1 (show x ∈ stepL p.m.arrows [(s : Int)] (e : Int) by rw [hq]; simp)
    obtain ⟨b, c1, c2, c3, c4⟩ := (mem_stepL _ _ _ _).1 (show y ∈ stepL p.m.arrows [(s : Int)] (e : Int) by rw [hq]; simp)
    have b3 : a.f = (s : Int) := by simpa using b3
    have c3 : b.f = (s : Int) := by simpa using c3
    obtain ⟨i, hi1⟩ := List.mem_iff_getElem?.1 b1
    obtain ⟨j, hj1⟩ := List.mem_iff_getElem?.1 c1
    obtain ⟨i1, i2⟩ := List.getElem?_eq_some_iff.1 hi1
    obtain ⟨j1, j2⟩ := List.getElem?_eq_some_iff.1 hj1
    have hP := List.pairwise_iff_getElem.1 (may_inc hm)
    have hij : i < j := by
      rcases Nat.lt_trichotomy i j with h1 | h1 | h1
      · exact h1
      · subst h1; rw [i2] at j2; subst j2; omega
      · have := hP j i j1 i1 h1
        rw [i2, j2, aheadB_iff] at this
        omega
    have hn : i + 1 < p.m.arrows.length := by omega
    have hx := List.getElem?_eq_getElem hn
    have o1 := hP i (i + 1) i1 hn (by omega)
    rw [i2, aheadB_iff] at o1
    by_cases e1 : i + 1 = j
    · subst e1
      exact h i a b hn hi1 hj1 ⟨by omega, by omega⟩
    · have o2 := hP (i + 1) j hn j1 (by omega)
      rw [j2, aheadB_iff] at o2
      exact h i a _ hn hi1 hx ⟨by omega, by omega⟩
theorem plain_pln {p : Plant} (hp : mayP p = true) (h : plainB p = true) : PlnV p := by
  have hm := ((mayP_iff p).1 hp).1
  unfold plainB at h
  rw [Bool.and_eq_true, List.all_eq_true] at h
  intro s e h0 h1 h2 h3
  have := List.all_eq_true.1 (h.2 s.toNat (List.mem_range.2 (by omega))) e.toNat (List.mem_range.2 (by omega))
  rw [decide_eq_true_eq, Int.toNat_of_nonneg h0, Int.toNat_of_nonneg h2] at this
  exact this

set_option maxRecDepth 100000 in
set_option maxHeartbeats 4000000 in
theorem isPlain_any (st ev : Int) (starts : List Int) (ars : List Arr) (ends seen secret : List Int) (a1 : Option Addr) (c1 : Nat) (a2 : Option Addr) (c2 : Nat) (a3 : Option Addr) (c3 : Nat) (w : World) (hp : Hid (mayP ⟨⟨st, ev, starts, ars, ends⟩, seen, secret⟩ = true)) (hA : Hid (AtA w a2 ars)) :
    Calls Tryd.prog 104 #[mval ⟨st, ev, starts, ars, ends⟩ ⟨a1, c1, a2, c2, a3, c3⟩] w fun e w' => e = .returned (.bool (plainB ⟨⟨st, ev, starts, ars, ends⟩, seen, secret⟩)) ∧ Below w.heap.size w w' := by
  obtain ⟨PB, HPB⟩ : ∃ PB, Hid (PB = plainB ⟨⟨st, ev, starts, ars, ends⟩, seen, secret⟩) := ⟨_, rfl⟩
  rw [← HPB.out]
  have B : Hid (Below w.heap.size w (w.alloc (.cells (mcells ⟨st, ev, starts, ars, ends⟩ ⟨a1, c1, a2, c2, a3, c3⟩) 25))) := (Below.refl _ _).alloc (Nat.le_refl _) _
  have KP : Hid (Blk (w.alloc (.cells (mcells ⟨st, ev, starts, ars, ends⟩ ⟨a1, c1, a2, c2, a3, c3⟩) 25)) w.heap.size 25 (mcells ⟨st, ev, starts, ars, ends⟩ ⟨a1, c1, a2, c2, a3, c3⟩)) := Blk.new w _ _
  have hal : ars.length ≤ 4096 := by
    have := mayB_size ((mayP_iff _).1 hp.out).1
    unfold sizeOk at this
    exact this.2.2.2.2
  go_enter Tryd.func104, Tryd.ntmps104
  obtain ⟨x0, x1, x2, x3, x4⟩ := mcell_at KP.out
  dsimp only at x0 x1 x2 x3 x4
  go_wp2_with fail
  clear x0 x1 x2 x3 x4
  revert B KP
  generalize w.alloc (.cells (mcells ⟨st, ev, starts, ars, ends⟩ ⟨a1, c1, a2, c2, a3, c3⟩) 25) = V
  intro B KP
  go_loopw [8] (fun i wr => ∃ k : Nat, i = .int .i64 k ∧ k ≤ ars.length ∧ Hid (NoAdj ars k) ∧ Hid (Below V.heap.size V wr)) (fun i _ => ars.length - (intOf i).toNat)
  case atStart => exact ⟨0, rfl, Nat.zero_le _, noAdj_one _ _ (by omega), Below.refl _ _⟩
  case round =>
    obtain ⟨k, rfl, hk, WN, WB⟩ := hrel
    have WP := Hid.of (KP.out.below WB.out KP.out.lt)
    have WW := Hid.of (B.out.trans (WB.out.mono B.out.size))
    by_cases hlt : k < ars.length
    · rcases (hA.out.below WW.out (Nat.le_refl _)) with h0 | ⟨b, off, rfl, hb, hca⟩
      · rw [h0] at hlt; simp at hlt
      obtain ⟨a, HA, y1, y2, y3⟩ := hca.at hlt
      have HCA := Hid.of hca
      have HAG : Hid (ars[k]? = some a) := by
        have h := HA.out
        show _ = _
        rw [List.getElem?_eq_getElem hlt, Option.getD_some] at h
        rw [List.getElem?_eq_getElem hlt, h]
      have hbz : Below wr.heap.size wr (wr.alloc (.cells #[.int .i64 a.f, .int .i64 a.e, .int .i64 a.t] 81)) := (Below.refl _ _).alloc (Nat.le_refl _) _
      have WA : Hid (Blk (wr.alloc (.cells #[.int .i64 a.f, .int .i64 a.e, .int .i64 a.t] 81)) wr.heap.size 81 #[.int .i64 a.f, .int .i64 a.e, .int .i64 a.t]) := Blk.new wr _ _
      have HBZ : Hid (CellsA (wr.alloc (.cells #[.int .i64 a.f, .int .i64 a.e, .int .i64 a.t] 81)) b off ars) := by
        intro j hj
        have := hca j hj
        refine ⟨(hbz.cell (p := ⟨b, off + j * 3, none⟩) hb).trans this.1, (hbz.cell (p := ⟨b, off + j * 3 + 1, none⟩) hb).trans this.2.1, (hbz.cell (p := ⟨b, off + j * 3 + 2, none⟩) hb).trans this.2.2⟩
      clear hca HCA
      go_wp2_with fail
      clear y1 y2 y3
      have ZB := Hid.of (WB.out.trans (hbz.mono WB.out.size))
      clear hbz hb
      revert WA HBZ ZB
      generalize wr.alloc (.cells #[.int .i64 a.f, .int .i64 a.e, .int .i64 a.t] 81) = Z
      generalize wr.heap.size = pb
      intro WA HBZ ZB
      clear WB WP WW
      obtain ⟨x0, x1, x2, x3, x4⟩ := mcell_at (KP.out.below ZB.out KP.out.lt)
      dsimp only at x0 x1 x2 x3 x4
      have f0 := WA.out.cell 0 rfl
      have f1 := WA.out.cell 1 rfl
      by_cases h0 : k = 0
      · subst h0
        go_quiet (fail)
        go_wp2_with fail
        go_roundw
        case rel => exact ⟨1, by go_num, by omega, noAdj_one _ _ (by omega), below_drewN ZB.out _⟩
        case measure => simp [intOf]; omega
      · obtain ⟨j, hj⟩ : ∃ j, Hid (k = j + 1) := ⟨k - 1, by show _ = _; omega⟩
        have hjl : j < ars.length := by have := hj.out; omega
        obtain ⟨b', HPA, z1, z2, z3⟩ := HBZ.out.at hjl
        have HPG : Hid (ars[j]? = some b') := by
          have h := HPA.out
          show _ = _
          rw [List.getElem?_eq_getElem hjl, Option.getD_some] at h
          rw [List.getElem?_eq_getElem hjl, h]
        have hwr : IntKind.i64.wrap ((k : Int) - 1) = (j : Int) := by
          have := hj.out
          rw [show ((k : Int) - 1) = (j : Int) by omega]
          rw [IntKind.wrap_i64]; omega
        have hpos : 0 < k := by omega
        have dpos : decide ((0 : Int) < (k : Int)) = true := by simp; omega
        rw [hj.out] at HAG WN
        by_cases hf : b'.f = a.f
        · by_cases he : b'.e = a.e
          · have HEND : Hid (false = PB) := by
              show _ = _
              rw [HPB.out]
              exact (adj_no hp.out HPG.out HAG.out hf he).symm
            have e1 : (b'.f == a.f) = true := by simp [hf]
            have e2 : (b'.e == a.e) = true := by simp [he]
            clear hf he
            go_quiet (fail)
            go_wp2_with fail
            go_ret
            exact ⟨by rw [← HEND.out]; rfl, B.out.trans ((below_drewN ZB.out _).mono B.out.size)⟩
          · have HN2 := Hid.of (noAdj_more WN.out HPG.out HAG.out (fun h => he h.2))
            have e1 : (b'.f == a.f) = true := by simp [hf]
            have e2 : (b'.e == a.e) = false := by simp [he]
            clear hf he
            go_quiet (fail)
            go_wp2_with fail
            go_roundw
            case rel => exact ⟨k + 1, by go_num, by omega, by rw [show k + 1 = j + 2 by have := hj.out; omega]; exact HN2, below_drewN ZB.out _⟩
            case measure => simp [intOf]; omega
        · have HN2 := Hid.of (noAdj_more WN.out HPG.out HAG.out (fun h => hf h.1))
          have e1 : (b'.f == a.f) = false := by simp [hf]
          clear hf
          go_quiet (fail)
          go_wp2_with fail
          go_roundw
          case rel => exact ⟨k + 1, by go_num, by omega, by rw [show k + 1 = j + 2 by have := hj.out; omega]; exact HN2, below_drewN ZB.out _⟩
          case measure => simp [intOf]; omega
    · have hk2 : ars.length ≤ k := by omega
      have HKE : Hid (k = ars.length) := by show _ = _; omega
      clear hlt
      have HEND : Hid (decide ((starts.length : Int) ≤ 1) = PB) := by
        show _ = _
        rw [HPB.out]
        have h1 := WN.out
        rw [HKE.out] at h1
        by_cases h2 : starts.length ≤ 1
        · rw [adj_yes hp.out h1 h2]; simp; omega
        · rw [plain_many (p := ⟨⟨st, ev, starts, ars, ends⟩, seen, secret⟩) (by show 1 < starts.length; omega)]; simp; omega
      obtain ⟨x0, x1, x2, x3, x4⟩ := mcell_at WP.out
      dsimp only at x0 x1 x2 x3 x4
      go_wp2_with fail
      go_ret
      exact ⟨by rw [← HEND.out]; rfl, WW.out⟩

end Go.Proofs.YtmlkpdeidpcidaaDoor
