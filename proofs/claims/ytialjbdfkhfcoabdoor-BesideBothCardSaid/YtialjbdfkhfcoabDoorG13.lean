/-
  The walks of finder.end and finder.list.
  The walk of machine.compare.
-/
import Derived.Test.YtialjbdfkhfcoabDoorG12
import Derived.Test.YtialjbdfkhfcoabDoorG11
namespace Go.Proofs.YtialjbdfkhfcoabDoor
open Go.RowKit
set_option linter.unusedVariables false

section
variable {B : Nat} {W : World} {bf br : Nat} {st ev : Int} {vs va ve vp : Value} {S : List Int} {A : List Arr} {E : List Int} {P : List (Int × Int)}
theorem FD.setSt (h : FD B W bf br st ev vs va ve vp S A E P) (st' : Int) : FD B (W.setCell ⟨bf, 0, none⟩ (.int .i64 st')) bf br st' ev vs va ve vp S A E P := by
  obtain ⟨a1, a2⟩ := h.apart
  have key : ∀ v ∈ [vs, va, ve, vp], ∀ k, v.ownBlock = some k → (W.setCell ⟨bf, 0, none⟩ (.int .i64 st')).heap[k]? = W.heap[k]? := fun v hv k hk => Below.heap_setCell _ _ _ _ (fun e => (a2 v hv).1 (by rw [hk, e]))
  exact ⟨h.blk.set 0 _, own_same h.st (key vs (by simp)), own_same h.ar (key va (by simp)), own_same h.en (key ve (by simp)), own_same h.ps (key vp (by simp)), (Below.heap_setCell _ _ _ _ (Ne.symm a1)).trans h.mp, h.ne, h.nd, h.cr, h.lof, h.lor⟩
end
/-- What end leaves. -/
def EndPost (w0 : World) (bf br : Nat) (M ev : Int) (vs va vp : Value) (S : List Int) (A : List Arr) (E : List Int) (P : List (Int × Int)) (e : Ending) (W' : World) : Prop :=
  e = .returned (.tuple #[]) ∧ ∃ ve', FD w0.heap.size W' bf br M ev vs va ve' vp S A E P ∧ Below w0.heap.size w0 W'

set_option maxHeartbeats 8000000 in
set_option maxRecDepth 100000 in
theorem end_any (w0 W : World) (bf br : Nat) (ev : Int) (vs va vp : Value) (S : List Int) (A : List Arr) (P : List (Int × Int)) (a b : Mach) (ea eb : Option Addr) (ca cb : Nat) (M : Int)
    (hF : Hid (FD w0.heap.size W bf br P.length ev vs va (.slice none 0 0) vp S A [] P)) (hB : Hid (Below w0.heap.size w0 W)) (hA : Hid (At w0 ea a.ends)) (hb : Hid (At w0 eb b.ends)) (lA : Hid (a.ends.length ≤ maxLen)) (lB : Hid (b.ends.length ≤ maxLen)) (hP : P.length ≤ 256) (hM : (if (P.length : Int) < 1 then (1 : Int) else (P.length : Int)) = M) :
    Calls Tryd.prog 34 #[.pointer (some ⟨bf, 0, none⟩), .slice ea a.ends.length ca, .slice eb b.ends.length cb] W fun e W' => EndPost w0 bf br M ev vs va vp S A (endsP a b P P.length) P e W' := by
  obtain ⟨j0, ji, jz0, jz1, jz2⟩ := info_parts Tryd.infoInt
  obtain ⟨pa, pc, hvp, hpc1, hpc2, hpc3⟩ := own_form2 hF.out.ps
  have c5 := hF.out.cells.2.2.2.2.2.1
  have lb := hF.out.blk.lt
  rw [hvp] at c5
  have HVP := Hid.of hvp
  clear hvp
  go_enter Tryd.func34, Tryd.ntmps34
  go_wp2_with fail
  clear c5 lb
  go_loopw [13] (fun i wr => ∃ (n : Nat) (ve' : Value), n ≤ P.length ∧ i = .int .i64 n ∧ Hid (FD w0.heap.size wr bf br P.length ev vs va ve' vp S A (endsP a b P n) P) ∧ Hid (Below w0.heap.size w0 wr)) (fun i _ => P.length - (intOf i).toNat)
  case atStart => exact ⟨0, _, Nat.zero_le _, rfl, hF, hB⟩
  case round =>
    clear hF hB
    obtain ⟨n, ve1, hn, rfl, HF, HB⟩ := hrel
    by_cases hlt : n < P.length
    · obtain ⟨p, hp⟩ : ∃ p, Hid (P[n]? = some p) := ⟨_, List.getElem?_eq_getElem hlt⟩
      have HE := Hid.of (endsP_succ (a := a) (b := b) hp)
      obtain ⟨g, cap, hvp, hg1, hg2, p0, p1⟩ := HF.out.ps.cell hp.out
      have hva := HVP.out.symm.trans hvp
      simp only [Value.slice.injEq] at hva
      obtain ⟨rfl, -, rfl⟩ := hva
      clear hvp
      have HFA := Hid.of (HF.out.alloc (.cells #[.int .i64 p.1, .int .i64 p.2] 99))
      have HBA := Hid.of (HB.out.alloc HB.out.size (.cells #[.int .i64 p.1, .int .i64 p.2] 99))
      have KA := Hid.of (Blk.new wr 99 #[.int .i64 p.1, .int .i64 p.2])
      have HA1 : Hid (∀ V : World, Below w0.heap.size w0 V → Calls Tryd.prog 64 #[.slice ea a.ends.length ca, .int .i64 p.1] V fun e w' => e = .returned (.bool (hasB a.ends p.1)) ∧ w' = V) := fun V hV => rowHas_any ea ca a.ends p.1 V (hA.out.below hV (Nat.le_refl _)) lA.out
      have HB1 : Hid (∀ V : World, Below w0.heap.size w0 V → Calls Tryd.prog 64 #[.slice eb b.ends.length cb, .int .i64 p.2] V fun e w' => e = .returned (.bool (hasB b.ends p.2)) ∧ w' = V) := fun V hV => rowHas_any eb cb b.ends p.2 V (hb.out.below hV (Nat.le_refl _)) lB.out
      go_wp2_with fail
      refine (HA1.out _ HBA.out).mono ?_
      rintro e w1 ⟨rfl, rfl⟩
      clear p0 p1
      revert HFA HBA KA
      generalize wr.alloc (.cells #[.int .i64 p.1, .int .i64 p.2] 99) = V
      intro HFA HBA KA
      have k1 := KA.out.cell 1 rfl
      have lk := KA.out.lt
      cases h1 : hasB a.ends p.1 with
      | false =>
        rw [h1] at HE
        go_wp2_with fail
        go_roundw
        case rel => exact ⟨n + 1, ve1, by omega, by go_num, by show FD _ _ _ _ _ _ _ _ _ _ _ _ _ _; rw [HE.out]; exact HFA.out, HBA⟩
        case measure => simp [intOf]; omega
      | true =>
        rw [h1] at HE
        go_wp2_with fail
        refine (HB1.out _ HBA.out).mono ?_
        rintro e w1 ⟨rfl, rfl⟩
        cases h2 : hasB b.ends p.2 with
        | false =>
          rw [h2] at HE
          go_wp2_with fail
          go_roundw
          case rel => exact ⟨n + 1, ve1, by omega, by go_num, by show FD _ _ _ _ _ _ _ _ _ _ _ _ _ _; rw [HE.out]; exact HFA.out, HBA⟩
          case measure => simp [intOf]; omega
        | true =>
          rw [h2] at HE
          obtain ⟨qa, qc, hve, -, -, -⟩ := own_form2 HFA.out.en
          subst hve
          have c4 := HFA.out.cells.2.2.2.2.1
          have hel : (endsP a b P n).length ≤ 256 := Nat.le_trans (endsP_len a b P n) (by omega)
          have lbf := HFA.out.blk.lt
          clear k1
          go_wp2_with (at_builtin; refine wpList_append_block _ rfl (.tmp 33) (.tmp 35) 22 rfl w0.heap.size 3 j0 (.int .i64 0) 1 8 Tryd.underlying22 ji jz0 jz1 jz2 rfl (by decide) _ _ _ rfl (World.ownsRow.alloc HFA.out.en _) ⟨w1.heap.size, 0, none⟩ 1 1 [.int .i64 (n : Int)] rfl rfl (cell_one_new _ _ _) (by intro u hu; simp at hu; subst hu; rfl) (by decide) (by unfold maxLen; omega) (by omega) (by have := HBA.out.size; simp; omega) ?_)
          intro v9 w9 o9 g9 n9
          obtain ⟨ga, gc, hv9, -, -, -⟩ := own_form2 o9
          subst hv9
          obtain ⟨e1, e2, e3⟩ := HFA.out.pushE ((Below.refl _ _).alloc (Nat.le_refl _) _) o9 g9 (by rw [World.size_alloc]; exact n9)
          have E2 := Hid.of e2
          have B2 := Hid.of (HBA.out.trans (e3.below (fun j hj => (HFA.out.lt j hj).1) HBA.out.size))
          have z4 := e1.cell 4 rfl
          have zf := e1.frozen
          clear e2 e3 o9 g9 n9
          go_wp2_with fail
          go_roundw
          case rel => exact ⟨n + 1, _, by omega, by go_num, by show FD _ _ _ _ _ _ _ _ _ _ _ _ _ _; rw [HE.out]; exact E2.out, B2⟩
          case measure => simp [intOf]; omega
    · have hnn : n = P.length := by omega
      subst hnn
      have c0 := HF.out.cells.1
      have cf := HF.out.blk.frozen
      have lbf := HF.out.blk.lt
      have HFS := Hid.of (HF.out.setSt M)
      have HBS := Hid.of (HB.out.setCell (p := ⟨bf, 0, none⟩) HF.out.lof (.int .i64 M))
      have HMX : Hid (max (P.length : Int) 1 = M) := by show _ = _; rw [← hM]; split <;> omega
      go_wp2_with fail
      rw [HMX.out]
      go_end0
      exact ⟨rfl, ve1, HFS.out, HBS.out⟩

set_option maxHeartbeats 8000000 in
set_option maxRecDepth 100000 in
theorem list_any (B : Nat) (W : World) (bf br : Nat) (st ev : Int) (vs va ve vp : Value) (S : List Int) (A : List Arr) (E : List Int) (P : List (Int × Int)) (hF : Hid (FD B W bf br st ev vs va ve vp S A E P)) (hP : P.length ≤ 256) :
    Calls Tryd.prog 35 #[.pointer (some ⟨bf, 0, none⟩)] W fun e W' => ∃ v, e = .returned v ∧ Own2 W' W.heap.size v (prs P) ∧ Below W.heap.size W W' := by
  obtain ⟨i1, hi, hz0, hz1, hz2⟩ := info_parts Tryd.infoInts
  obtain ⟨pa, pc, hvp, hpc1, hpc2, hpc3⟩ := own_form2 hF.out.ps
  have c5 := hF.out.cells.2.2.2.2.2.1
  have lb := hF.out.blk.lt
  rw [hvp] at c5
  have HVP := Hid.of hvp
  clear hvp
  go_enter Tryd.func35, Tryd.ntmps35
  go_wp2_with fail
  clear c5 lb
  go_loopw [3, 11] (fun v i wr => ∃ (n : Nat), n ≤ P.length ∧ i = .int .i64 n ∧ Hid (Own2 wr W.heap.size v (prs (P.take n))) ∧ Hid (Below W.heap.size W wr)) (fun _ i _ => P.length - (intOf i).toNat)
  case atStart => exact ⟨0, Nat.zero_le _, rfl, own2_nil _ _, Below.refl _ _⟩
  case round =>
    obtain ⟨n, hn, rfl, HO, HB⟩ := hrel
    by_cases hlt : n < P.length
    · obtain ⟨p, hp⟩ : ∃ p, Hid (P[n]? = some p) := ⟨_, List.getElem?_eq_getElem hlt⟩
      have HN : Hid (prs (P.take (n + 1)) = prs (P.take n) ++ [[p.1, p.2]]) := by
        show _ = _
        rw [List.take_add_one, hp.out]
        exact prs_snoc _ _
      obtain ⟨g, cap, hvp, hg1, hg2, p0, p1⟩ := (hF.out.below HB.out).ps.cell hp.out
      have hva := HVP.out.symm.trans hvp
      simp only [Value.slice.injEq] at hva
      obtain ⟨rfl, -, rfl⟩ := hva
      clear hvp
      obtain ⟨vs1, ho, hin⟩ := HO.out
      have hpl : (prs (P.take n)).length ≤ 256 := by rw [prs_len, List.length_take]; omega
      have HO1 := Hid.of ho
      have HI1 := Hid.of hin
      clear ho hin
      have hbsz := HB.out.size
      go_wp2_with (at_builtin; refine wpList_append_block _ rfl (.tmp 15) (.tmp 21) 33 rfl W.heap.size 22 i1 (.slice none 0 0) 1 24 Tryd.underlying33 hi hz0 hz1 hz2 rfl (by decide) _ _ vs1 rfl (World.ownsRow.alloc (World.ownsRow.alloc (World.ownsRow.alloc HO1.out (.cells #[.int .i64 p.1, .int .i64 p.2] 99)) (.cells #[.int .i64 p.1, .int .i64 p.2] 3)) (.cells #[.slice (some ⟨wr.heap.size + 1, 0, none⟩) 2 2] 22)) ⟨wr.heap.size + 1 + 1, 0, none⟩ 1 1 [.slice (some ⟨wr.heap.size + 1, 0, none⟩) 2 2] rfl rfl ?c1 (by intro u hu; simp at hu; subst hu; rfl) (by decide) (by unfold maxLen; omega) (by omega) (by simp; omega) ?_)
      case c1 =>
        have := cell_one_new ((wr.alloc (.cells #[.int .i64 p.1, .int .i64 p.2] 99)).alloc (.cells #[.int .i64 p.1, .int .i64 p.2] 3)) (.slice (some ⟨wr.heap.size + 1, 0, none⟩) 2 2) 22
        rw [World.size_alloc, World.size_alloc] at this
        exact this
      intro v9 w9 o9 g9 n9
      have hlay : Below wr.heap.size wr (((wr.alloc (.cells #[.int .i64 p.1, .int .i64 p.2] 99)).alloc (.cells #[.int .i64 p.1, .int .i64 p.2] 3)).alloc (.cells #[.slice (some ⟨wr.heap.size + 1, 0, none⟩) 2 2] 22)) := (((Below.refl _ _).alloc (Nat.le_refl _) _).alloc (by simp) _).alloc (by simp; omega) _
      have hx : InnB (((wr.alloc (.cells #[.int .i64 p.1, .int .i64 p.2] 99)).alloc (.cells #[.int .i64 p.1, .int .i64 p.2] 3)).alloc (.cells #[.slice (some ⟨wr.heap.size + 1, 0, none⟩) 2 2] 22)) (.slice (some ⟨wr.heap.size + 1, 0, none⟩) 2 2) [p.1, p.2] := by
        have := innB_new (wr.alloc (.cells #[.int .i64 p.1, .int .i64 p.2] 99)) p.1 p.2
        rw [World.size_alloc] at this
        exact this.below ((Below.refl _ _).alloc (Nat.le_refl _) _)
      have hr : ∀ k, u3.ownBlock = some k → W.heap.size ≤ k := fun k hk => (HO1.out.lt k hk).1
      have HO2 : Hid (Own2 w9 W.heap.size v9 (prs (P.take (n + 1)))) := by
        show Own2 _ _ _ _
        rw [HN.out]
        exact Own2.snoc (World.ownsRow.alloc (World.ownsRow.alloc (World.ownsRow.alloc HO1.out _) _) _) (fun j x xs h1 h2 => (HI1.out j x xs h1 h2).below hlay) hx o9 g9
      have HB2 : Hid (Below W.heap.size W w9) := (HB.out.trans (hlay.mono HB.out.size)).grown g9 (Nat.le_trans HB.out.size hlay.size) hr
      clear hlay hx hr o9 g9 n9 p0 p1
      go_wp2_with fail
      go_roundw
      case rel => exact ⟨n + 1, by omega, by go_num, HO2, HB2⟩
      case measure => simp [intOf]; omega
    · have hnn : n = P.length := by omega
      subst hnn
      rw [List.take_of_length_le (Nat.le_refl _)] at HO
      go_wp2_with fail
      go_ret
      exact ⟨_, rfl, HO.out, HB.out⟩

end Go.Proofs.YtialjbdfkhfcoabDoor
namespace Go.Proofs.YtialjbdfkhfcoabDoor
open Go.RowKit
set_option linter.unusedVariables false

/-- An arrow's cells. -/
abbrev acells (a : Arr) : Array Value := #[.int .i64 a.f, .int .i64 a.e, .int .i64 a.t]

set_option maxRecDepth 100000 in
set_option maxHeartbeats 4000000 in
theorem compare_any (a b : Arr) (w : World) :
    Calls Tryd.prog 55 #[.agg (acells a), .agg (acells b)] w fun e w' => e = .returned (.int .i64 (cmpA a b)) ∧ Below w.heap.size w w' := by
  have k1 : Blk ((w.alloc (.cells (acells a) 81)).alloc (.cells (acells b) 81)) w.heap.size 81 (acells a) := (Blk.new w _ _).alloc _
  have k2 : Blk ((w.alloc (.cells (acells a) 81)).alloc (.cells (acells b) 81)) (w.heap.size + 1) 81 (acells b) := by
    have := Blk.new (w.alloc (.cells (acells a) 81)) 81 (acells b)
    rwa [World.size_alloc] at this
  have hB : Below w.heap.size w ((w.alloc (.cells (acells a) 81)).alloc (.cells (acells b) 81)) := ((Below.refl _ _).alloc (Nat.le_refl _) _).alloc (by simp) _
  have hsz : ((w.alloc (.cells (acells a) 81)).alloc (.cells (acells b) 81)).heap.size = w.heap.size + 2 := by simp
  have K1 := Hid.of k1
  have K2 := Hid.of k2
  have HB := Hid.of hB
  have HS := Hid.of hsz
  clear k1 k2 hB hsz
  go_enter Tryd.func55, Tryd.ntmps55
  go_wp2
  revert K1 K2 HB HS
  generalize (w.alloc (.cells (acells a) 81)).alloc (.cells (acells b) 81) = V
  intro K1 K2 HB HS
  have a0 : V.cell? ⟨w.heap.size, 0, none⟩ = some (.int .i64 a.f) := K1.out.cell 0 rfl
  have a1 : V.cell? ⟨w.heap.size, 1, none⟩ = some (.int .i64 a.e) := K1.out.cell 1 rfl
  have a2 : V.cell? ⟨w.heap.size, 2, none⟩ = some (.int .i64 a.t) := K1.out.cell 2 rfl
  have b0 : V.cell? ⟨w.heap.size + 1, 0, none⟩ = some (.int .i64 b.f) := K2.out.cell 0 rfl
  have b1 : V.cell? ⟨w.heap.size + 1, 1, none⟩ = some (.int .i64 b.e) := K2.out.cell 1 rfl
  have b2 : V.cell? ⟨w.heap.size + 1, 2, none⟩ = some (.int .i64 b.t) := K2.out.cell 2 rfl
  have hs := HS.out
  have hn1 : w.heap.size < V.heap.size := by omega
  have hn2 : w.heap.size + 1 < V.heap.size := by omega
  have n1 := World.new_ne V _ a0
  have n2 := World.new_ne V _ b0
  go_region_held3 (fun w' => w'.cell? ⟨w.heap.size, 0, none⟩ = some (.int .i64 a.f) ∧ w'.cell? ⟨w.heap.size, 1, none⟩ = some (.int .i64 a.e) ∧ w'.cell? ⟨w.heap.size, 2, none⟩ = some (.int .i64 a.t) ∧ w'.cell? ⟨w.heap.size + 1, 0, none⟩ = some (.int .i64 b.f) ∧ w'.cell? ⟨w.heap.size + 1, 1, none⟩ = some (.int .i64 b.e) ∧ w'.cell? ⟨w.heap.size + 1, 2, none⟩ = some (.int .i64 b.t)) (go_keep) (first | (go_at_call 80; refine (cmp_any _ _ _).mono ?_; rintro e w1 ⟨rfl, rfl⟩) | (go_at_call 79; refine (or_any (cmpI a.f b.f) (cmpI a.e b.e) (cmpI a.t b.t) _ _ (by go_simp) (by go_simp) (by go_simp)).mono ?_; rintro e w1 ⟨rfl, rfl⟩))
  go_wp2
  go_ret
  exact ⟨rfl, (HB.out.alloc HB.out.size _).drew⟩

end Go.Proofs.YtialjbdfkhfcoabDoor
