/-
  The walk of jalousieref16.form.
  jalousieref16.form, of every row of tokens.
  The walk of the law TextParses, the contracts of both Parses as hypotheses.
  How jalousieref16.Parse ends: what is stored into its results.
-/
import Derived.Test.YtbgiliophmofgaaH06
import Derived.Test.YtbgiliophmofgaaH05
import Derived.Test.YtbgiliophmofgaaH02
import Derived.Test.YtbgiliophmofgaaH07
namespace Go.Proofs.Ytbgiliophmofgaa
open Go.RowKit
set_option linter.unusedVariables false
set_option linter.unusedSimpArgs false

def kindI (t : Tok) : Int := if t.word = true then 1 else 3
def CellsT (w : World) (b o : Nat) (l : List Tok) : Prop := ∀ k t, l[k]? = some t → w.cell? ⟨b, o + k * 3, none⟩ = some (.int .i64 (kindI t)) ∧ w.cell? ⟨b, o + k * 3 + 1, none⟩ = some (strV t.text) ∧ w.cell? ⟨b, o + k * 3 + 2, none⟩ = some (.int .i64 (t.pos : Int))
set_option maxRecDepth 100000 in
set_option maxHeartbeats 8000000 in
theorem form_some (b o c : Nat) (l : List Tok) (w : World) (hl : l.length ≤ 4000) (hb : b < w.heap.size) (hc : CellsT w b o l) (R : List Int × Fm) (HR : Hid (fmGo ⟨0, 0, 1⟩ (l.map kt) = R)) :
    Calls Try.prog 23 #[.slice (some ⟨b, o, none⟩) l.length c] w fun e w' => ∃ v, e = .returned (.tuple #[v, .int .i64 (R.1.length : Int), .bool (decide (R.1.length = l.length ∧ R.2.part = 9))]) ∧ Own w' w.heap.size v R.1 ∧ Below w.heap.size w w' := by
  obtain ⟨j0, ji, jz0, jz1, jz2⟩ := info_parts Try.infoInt
  go_enter Try.func23, Try.ntmps23
  go_wp2_with fail
  refine (parts_any _).mono ?_
  rintro e w1 ⟨rfl, rfl⟩
  have HV : Hid ((w.alloc (.cells (partsW.map strV).toArray 9)).heap.size = w.heap.size + 1) := World.size_alloc _ _
  have HB0 : Hid (Below w.heap.size w (w.alloc (.cells (partsW.map strV).toArray 9))) := (Below.refl _ _).alloc (Nat.le_refl _) _
  have HP : Hid (∀ k, k < 9 → (w.alloc (.cells (partsW.map strV).toArray 9)).cell? ⟨w.heap.size, k, none⟩ = some (strV (partsW[k]?.getD []))) := fun k hk => by
    have h1 := (Blk.new w 9 (partsW.map strV).toArray).cell k (v := strV (partsW[k]?.getD [])) (by
      have : k < partsW.length := hk
      simp [List.getElem?_eq_getElem this])
    exact h1
  revert HV HB0 HP
  generalize w.alloc (.cells (partsW.map strV).toArray 9) = V
  intro HV HB0 HP
  go_wp2_with fail
  go_loopw [5, 7, 8, 9, 10] (fun v a n x i wr => ∃ (p part names next : Nat) (os : List Int), i = .int .i64 (p : Int) ∧ p ≤ l.length ∧ a = .int .i64 (part : Int) ∧ part ≤ p ∧ n = .int .i64 (names : Int) ∧ names ≤ p ∧ x = .int .i64 (next : Int) ∧ Hid (next = 1 ∨ next = 2 ∨ next = 6 ∨ next = 12) ∧ os.length = p ∧ Hid (R = (os ++ (fmGo ⟨part, names, next⟩ ((l.drop p).map kt)).1, (fmGo ⟨part, names, next⟩ ((l.drop p).map kt)).2)) ∧ Hid (Own wr (w.heap.size + 1) v os) ∧ Hid (Below (w.heap.size + 1) V wr)) (fun _ _ _ _ i _ => l.length - (intOf i).toNat)
  case atStart => exact ⟨0, 0, 0, 1, [], rfl, Nat.zero_le _, rfl, Nat.le_refl _, rfl, Nat.le_refl _, rfl, Or.inl rfl, rfl, (by show _ = _; rw [← HR.out]; rfl), own_nil _ _, Below.refl _ _⟩
  case round =>
    obtain ⟨p, part, names, next, os, rfl, hp, rfl, hpa, rfl, hna, rfl, HNX, hos, HI, HO, HB⟩ := hrel
    obtain ⟨va, vc, hv, -, -, -⟩ := own_form2 HO.out
    subst hv
    rw [hos]
    by_cases hlt : p < l.length
    · obtain ⟨t, HT⟩ : ∃ t, Hid (l[p]? = some t) := ⟨_, List.getElem?_eq_getElem hlt⟩
      obtain ⟨k0, k1, k2⟩ := hc p t HT.out
      have hbV : Hid (∀ j, wr.cell? ⟨b, j, none⟩ = w.cell? ⟨b, j, none⟩) := fun j => (HB.out.cell (p := ⟨b, j, none⟩) (by show b < _; omega)).trans (HB0.out.cell (p := ⟨b, j, none⟩) hb)
      have c0 := (hbV.out _).trans k0
      have c1 := (hbV.out _).trans k1
      have c2 := (hbV.out _).trans k2
      obtain ⟨kd, HKD⟩ : ∃ kd, Hid (kindI t = kd) := ⟨_, rfl⟩
      rw [HKD.out] at c0
      obtain ⟨s, HS⟩ : ∃ s, Hid (t.text = s) := ⟨_, rfl⟩
      rw [HS.out] at c1
      clear k0 k1 k2
      go_wp2_with fail
      have y0 : (wr.alloc (.cells #[.int .i64 kd, strV s, .int .i64 (t.pos : Int)] 56)).cell? ⟨wr.heap.size, 0, none⟩ = some (.int .i64 kd) := (Blk.new wr 56 _).cell 0 rfl
      have y1 : (wr.alloc (.cells #[.int .i64 kd, strV s, .int .i64 (t.pos : Int)] 56)).cell? ⟨wr.heap.size, 1, none⟩ = some (strV s) := (Blk.new wr 56 _).cell 1 rfl
      have hwB : w.heap.size + 1 ≤ wr.heap.size := by have := HB.out.size; have := HV.out; omega
      have HBU : Hid (Below (w.heap.size + 1) V (wr.alloc (.cells #[.int .i64 kd, strV s, .int .i64 (t.pos : Int)] 56))) := HB.out.alloc hwB _
      have HOU : Hid (Own (wr.alloc (.cells #[.int .i64 kd, strV s, .int .i64 (t.pos : Int)] 56)) (w.heap.size + 1) (.slice va p vc) os) := by
        have := HO.out
        rw [hos] at this
        exact World.ownsRow.alloc this _
      have HSZ : Hid (w.heap.size + 1 ≤ (wr.alloc (.cells #[.int .i64 kd, strV s, .int .i64 (t.pos : Int)] 56)).heap.size) := by show _ ≤ _; rw [World.size_alloc]; omega
      revert y0 y1 HBU HOU HSZ
      generalize wr.alloc (.cells #[.int .i64 kd, strV s, .int .i64 (t.pos : Int)] 56) = U
      intro y0 y1 HBU HOU HSZ
      clear HO HB c0 c1 c2
      have HDR : Hid ((l.drop p).map kt = kt t :: (l.drop (p + 1)).map kt) := by
        show _ = _
        have e := (List.getElem?_eq_some_iff.1 HT.out).2
        rw [List.drop_eq_getElem_cons hlt, e]; rfl
      rw [HDR.out] at HI
      have HKT : Hid (kt t = (t.word, s)) := by show _ = _; rw [← HS.out]; rfl
      rw [HKT.out] at HI
      obtain ⟨bw, HBW⟩ : ∃ bw, Hid (t.word = bw) := ⟨_, rfl⟩
      rw [HBW.out] at HI
      have hkd : kd = if bw = true then 1 else 3 := by rw [← HKD.out, ← HBW.out]; rfl
      subst hkd
      clear HKT HDR HT HKD hbV
      rcases HNX.out with h | h | h | h
      · subst h
        by_cases h9 : part < 9
        · have d9 : decide ((part : Int) < 9) = true := by simp; omega
          cases bw with
          | true =>
            obtain ⟨y, HY⟩ : ∃ y, Hid (partsW[part]?.getD [] = y) := ⟨_, rfl⟩
            have cy : U.cell? ⟨w.heap.size, part, none⟩ = some (strV y) := by
              rw [← HY.out]
              exact (HBU.out.cell (p := ⟨w.heap.size, part, none⟩) (Nat.lt_succ_self _)).trans (HP.out part h9)
            by_cases hy : s = y
            · subst hy
              by_cases hp0 : part = 0
              · subst hp0
                have HI2 : Hid (R = ((os ++ [(-1 : Int)]) ++ (fmGo ⟨0, 0, 2⟩ ((l.drop (p + 1)).map kt)).1, (fmGo ⟨0, 0, 2⟩ ((l.drop (p + 1)).map kt)).2)) := by
                  show _ = _
                  have hY := HY.out; rw [HI.out, fmGo]
                  simp [fmStep, fmNext, hY]
                clear HI
                go_wp2_with fail
                go_quiet (fail)
                have HOD : Hid (Own (U.drewN nq) (w.heap.size + 1) (.slice va p vc) os) := own_same HOU.out (fun k _ => rfl)
                have HBD : Hid (Below (w.heap.size + 1) V (U.drewN nq)) := ⟨HBU.out.os, HBU.out.tape, HBU.out.output, HBU.out.size, HBU.out.block⟩
                go_wp2_with (at_builtin; refine wpList_append_block _ rfl (.tmp 102) (.tmp 104) 23 rfl (w.heap.size + 1) 3 j0 (.int .i64 0) 1 8 Try.underlying23 ji jz0 jz1 jz2 rfl (by decide) _ _ _ rfl (World.ownsRow.alloc HOD.out _) ⟨U.heap.size, 0, none⟩ 1 1 [.int .i64 (-1)] rfl rfl (cell_one_new _ _ _) (by intro u hu; simp at hu; subst hu; rfl) (by decide) (by unfold maxLen; omega) (by omega) (by have := HSZ.out; simp; omega) ?_)
                intro v9 W2 o9 g9 n9
                obtain ⟨q1, q2, q3⟩ := own_snoc HOD.out HBD.out HSZ.out (by rw [hos]; exact o9) g9
                have Q1 := Hid.of q1
                have Q2 := Hid.of q2
                have hl2 : (os ++ [(-1 : Int)]).length = p + 1 := by simp [hos]
                obtain ⟨va2, vc2, hv2, -, -, -⟩ := own_form2 Q1.out
                rw [hl2] at hv2
                subst hv2
                clear q1 q2 q3 o9 g9 n9 HOD HBD HOU HBU
                go_wp2_with fail
                go_roundw
                case rel => exact ⟨p + 1, 0, 0, 2, os ++ [(-1 : Int)], by go_num, by omega, rfl, by omega, rfl, by omega, rfl, Or.inr (Or.inl rfl), hl2, HI2, Q1, Q2⟩
                case measure => simp [intOf]; omega
              · have e0 : ((part : Int) == 0) = false := beq_eq_false_iff_ne.2 (by omega)
                have HI2 : Hid (R = ((os ++ [(-1 : Int)]) ++ (fmGo ⟨part, 0, 6⟩ ((l.drop (p + 1)).map kt)).1, (fmGo ⟨part, 0, 6⟩ ((l.drop (p + 1)).map kt)).2)) := by
                  show _ = _
                  have hY := HY.out; rw [HI.out, fmGo]
                  simp [fmStep, fmNext, hY, h9, hp0]
                clear HI
                go_wp2_with fail
                go_quiet (fail)
                have HOD : Hid (Own (U.drewN nq) (w.heap.size + 1) (.slice va p vc) os) := own_same HOU.out (fun k _ => rfl)
                have HBD : Hid (Below (w.heap.size + 1) V (U.drewN nq)) := ⟨HBU.out.os, HBU.out.tape, HBU.out.output, HBU.out.size, HBU.out.block⟩
                go_wp2_with (at_builtin; refine wpList_append_block _ rfl (.tmp 102) (.tmp 104) 23 rfl (w.heap.size + 1) 3 j0 (.int .i64 0) 1 8 Try.underlying23 ji jz0 jz1 jz2 rfl (by decide) _ _ _ rfl (World.ownsRow.alloc HOD.out _) ⟨U.heap.size, 0, none⟩ 1 1 [.int .i64 (-1)] rfl rfl (cell_one_new _ _ _) (by intro u hu; simp at hu; subst hu; rfl) (by decide) (by unfold maxLen; omega) (by omega) (by have := HSZ.out; simp; omega) ?_)
                intro v9 W2 o9 g9 n9
                obtain ⟨q1, q2, q3⟩ := own_snoc HOD.out HBD.out HSZ.out (by rw [hos]; exact o9) g9
                have Q1 := Hid.of q1
                have Q2 := Hid.of q2
                have hl2 : (os ++ [(-1 : Int)]).length = p + 1 := by simp [hos]
                obtain ⟨va2, vc2, hv2, -, -, -⟩ := own_form2 Q1.out
                rw [hl2] at hv2
                subst hv2
                clear q1 q2 q3 o9 g9 n9 HOD HBD HOU HBU
                go_wp2_with fail
                go_roundw
                case rel => exact ⟨p + 1, part, 0, 6, os ++ [(-1 : Int)], by go_num, by omega, rfl, by omega, rfl, by omega, rfl, Or.inr (Or.inr (Or.inl rfl)), hl2, HI2, Q1, Q2⟩
                case measure => simp [intOf]; omega
            · have hyd : decide (s = y) = false := decide_eq_false hy
              have hyb : (s == y) = false := beq_eq_false_iff_ne.2 hy
              have HN : Hid (R = (os, ⟨part, names, 1⟩)) := by
                show _ = _
                have hY := HY.out; rw [HI.out, fmGo]
                simp [fmStep, hY, hy]
              clear HI
              go_wp2_with fail
              go_quiet (fail)
              have HOD : Hid (Own (U.drewN nq) w.heap.size (.slice va p vc) os) := own_low16 (own_same HOU.out (fun k _ => rfl)) (Nat.le_succ _)
              have HBD : Hid (Below w.heap.size w (U.drewN nq)) := HB0.out.trans ((show Below (w.heap.size + 1) V (U.drewN nq) from ⟨HBU.out.os, HBU.out.tape, HBU.out.output, HBU.out.size, HBU.out.block⟩).mono (Nat.le_succ _))
              go_wp2_with fail
              have hn0 : ¬ p = l.length := by omega
              refine bodyPost_ret (v := .tuple #[.slice va p vc, .int .i64 (p : Int), .bool false]) (by simp [results, go_sem]) rfl ⟨.slice va p vc, ?_, ?_, HBD.out⟩
              · rw [HN.out]; simp [hos, hn0]
              · rw [HN.out]; exact HOD.out
          | false =>
            have HN : Hid (R = (os, ⟨part, names, 1⟩)) := by
              show _ = _
              rw [HI.out, fmGo]
              simp [fmStep, True]
            clear HI
            go_wp2_with fail
            go_quiet (fail)
            have HOD : Hid (Own (U.drewN nq) w.heap.size (.slice va p vc) os) := own_low16 (own_same HOU.out (fun k _ => rfl)) (Nat.le_succ _)
            have HBD : Hid (Below w.heap.size w (U.drewN nq)) := HB0.out.trans ((show Below (w.heap.size + 1) V (U.drewN nq) from ⟨HBU.out.os, HBU.out.tape, HBU.out.output, HBU.out.size, HBU.out.block⟩).mono (Nat.le_succ _))
            go_wp2_with fail
            have hn0 : ¬ p = l.length := by omega
            refine bodyPost_ret (v := .tuple #[.slice va p vc, .int .i64 (p : Int), .bool false]) (by simp [results, go_sem]) rfl ⟨.slice va p vc, ?_, ?_, HBD.out⟩
            · rw [HN.out]; simp [hos, hn0]
            · rw [HN.out]; exact HOD.out
        · have d9 : decide ((part : Int) < 9) = false := by simp; omega
          cases bw with
          | true =>
            have HN : Hid (R = (os, ⟨part, names, 1⟩)) := by
              show _ = _
              rw [HI.out, fmGo]
              simp [fmStep, h9]
            clear HI
            go_wp2_with fail
            go_quiet (fail)
            have HOD : Hid (Own (U.drewN nq) w.heap.size (.slice va p vc) os) := own_low16 (own_same HOU.out (fun k _ => rfl)) (Nat.le_succ _)
            have HBD : Hid (Below w.heap.size w (U.drewN nq)) := HB0.out.trans ((show Below (w.heap.size + 1) V (U.drewN nq) from ⟨HBU.out.os, HBU.out.tape, HBU.out.output, HBU.out.size, HBU.out.block⟩).mono (Nat.le_succ _))
            go_wp2_with fail
            have hn0 : ¬ p = l.length := by omega
            refine bodyPost_ret (v := .tuple #[.slice va p vc, .int .i64 (p : Int), .bool false]) (by simp [results, go_sem]) rfl ⟨.slice va p vc, ?_, ?_, HBD.out⟩
            · rw [HN.out]; simp [hos, hn0]
            · rw [HN.out]; exact HOD.out
          | false =>
            have HN : Hid (R = (os, ⟨part, names, 1⟩)) := by
              show _ = _
              rw [HI.out, fmGo]
              simp [fmStep, h9]
            clear HI
            go_wp2_with fail
            go_quiet (fail)
            have HOD : Hid (Own (U.drewN nq) w.heap.size (.slice va p vc) os) := own_low16 (own_same HOU.out (fun k _ => rfl)) (Nat.le_succ _)
            have HBD : Hid (Below w.heap.size w (U.drewN nq)) := HB0.out.trans ((show Below (w.heap.size + 1) V (U.drewN nq) from ⟨HBU.out.os, HBU.out.tape, HBU.out.output, HBU.out.size, HBU.out.block⟩).mono (Nat.le_succ _))
            go_wp2_with fail
            have hn0 : ¬ p = l.length := by omega
            refine bodyPost_ret (v := .tuple #[.slice va p vc, .int .i64 (p : Int), .bool false]) (by simp [results, go_sem]) rfl ⟨.slice va p vc, ?_, ?_, HBD.out⟩
            · rw [HN.out]; simp [hos, hn0]
            · rw [HN.out]; exact HOD.out
      · subst h
        cases bw with
        | true =>
          by_cases hp8 : part = 8
          · subst hp8
            by_cases hm : 0 < (names + 1) % 3
            · have em : decide ((0 : Int) < ((names : Int) + 1).tmod 3) = true := by
                rw [show ((names : Int) + 1).tmod 3 = (((names + 1) % 3 : Nat) : Int) by rw [Int.tmod_eq_emod_of_nonneg (by omega)]; omega]; simp; omega
              have HI2 : Hid (R = ((os ++ [(8 : Int)]) ++ (fmGo ⟨8, names + 1, 2⟩ ((l.drop (p + 1)).map kt)).1, (fmGo ⟨8, names + 1, 2⟩ ((l.drop (p + 1)).map kt)).2)) := by
                show _ = _
                rw [HI.out, fmGo]
                simp [fmStep, fmNext, hm]
              clear HI
              go_wp2_with fail
              go_quiet (fail)
              have HOD : Hid (Own (U.drewN nq) (w.heap.size + 1) (.slice va p vc) os) := own_same HOU.out (fun k _ => rfl)
              have HBD : Hid (Below (w.heap.size + 1) V (U.drewN nq)) := ⟨HBU.out.os, HBU.out.tape, HBU.out.output, HBU.out.size, HBU.out.block⟩
              go_wp2_with (at_builtin; refine wpList_append_block _ rfl (.tmp 102) (.tmp 104) 23 rfl (w.heap.size + 1) 3 j0 (.int .i64 0) 1 8 Try.underlying23 ji jz0 jz1 jz2 rfl (by decide) _ _ _ rfl (World.ownsRow.alloc HOD.out _) ⟨U.heap.size, 0, none⟩ 1 1 [.int .i64 (8)] rfl rfl (cell_one_new _ _ _) (by intro u hu; simp at hu; subst hu; rfl) (by decide) (by unfold maxLen; omega) (by omega) (by have := HSZ.out; simp; omega) ?_)
              intro v9 W2 o9 g9 n9
              obtain ⟨q1, q2, q3⟩ := own_snoc HOD.out HBD.out HSZ.out (by rw [hos]; exact o9) g9
              have Q1 := Hid.of q1
              have Q2 := Hid.of q2
              have hl2 : (os ++ [(8 : Int)]).length = p + 1 := by simp [hos]
              obtain ⟨va2, vc2, hv2, -, -, -⟩ := own_form2 Q1.out
              rw [hl2] at hv2
              subst hv2
              clear q1 q2 q3 o9 g9 n9 HOD HBD HOU HBU
              go_wp2_with fail
              go_roundw
              case rel => exact ⟨p + 1, 8, names + 1, 2, os ++ [(8 : Int)], by go_num, by omega, rfl, by omega, by go_num, by omega, rfl, Or.inr (Or.inl rfl), hl2, HI2, Q1, Q2⟩
              case measure => simp [intOf]; omega
            · have em : decide ((0 : Int) < ((names : Int) + 1).tmod 3) = false := by
                rw [show ((names : Int) + 1).tmod 3 = (((names + 1) % 3 : Nat) : Int) by rw [Int.tmod_eq_emod_of_nonneg (by omega)]; omega]; simp; omega
              have HI2 : Hid (R = ((os ++ [(8 : Int)]) ++ (fmGo ⟨8, names + 1, 12⟩ ((l.drop (p + 1)).map kt)).1, (fmGo ⟨8, names + 1, 12⟩ ((l.drop (p + 1)).map kt)).2)) := by
                show _ = _
                rw [HI.out, fmGo]
                simp [fmStep, fmNext, hm]
              clear HI
              go_wp2_with fail
              go_quiet (fail)
              have HOD : Hid (Own (U.drewN nq) (w.heap.size + 1) (.slice va p vc) os) := own_same HOU.out (fun k _ => rfl)
              have HBD : Hid (Below (w.heap.size + 1) V (U.drewN nq)) := ⟨HBU.out.os, HBU.out.tape, HBU.out.output, HBU.out.size, HBU.out.block⟩
              go_wp2_with (at_builtin; refine wpList_append_block _ rfl (.tmp 102) (.tmp 104) 23 rfl (w.heap.size + 1) 3 j0 (.int .i64 0) 1 8 Try.underlying23 ji jz0 jz1 jz2 rfl (by decide) _ _ _ rfl (World.ownsRow.alloc HOD.out _) ⟨U.heap.size, 0, none⟩ 1 1 [.int .i64 (8)] rfl rfl (cell_one_new _ _ _) (by intro u hu; simp at hu; subst hu; rfl) (by decide) (by unfold maxLen; omega) (by omega) (by have := HSZ.out; simp; omega) ?_)
              intro v9 W2 o9 g9 n9
              obtain ⟨q1, q2, q3⟩ := own_snoc HOD.out HBD.out HSZ.out (by rw [hos]; exact o9) g9
              have Q1 := Hid.of q1
              have Q2 := Hid.of q2
              have hl2 : (os ++ [(8 : Int)]).length = p + 1 := by simp [hos]
              obtain ⟨va2, vc2, hv2, -, -, -⟩ := own_form2 Q1.out
              rw [hl2] at hv2
              subst hv2
              clear q1 q2 q3 o9 g9 n9 HOD HBD HOU HBU
              go_wp2_with fail
              go_roundw
              case rel => exact ⟨p + 1, 8, names + 1, 12, os ++ [(8 : Int)], by go_num, by omega, rfl, by omega, by go_num, by omega, rfl, Or.inr (Or.inr (Or.inr rfl)), hl2, HI2, Q1, Q2⟩
              case measure => simp [intOf]; omega
          · have e8 : ((part : Int) == 8) = false := beq_eq_false_iff_ne.2 (by omega)
            have HI2 : Hid (R = ((os ++ [((part : Int) : Int)]) ++ (fmGo ⟨part, names + 1, 6⟩ ((l.drop (p + 1)).map kt)).1, (fmGo ⟨part, names + 1, 6⟩ ((l.drop (p + 1)).map kt)).2)) := by
              show _ = _
              rw [HI.out, fmGo]
              simp [fmStep, fmNext, hp8]
            clear HI
            go_wp2_with fail
            go_quiet (fail)
            have HOD : Hid (Own (U.drewN nq) (w.heap.size + 1) (.slice va p vc) os) := own_same HOU.out (fun k _ => rfl)
            have HBD : Hid (Below (w.heap.size + 1) V (U.drewN nq)) := ⟨HBU.out.os, HBU.out.tape, HBU.out.output, HBU.out.size, HBU.out.block⟩
            go_wp2_with (at_builtin; refine wpList_append_block _ rfl (.tmp 102) (.tmp 104) 23 rfl (w.heap.size + 1) 3 j0 (.int .i64 0) 1 8 Try.underlying23 ji jz0 jz1 jz2 rfl (by decide) _ _ _ rfl (World.ownsRow.alloc HOD.out _) ⟨U.heap.size, 0, none⟩ 1 1 [.int .i64 ((part : Int))] rfl rfl (cell_one_new _ _ _) (by intro u hu; simp at hu; subst hu; rfl) (by decide) (by unfold maxLen; omega) (by omega) (by have := HSZ.out; simp; omega) ?_)
            intro v9 W2 o9 g9 n9
            obtain ⟨q1, q2, q3⟩ := own_snoc HOD.out HBD.out HSZ.out (by rw [hos]; exact o9) g9
            have Q1 := Hid.of q1
            have Q2 := Hid.of q2
            have hl2 : (os ++ [((part : Int) : Int)]).length = p + 1 := by simp [hos]
            obtain ⟨va2, vc2, hv2, -, -, -⟩ := own_form2 Q1.out
            rw [hl2] at hv2
            subst hv2
            clear q1 q2 q3 o9 g9 n9 HOD HBD HOU HBU
            go_wp2_with fail
            go_roundw
            case rel => exact ⟨p + 1, part, names + 1, 6, os ++ [((part : Int) : Int)], by go_num, by omega, rfl, by omega, by go_num, by omega, rfl, Or.inr (Or.inr (Or.inl rfl)), hl2, HI2, Q1, Q2⟩
            case measure => simp [intOf]; omega
        | false =>
          have HN : Hid (R = (os, ⟨part, names, 2⟩)) := by
            show _ = _
            rw [HI.out, fmGo]
            simp [fmStep, True]
          clear HI
          go_wp2_with fail
          go_quiet (fail)
          have HOD : Hid (Own (U.drewN nq) w.heap.size (.slice va p vc) os) := own_low16 (own_same HOU.out (fun k _ => rfl)) (Nat.le_succ _)
          have HBD : Hid (Below w.heap.size w (U.drewN nq)) := HB0.out.trans ((show Below (w.heap.size + 1) V (U.drewN nq) from ⟨HBU.out.os, HBU.out.tape, HBU.out.output, HBU.out.size, HBU.out.block⟩).mono (Nat.le_succ _))
          go_wp2_with fail
          have hn0 : ¬ p = l.length := by omega
          refine bodyPost_ret (v := .tuple #[.slice va p vc, .int .i64 (p : Int), .bool false]) (by simp [results, go_sem]) rfl ⟨.slice va p vc, ?_, ?_, HBD.out⟩
          · rw [HN.out]; simp [hos, hn0]
          · rw [HN.out]; exact HOD.out
      · subst h
        cases bw with
        | true =>
          by_cases hp8 : part = 8
          · subst hp8
            by_cases hm : 0 < (names + 1) % 3
            · have em : decide ((0 : Int) < ((names : Int) + 1).tmod 3) = true := by
                rw [show ((names : Int) + 1).tmod 3 = (((names + 1) % 3 : Nat) : Int) by rw [Int.tmod_eq_emod_of_nonneg (by omega)]; omega]; simp; omega
              have HI2 : Hid (R = ((os ++ [(8 : Int)]) ++ (fmGo ⟨8, names + 1, 2⟩ ((l.drop (p + 1)).map kt)).1, (fmGo ⟨8, names + 1, 2⟩ ((l.drop (p + 1)).map kt)).2)) := by
                show _ = _
                rw [HI.out, fmGo]
                simp [fmStep, fmNext, hm]
              clear HI
              go_wp2_with fail
              go_quiet (fail)
              have HOD : Hid (Own (U.drewN nq) (w.heap.size + 1) (.slice va p vc) os) := own_same HOU.out (fun k _ => rfl)
              have HBD : Hid (Below (w.heap.size + 1) V (U.drewN nq)) := ⟨HBU.out.os, HBU.out.tape, HBU.out.output, HBU.out.size, HBU.out.block⟩
              go_wp2_with (at_builtin; refine wpList_append_block _ rfl (.tmp 102) (.tmp 104) 23 rfl (w.heap.size + 1) 3 j0 (.int .i64 0) 1 8 Try.underlying23 ji jz0 jz1 jz2 rfl (by decide) _ _ _ rfl (World.ownsRow.alloc HOD.out _) ⟨U.heap.size, 0, none⟩ 1 1 [.int .i64 (8)] rfl rfl (cell_one_new _ _ _) (by intro u hu; simp at hu; subst hu; rfl) (by decide) (by unfold maxLen; omega) (by omega) (by have := HSZ.out; simp; omega) ?_)
              intro v9 W2 o9 g9 n9
              obtain ⟨q1, q2, q3⟩ := own_snoc HOD.out HBD.out HSZ.out (by rw [hos]; exact o9) g9
              have Q1 := Hid.of q1
              have Q2 := Hid.of q2
              have hl2 : (os ++ [(8 : Int)]).length = p + 1 := by simp [hos]
              obtain ⟨va2, vc2, hv2, -, -, -⟩ := own_form2 Q1.out
              rw [hl2] at hv2
              subst hv2
              clear q1 q2 q3 o9 g9 n9 HOD HBD HOU HBU
              go_wp2_with fail
              go_roundw
              case rel => exact ⟨p + 1, 8, names + 1, 2, os ++ [(8 : Int)], by go_num, by omega, rfl, by omega, by go_num, by omega, rfl, Or.inr (Or.inl rfl), hl2, HI2, Q1, Q2⟩
              case measure => simp [intOf]; omega
            · have em : decide ((0 : Int) < ((names : Int) + 1).tmod 3) = false := by
                rw [show ((names : Int) + 1).tmod 3 = (((names + 1) % 3 : Nat) : Int) by rw [Int.tmod_eq_emod_of_nonneg (by omega)]; omega]; simp; omega
              have HI2 : Hid (R = ((os ++ [(8 : Int)]) ++ (fmGo ⟨8, names + 1, 12⟩ ((l.drop (p + 1)).map kt)).1, (fmGo ⟨8, names + 1, 12⟩ ((l.drop (p + 1)).map kt)).2)) := by
                show _ = _
                rw [HI.out, fmGo]
                simp [fmStep, fmNext, hm]
              clear HI
              go_wp2_with fail
              go_quiet (fail)
              have HOD : Hid (Own (U.drewN nq) (w.heap.size + 1) (.slice va p vc) os) := own_same HOU.out (fun k _ => rfl)
              have HBD : Hid (Below (w.heap.size + 1) V (U.drewN nq)) := ⟨HBU.out.os, HBU.out.tape, HBU.out.output, HBU.out.size, HBU.out.block⟩
              go_wp2_with (at_builtin; refine wpList_append_block _ rfl (.tmp 102) (.tmp 104) 23 rfl (w.heap.size + 1) 3 j0 (.int .i64 0) 1 8 Try.underlying23 ji jz0 jz1 jz2 rfl (by decide) _ _ _ rfl (World.ownsRow.alloc HOD.out _) ⟨U.heap.size, 0, none⟩ 1 1 [.int .i64 (8)] rfl rfl (cell_one_new _ _ _) (by intro u hu; simp at hu; subst hu; rfl) (by decide) (by unfold maxLen; omega) (by omega) (by have := HSZ.out; simp; omega) ?_)
              intro v9 W2 o9 g9 n9
              obtain ⟨q1, q2, q3⟩ := own_snoc HOD.out HBD.out HSZ.out (by rw [hos]; exact o9) g9
              have Q1 := Hid.of q1
              have Q2 := Hid.of q2
              have hl2 : (os ++ [(8 : Int)]).length = p + 1 := by simp [hos]
              obtain ⟨va2, vc2, hv2, -, -, -⟩ := own_form2 Q1.out
              rw [hl2] at hv2
              subst hv2
              clear q1 q2 q3 o9 g9 n9 HOD HBD HOU HBU
              go_wp2_with fail
              go_roundw
              case rel => exact ⟨p + 1, 8, names + 1, 12, os ++ [(8 : Int)], by go_num, by omega, rfl, by omega, by go_num, by omega, rfl, Or.inr (Or.inr (Or.inr rfl)), hl2, HI2, Q1, Q2⟩
              case measure => simp [intOf]; omega
          · have e8 : ((part : Int) == 8) = false := beq_eq_false_iff_ne.2 (by omega)
            have HI2 : Hid (R = ((os ++ [((part : Int) : Int)]) ++ (fmGo ⟨part, names + 1, 6⟩ ((l.drop (p + 1)).map kt)).1, (fmGo ⟨part, names + 1, 6⟩ ((l.drop (p + 1)).map kt)).2)) := by
              show _ = _
              rw [HI.out, fmGo]
              simp [fmStep, fmNext, hp8]
            clear HI
            go_wp2_with fail
            go_quiet (fail)
            have HOD : Hid (Own (U.drewN nq) (w.heap.size + 1) (.slice va p vc) os) := own_same HOU.out (fun k _ => rfl)
            have HBD : Hid (Below (w.heap.size + 1) V (U.drewN nq)) := ⟨HBU.out.os, HBU.out.tape, HBU.out.output, HBU.out.size, HBU.out.block⟩
            go_wp2_with (at_builtin; refine wpList_append_block _ rfl (.tmp 102) (.tmp 104) 23 rfl (w.heap.size + 1) 3 j0 (.int .i64 0) 1 8 Try.underlying23 ji jz0 jz1 jz2 rfl (by decide) _ _ _ rfl (World.ownsRow.alloc HOD.out _) ⟨U.heap.size, 0, none⟩ 1 1 [.int .i64 ((part : Int))] rfl rfl (cell_one_new _ _ _) (by intro u hu; simp at hu; subst hu; rfl) (by decide) (by unfold maxLen; omega) (by omega) (by have := HSZ.out; simp; omega) ?_)
            intro v9 W2 o9 g9 n9
            obtain ⟨q1, q2, q3⟩ := own_snoc HOD.out HBD.out HSZ.out (by rw [hos]; exact o9) g9
            have Q1 := Hid.of q1
            have Q2 := Hid.of q2
            have hl2 : (os ++ [((part : Int) : Int)]).length = p + 1 := by simp [hos]
            obtain ⟨va2, vc2, hv2, -, -, -⟩ := own_form2 Q1.out
            rw [hl2] at hv2
            subst hv2
            clear q1 q2 q3 o9 g9 n9 HOD HBD HOU HBU
            go_wp2_with fail
            go_roundw
            case rel => exact ⟨p + 1, part, names + 1, 6, os ++ [((part : Int) : Int)], by go_num, by omega, rfl, by omega, by go_num, by omega, rfl, Or.inr (Or.inr (Or.inl rfl)), hl2, HI2, Q1, Q2⟩
            case measure => simp [intOf]; omega
        | false =>
          by_cases hs : s = [59]
          · subst hs
            have HI2 : Hid (R = ((os ++ [(-1 : Int)]) ++ (fmGo ⟨part + 1, names, 1⟩ ((l.drop (p + 1)).map kt)).1, (fmGo ⟨part + 1, names, 1⟩ ((l.drop (p + 1)).map kt)).2)) := by
              show _ = _
              rw [HI.out, fmGo]
              simp [fmStep, fmNext, True]
            clear HI
            go_wp2_with fail
            go_quiet (fail)
            have HOD : Hid (Own (U.drewN nq) (w.heap.size + 1) (.slice va p vc) os) := own_same HOU.out (fun k _ => rfl)
            have HBD : Hid (Below (w.heap.size + 1) V (U.drewN nq)) := ⟨HBU.out.os, HBU.out.tape, HBU.out.output, HBU.out.size, HBU.out.block⟩
            go_wp2_with (at_builtin; refine wpList_append_block _ rfl (.tmp 102) (.tmp 104) 23 rfl (w.heap.size + 1) 3 j0 (.int .i64 0) 1 8 Try.underlying23 ji jz0 jz1 jz2 rfl (by decide) _ _ _ rfl (World.ownsRow.alloc HOD.out _) ⟨U.heap.size, 0, none⟩ 1 1 [.int .i64 (-1)] rfl rfl (cell_one_new _ _ _) (by intro u hu; simp at hu; subst hu; rfl) (by decide) (by unfold maxLen; omega) (by omega) (by have := HSZ.out; simp; omega) ?_)
            intro v9 W2 o9 g9 n9
            obtain ⟨q1, q2, q3⟩ := own_snoc HOD.out HBD.out HSZ.out (by rw [hos]; exact o9) g9
            have Q1 := Hid.of q1
            have Q2 := Hid.of q2
            have hl2 : (os ++ [(-1 : Int)]).length = p + 1 := by simp [hos]
            obtain ⟨va2, vc2, hv2, -, -, -⟩ := own_form2 Q1.out
            rw [hl2] at hv2
            subst hv2
            clear q1 q2 q3 o9 g9 n9 HOD HBD HOU HBU
            go_wp2_with fail
            go_roundw
            case rel => exact ⟨p + 1, part + 1, names, 1, os ++ [(-1 : Int)], by go_num, by omega, by go_num, by omega, rfl, by omega, rfl, Or.inl rfl, hl2, HI2, Q1, Q2⟩
            case measure => simp [intOf]; omega
          · have hsd : decide (s = [59]) = false := decide_eq_false hs
            have hsb : (s == [59]) = false := beq_eq_false_iff_ne.2 hs
            have HN : Hid (R = (os, ⟨part, names, 6⟩)) := by
              show _ = _
              rw [HI.out, fmGo]
              simp [fmStep, hs]
            clear HI
            go_wp2_with fail
            go_quiet (fail)
            have HOD : Hid (Own (U.drewN nq) w.heap.size (.slice va p vc) os) := own_low16 (own_same HOU.out (fun k _ => rfl)) (Nat.le_succ _)
            have HBD : Hid (Below w.heap.size w (U.drewN nq)) := HB0.out.trans ((show Below (w.heap.size + 1) V (U.drewN nq) from ⟨HBU.out.os, HBU.out.tape, HBU.out.output, HBU.out.size, HBU.out.block⟩).mono (Nat.le_succ _))
            go_wp2_with fail
            have hn0 : ¬ p = l.length := by omega
            refine bodyPost_ret (v := .tuple #[.slice va p vc, .int .i64 (p : Int), .bool false]) (by simp [results, go_sem]) rfl ⟨.slice va p vc, ?_, ?_, HBD.out⟩
            · rw [HN.out]; simp [hos, hn0]
            · rw [HN.out]; exact HOD.out
      · subst h
        cases bw with
        | true =>
          by_cases hs : s = [59]
          · subst hs
            have HI2 : Hid (R = ((os ++ [(-1 : Int)]) ++ (fmGo ⟨part + 1, names, 1⟩ ((l.drop (p + 1)).map kt)).1, (fmGo ⟨part + 1, names, 1⟩ ((l.drop (p + 1)).map kt)).2)) := by
              show _ = _
              rw [HI.out, fmGo]
              simp [fmStep, fmNext, True]
            clear HI
            go_wp2_with fail
            go_quiet (fail)
            have HOD : Hid (Own (U.drewN nq) (w.heap.size + 1) (.slice va p vc) os) := own_same HOU.out (fun k _ => rfl)
            have HBD : Hid (Below (w.heap.size + 1) V (U.drewN nq)) := ⟨HBU.out.os, HBU.out.tape, HBU.out.output, HBU.out.size, HBU.out.block⟩
            go_wp2_with (at_builtin; refine wpList_append_block _ rfl (.tmp 102) (.tmp 104) 23 rfl (w.heap.size + 1) 3 j0 (.int .i64 0) 1 8 Try.underlying23 ji jz0 jz1 jz2 rfl (by decide) _ _ _ rfl (World.ownsRow.alloc HOD.out _) ⟨U.heap.size, 0, none⟩ 1 1 [.int .i64 (-1)] rfl rfl (cell_one_new _ _ _) (by intro u hu; simp at hu; subst hu; rfl) (by decide) (by unfold maxLen; omega) (by omega) (by have := HSZ.out; simp; omega) ?_)
            intro v9 W2 o9 g9 n9
            obtain ⟨q1, q2, q3⟩ := own_snoc HOD.out HBD.out HSZ.out (by rw [hos]; exact o9) g9
            have Q1 := Hid.of q1
            have Q2 := Hid.of q2
            have hl2 : (os ++ [(-1 : Int)]).length = p + 1 := by simp [hos]
            obtain ⟨va2, vc2, hv2, -, -, -⟩ := own_form2 Q1.out
            rw [hl2] at hv2
            subst hv2
            clear q1 q2 q3 o9 g9 n9 HOD HBD HOU HBU
            go_wp2_with fail
            go_roundw
            case rel => exact ⟨p + 1, part + 1, names, 1, os ++ [(-1 : Int)], by go_num, by omega, by go_num, by omega, rfl, by omega, rfl, Or.inl rfl, hl2, HI2, Q1, Q2⟩
            case measure => simp [intOf]; omega
          · have hsd : decide (s = [59]) = false := decide_eq_false hs
            have hsb : (s == [59]) = false := beq_eq_false_iff_ne.2 hs
            by_cases hc4 : s = [44]
            · subst hc4
              have HI2 : Hid (R = ((os ++ [(-1 : Int)]) ++ (fmGo ⟨part, names, 2⟩ ((l.drop (p + 1)).map kt)).1, (fmGo ⟨part, names, 2⟩ ((l.drop (p + 1)).map kt)).2)) := by
                show _ = _
                rw [HI.out, fmGo]
                simp [fmStep, fmNext, True]
              clear HI
              go_wp2_with fail
              go_quiet (fail)
              have HOD : Hid (Own (U.drewN nq) (w.heap.size + 1) (.slice va p vc) os) := own_same HOU.out (fun k _ => rfl)
              have HBD : Hid (Below (w.heap.size + 1) V (U.drewN nq)) := ⟨HBU.out.os, HBU.out.tape, HBU.out.output, HBU.out.size, HBU.out.block⟩
              go_wp2_with (at_builtin; refine wpList_append_block _ rfl (.tmp 102) (.tmp 104) 23 rfl (w.heap.size + 1) 3 j0 (.int .i64 0) 1 8 Try.underlying23 ji jz0 jz1 jz2 rfl (by decide) _ _ _ rfl (World.ownsRow.alloc HOD.out _) ⟨U.heap.size, 0, none⟩ 1 1 [.int .i64 (-1)] rfl rfl (cell_one_new _ _ _) (by intro u hu; simp at hu; subst hu; rfl) (by decide) (by unfold maxLen; omega) (by omega) (by have := HSZ.out; simp; omega) ?_)
              intro v9 W2 o9 g9 n9
              obtain ⟨q1, q2, q3⟩ := own_snoc HOD.out HBD.out HSZ.out (by rw [hos]; exact o9) g9
              have Q1 := Hid.of q1
              have Q2 := Hid.of q2
              have hl2 : (os ++ [(-1 : Int)]).length = p + 1 := by simp [hos]
              obtain ⟨va2, vc2, hv2, -, -, -⟩ := own_form2 Q1.out
              rw [hl2] at hv2
              subst hv2
              clear q1 q2 q3 o9 g9 n9 HOD HBD HOU HBU
              go_wp2_with fail
              go_roundw
              case rel => exact ⟨p + 1, part, names, 2, os ++ [(-1 : Int)], by go_num, by omega, rfl, by omega, rfl, by omega, rfl, Or.inr (Or.inl rfl), hl2, HI2, Q1, Q2⟩
              case measure => simp [intOf]; omega
            · have hc4d : decide (s = [44]) = false := decide_eq_false hc4
              have hc4b : (s == [44]) = false := beq_eq_false_iff_ne.2 hc4
              have HN : Hid (R = (os, ⟨part, names, 12⟩)) := by
                show _ = _
                rw [HI.out, fmGo]
                simp [fmStep, hs, hc4]
              clear HI
              go_wp2_with fail
              go_quiet (fail)
              have HOD : Hid (Own (U.drewN nq) w.heap.size (.slice va p vc) os) := own_low16 (own_same HOU.out (fun k _ => rfl)) (Nat.le_succ _)
              have HBD : Hid (Below w.heap.size w (U.drewN nq)) := HB0.out.trans ((show Below (w.heap.size + 1) V (U.drewN nq) from ⟨HBU.out.os, HBU.out.tape, HBU.out.output, HBU.out.size, HBU.out.block⟩).mono (Nat.le_succ _))
              go_wp2_with fail
              have hn0 : ¬ p = l.length := by omega
              refine bodyPost_ret (v := .tuple #[.slice va p vc, .int .i64 (p : Int), .bool false]) (by simp [results, go_sem]) rfl ⟨.slice va p vc, ?_, ?_, HBD.out⟩
              · rw [HN.out]; simp [hos, hn0]
              · rw [HN.out]; exact HOD.out
        | false =>
          by_cases hs : s = [59]
          · subst hs
            have HI2 : Hid (R = ((os ++ [(-1 : Int)]) ++ (fmGo ⟨part + 1, names, 1⟩ ((l.drop (p + 1)).map kt)).1, (fmGo ⟨part + 1, names, 1⟩ ((l.drop (p + 1)).map kt)).2)) := by
              show _ = _
              rw [HI.out, fmGo]
              simp [fmStep, fmNext, True]
            clear HI
            go_wp2_with fail
            go_quiet (fail)
            have HOD : Hid (Own (U.drewN nq) (w.heap.size + 1) (.slice va p vc) os) := own_same HOU.out (fun k _ => rfl)
            have HBD : Hid (Below (w.heap.size + 1) V (U.drewN nq)) := ⟨HBU.out.os, HBU.out.tape, HBU.out.output, HBU.out.size, HBU.out.block⟩
            go_wp2_with (at_builtin; refine wpList_append_block _ rfl (.tmp 102) (.tmp 104) 23 rfl (w.heap.size + 1) 3 j0 (.int .i64 0) 1 8 Try.underlying23 ji jz0 jz1 jz2 rfl (by decide) _ _ _ rfl (World.ownsRow.alloc HOD.out _) ⟨U.heap.size, 0, none⟩ 1 1 [.int .i64 (-1)] rfl rfl (cell_one_new _ _ _) (by intro u hu; simp at hu; subst hu; rfl) (by decide) (by unfold maxLen; omega) (by omega) (by have := HSZ.out; simp; omega) ?_)
            intro v9 W2 o9 g9 n9
            obtain ⟨q1, q2, q3⟩ := own_snoc HOD.out HBD.out HSZ.out (by rw [hos]; exact o9) g9
            have Q1 := Hid.of q1
            have Q2 := Hid.of q2
            have hl2 : (os ++ [(-1 : Int)]).length = p + 1 := by simp [hos]
            obtain ⟨va2, vc2, hv2, -, -, -⟩ := own_form2 Q1.out
            rw [hl2] at hv2
            subst hv2
            clear q1 q2 q3 o9 g9 n9 HOD HBD HOU HBU
            go_wp2_with fail
            go_roundw
            case rel => exact ⟨p + 1, part + 1, names, 1, os ++ [(-1 : Int)], by go_num, by omega, by go_num, by omega, rfl, by omega, rfl, Or.inl rfl, hl2, HI2, Q1, Q2⟩
            case measure => simp [intOf]; omega
          · have hsd : decide (s = [59]) = false := decide_eq_false hs
            have hsb : (s == [59]) = false := beq_eq_false_iff_ne.2 hs
            by_cases hc4 : s = [44]
            · subst hc4
              have HI2 : Hid (R = ((os ++ [(-1 : Int)]) ++ (fmGo ⟨part, names, 2⟩ ((l.drop (p + 1)).map kt)).1, (fmGo ⟨part, names, 2⟩ ((l.drop (p + 1)).map kt)).2)) := by
                show _ = _
                rw [HI.out, fmGo]
                simp [fmStep, fmNext, True]
              clear HI
              go_wp2_with fail
              go_quiet (fail)
              have HOD : Hid (Own (U.drewN nq) (w.heap.size + 1) (.slice va p vc) os) := own_same HOU.out (fun k _ => rfl)
              have HBD : Hid (Below (w.heap.size + 1) V (U.drewN nq)) := ⟨HBU.out.os, HBU.out.tape, HBU.out.output, HBU.out.size, HBU.out.block⟩
              go_wp2_with (at_builtin; refine wpList_append_block _ rfl (.tmp 102) (.tmp 104) 23 rfl (w.heap.size + 1) 3 j0 (.int .i64 0) 1 8 Try.underlying23 ji jz0 jz1 jz2 rfl (by decide) _ _ _ rfl (World.ownsRow.alloc HOD.out _) ⟨U.heap.size, 0, none⟩ 1 1 [.int .i64 (-1)] rfl rfl (cell_one_new _ _ _) (by intro u hu; simp at hu; subst hu; rfl) (by decide) (by unfold maxLen; omega) (by omega) (by have := HSZ.out; simp; omega) ?_)
              intro v9 W2 o9 g9 n9
              obtain ⟨q1, q2, q3⟩ := own_snoc HOD.out HBD.out HSZ.out (by rw [hos]; exact o9) g9
              have Q1 := Hid.of q1
              have Q2 := Hid.of q2
              have hl2 : (os ++ [(-1 : Int)]).length = p + 1 := by simp [hos]
              obtain ⟨va2, vc2, hv2, -, -, -⟩ := own_form2 Q1.out
              rw [hl2] at hv2
              subst hv2
              clear q1 q2 q3 o9 g9 n9 HOD HBD HOU HBU
              go_wp2_with fail
              go_roundw
              case rel => exact ⟨p + 1, part, names, 2, os ++ [(-1 : Int)], by go_num, by omega, rfl, by omega, rfl, by omega, rfl, Or.inr (Or.inl rfl), hl2, HI2, Q1, Q2⟩
              case measure => simp [intOf]; omega
            · have hc4d : decide (s = [44]) = false := decide_eq_false hc4
              have hc4b : (s == [44]) = false := beq_eq_false_iff_ne.2 hc4
              have HN : Hid (R = (os, ⟨part, names, 12⟩)) := by
                show _ = _
                rw [HI.out, fmGo]
                simp [fmStep, hs, hc4]
              clear HI
              go_wp2_with fail
              go_quiet (fail)
              have HOD : Hid (Own (U.drewN nq) w.heap.size (.slice va p vc) os) := own_low16 (own_same HOU.out (fun k _ => rfl)) (Nat.le_succ _)
              have HBD : Hid (Below w.heap.size w (U.drewN nq)) := HB0.out.trans ((show Below (w.heap.size + 1) V (U.drewN nq) from ⟨HBU.out.os, HBU.out.tape, HBU.out.output, HBU.out.size, HBU.out.block⟩).mono (Nat.le_succ _))
              go_wp2_with fail
              have hn0 : ¬ p = l.length := by omega
              refine bodyPost_ret (v := .tuple #[.slice va p vc, .int .i64 (p : Int), .bool false]) (by simp [results, go_sem]) rfl ⟨.slice va p vc, ?_, ?_, HBD.out⟩
              · rw [HN.out]; simp [hos, hn0]
              · rw [HN.out]; exact HOD.out
    · have hpe : p = l.length := by omega
      have HN : Hid (R = (os, ⟨part, names, next⟩)) := by
        show _ = _
        rw [HI.out, hpe, List.drop_length]
        simp [fmGo]
      clear HI
      have HOD : Hid (Own wr w.heap.size (.slice va p vc) os) := by
        have := HO.out
        rw [hos] at this
        exact own_low16 this (Nat.le_succ _)
      have HBD : Hid (Below w.heap.size w wr) := HB0.out.trans (HB.out.mono (Nat.le_succ _))
      clear HO HB
      by_cases h9 : part = 9
      · subst h9
        go_wp2_with fail
        refine bodyPost_ret (v := .tuple #[.slice va p vc, .int .i64 (l.length : Int), .bool true]) (by simp [results, go_sem]) rfl ⟨.slice va p vc, ?_, ?_, HBD.out⟩
        · rw [HN.out]; simp [hos, hpe]
        · rw [HN.out]; exact HOD.out
      · have e9 : ((part : Int) == 9) = false := beq_eq_false_iff_ne.2 (by omega)
        go_wp2_with fail
        refine bodyPost_ret (v := .tuple #[.slice va p vc, .int .i64 (l.length : Int), .bool false]) (by simp [results, go_sem]) rfl ⟨.slice va p vc, ?_, ?_, HBD.out⟩
        · rw [HN.out]; simp [hos, hpe, h9]
        · rw [HN.out]; exact HOD.out

end Go.Proofs.Ytbgiliophmofgaa
namespace Go.Proofs.Ytbgiliophmofgaa
open Go.RowKit
set_option linter.unusedVariables false

set_option maxRecDepth 100000 in
set_option maxHeartbeats 2000000 in
theorem form_nil (a : Option Addr) (c : Nat) (w : World) :
    Calls Try.prog 23 #[.slice a 0 c] w fun e w' => ∃ v, e = .returned (.tuple #[v, .int .i64 0, .bool false]) ∧ Own w' w.heap.size v [] ∧ Below w.heap.size w w' := by
  go_enter Try.func23, Try.ntmps23
  go_wp2_with fail
  refine (parts_any w).mono ?_
  rintro e1 w1 ⟨rfl, rfl⟩
  have B : Hid (Below w.heap.size w (w.alloc (.cells (partsW.map strV).toArray 9))) := (Below.refl _ _).alloc (Nat.le_refl _) _
  revert B
  generalize w.alloc (.cells (partsW.map strV).toArray 9) = W
  intro B
  go_wp2_with fail
  refine wp_loop_rounds 1 ?_
  rw [rounds_succ]
  go_wp2_with fail
  exact bodyPost_ret (v := .tuple #[.slice none 0 0, .int .i64 0, .bool false]) (by simp [results, go_sem]) rfl ⟨_, rfl, own_nil _ _, B.out⟩

theorem tkflat_at : ∀ (L : List Tok) (k : Nat) (t : Tok), L[k]? = some t → ∀ i, i < 3 → (tkflat L)[k * 3 + i]? = (tkcells t)[i]?
  | [], k, t, h, i, hi => by simp at h
  | a :: r, 0, t, h, i, hi => by
    have : a = t := by simpa using h
    subst this
    show (tkcells a ++ tkflat r)[0 * 3 + i]? = _
    rw [Nat.zero_mul, Nat.zero_add, List.getElem?_append_left (show i < (tkcells a).length from hi)]
  | a :: r, k + 1, t, h, i, hi => by
    have h' : r[k]? = some t := by simpa using h
    show (tkcells a ++ tkflat r)[(k + 1) * 3 + i]? = _
    have e : (k + 1) * 3 + i = (tkcells a).length + (k * 3 + i) := by show _ = 3 + _; omega
    rw [e, List.getElem?_append_right (Nat.le_add_right _ _), Nat.add_sub_cancel_left]
    exact tkflat_at r k t h' i hi
/-- What the cells of a row of tokens hold. -/
theorem OwnTk.cellsT {W : World} {B : Nat} {v : Value} {L : List Tok} (h : OwnTk W B v L) (hl : 0 < L.length) : ∃ g c, v = .slice (some ⟨g, 0, none⟩) L.length c ∧ g < W.heap.size ∧ CellsT W g 0 L := by
  have ho : W.ownsRow B 56 3 v L.length (tkflat L) := h
  rcases ho.2 with ⟨rfl, hn⟩ | ⟨g, cap, cur, rfl, hg, hh, hnc, hcm, hcs, ht⟩
  · omega
  · refine ⟨g, cap, rfl, (Array.getElem?_eq_some_iff.1 hh).1, fun k t hk => ?_⟩
    have c0 := ho.cells (g := g) rfl (k * 3) _ ((tkflat_at L k t hk 0 (by omega)).trans rfl)
    have c1 := ho.cells (g := g) rfl (k * 3 + 1) _ ((tkflat_at L k t hk 1 (by omega)).trans rfl)
    have c2 := ho.cells (g := g) rfl (k * 3 + 2) _ ((tkflat_at L k t hk 2 (by omega)).trans rfl)
    rw [addr0_add] at c0 c1 c2
    exact ⟨c0, c1, c2⟩
theorem OwnTk.form {W : World} {B : Nat} {v : Value} {L : List Tok} (h : OwnTk W B v L) : ∃ a c, v = .slice a L.length c := by
  obtain ⟨a, c, e, -⟩ := own_form2 (show W.ownsRow B 56 3 v L.length (tkflat L) from h)
  exact ⟨a, c, e⟩
/-- jalousieref16.form. -/
theorem form_any (B : Nat) (v : Value) (l : List Tok) (w : World) (hl : l.length ≤ 4000) (h : OwnTk w B v l) (R : List Int × Fm) (HR : Hid (fmGo ⟨0, 0, 1⟩ (l.map kt) = R)) :
    Calls Try.prog 23 #[v] w fun e w' => ∃ v, e = .returned (.tuple #[v, .int .i64 (R.1.length : Int), .bool (decide (R.1.length = l.length ∧ R.2.part = 9))]) ∧ Own w' w.heap.size v R.1 ∧ Below w.heap.size w w' := by
  by_cases h0 : 0 < l.length
  · obtain ⟨g, c, rfl, hg, hc⟩ := OwnTk.cellsT h h0
    exact form_some g 0 c l w hl hg hc R HR
  · have e : l = [] := List.eq_nil_of_length_eq_zero (by omega)
    subst e
    obtain ⟨a, c, rfl⟩ := OwnTk.form h
    have hR : R = ([], ⟨0, 0, 1⟩) := HR.out.symm
    subst hR
    exact (form_nil a c w).mono fun e w' ⟨v, h1, h2, h3⟩ => ⟨v, h1, h2, h3⟩

end Go.Proofs.Ytbgiliophmofgaa
namespace Go.Proofs.Ytbgiliophmofgaa
open Go.RowKit
set_option linter.unusedVariables false

/-- What a Parse must leave. -/
def ParPost (w : World) (s : Str) (e : Ending) (w' : World) : Prop := ∃ L, e = .returned (.tuple #[pjval (parseL s).1 L, .agg #[.int .i64 (parseL s).2.1, .int .i64 ((parseL s).2.2 : Int)]]) ∧ PjAt w' (parseL s).1 L ∧ Below w.heap.size w w'

theorem Try.fieldsFault : Try.prog.underlying 31 = some (.struct (Try.prog.fieldsOf 31)) := by unfold Program.fieldsOf; rw [Try.underlying31]
theorem Try.stoodFault : Try.prog.stoodInHeld 31 = false := by kernel_rfl
theorem Try.guardFault : Try.prog.eqGuardType Try.prog.depth 31 = false := by kernel_rfl
set_option maxRecDepth 100000 in
theorem run_equalIn_fault (a b : Int) (w : World) : (Op.equalIn 10000 31 (.agg #[.int .i64 a, .int .i64 b]) (.agg #[.int .i64 a, .int .i64 b])).run Try.prog w = .ok true w := by
  rw [run_equalIn_agg w 9999 31 _ _ Try.fieldsFault Try.stoodFault]
  have hf : (Try.prog.fieldsOf 31).toList = [{ name := "Code", type := 29, offset := 0, embedded := false, tag := "", pkgPath := "", byteOffset := 0 }, { name := "At", type := 3, offset := 1, embedded := false, tag := "", pkgPath := "", byteOffset := 8 }] := by kernel_rfl
  rw [hf]
  simp [Op.eqFields, go_sem]
theorem run_guard_fault (op : BinOp) (x y : Operand) (xs ys : Array Value) (w : World) : (eqGuard op 31 x y (.agg xs) (.agg ys)).run Try.prog w = .ok () w := run_eqGuard_agg w op 31 x y xs ys Try.guardFault

set_option maxRecDepth 100000 in
set_option maxHeartbeats 4000000 in
theorem tparses_any (s : Str) (w : World)
    (HC : Hid (∀ u : World, Calls Try.prog 7 #[strV s] u fun e w' => ParPost u s e w'))
    (HR : Hid (∀ u : World, Calls Try.prog 8 #[strV s] u fun e w' => ParPost u s e w')) :
    Calls Try.prog 3 #[strV s] w fun e w' => e = .returned (.bool true) ∧ Below w.heap.size w w' := by
  obtain ⟨q, HQ⟩ : ∃ q : Proj, Hid (q = (parseL s).1) := ⟨_, rfl⟩
  obtain ⟨er, HE⟩ : ∃ er : Int, Hid (er = (parseL s).2.1) := ⟨_, rfl⟩
  obtain ⟨ps, HS⟩ : ∃ ps : Nat, Hid (ps = (parseL s).2.2) := ⟨_, rfl⟩
  have HP : Hid (∀ (w : World) (e : Ending) (w' : World), ParPost w s e w' → ∃ L, e = .returned (.tuple #[pjval q L, .agg #[.int .i64 er, .int .i64 (ps : Int)]]) ∧ PjAt w' q L ∧ Below w.heap.size w w') := fun w e w' hh => by
    rw [HQ.out, HE.out, HS.out]; exact hh
  clear HQ HE HS
  go_enter Try.func3, Try.ntmps3
  go_wp2_with fail
  refine (HC.out w).mono ?_
  rintro e1 V1 hq
  obtain ⟨L1, rfl, hA, hb⟩ := HP.out _ _ _ hq
  have A1 := Hid.of hA
  have B := Hid.of hb
  clear hq hA hb
  go_wp2_with fail
  have hbK1 : Below V1.heap.size V1 ((V1.alloc (.cells (pjcells q L1) 28)).alloc (.cells #[.int .i64 er, .int .i64 (ps : Int)] 31)) := ((Below.refl _ _).alloc (Nat.le_refl _) _).alloc (by simp) _
  have K1 : Hid (Blk ((V1.alloc (.cells (pjcells q L1) 28)).alloc (.cells #[.int .i64 er, .int .i64 (ps : Int)] 31)) V1.heap.size 28 (pjcells q L1)) := (Blk.new V1 _ _).alloc _
  have F1 : Hid (Blk ((V1.alloc (.cells (pjcells q L1) 28)).alloc (.cells #[.int .i64 er, .int .i64 (ps : Int)] 31)) (V1.heap.size + 1) 31 #[.int .i64 er, .int .i64 (ps : Int)]) := by
    have := Blk.new (V1.alloc (.cells (pjcells q L1) 28)) 31 #[.int .i64 er, .int .i64 (ps : Int)]
    rwa [World.size_alloc] at this
  replace A1 := Hid.of (A1.out.below hbK1 (Nat.le_refl _))
  replace B := Hid.of (B.out.trans (hbK1.mono B.out.size))
  clear hbK1
  revert K1 F1 A1 B
  show Hid (Blk ((V1.alloc (.cells (pjcells q L1) 28)).alloc (.cells #[.int .i64 er, .int .i64 (ps : Int)] 31)) V1.heap.size 28 (pjcells q L1)) → _
  generalize ((V1.alloc (.cells (pjcells q L1) 28)).alloc (.cells #[.int .i64 er, .int .i64 (ps : Int)] 31)) = W1
  generalize V1.heap.size = p1
  intro K1 F1 A1 B
  refine (HR.out W1).mono ?_
  rintro e1 V2 hq
  obtain ⟨L2, rfl, hA, hb⟩ := HP.out _ _ _ hq
  have A2 := Hid.of hA
  replace A1 := Hid.of (A1.out.below hb (Nat.le_refl _))
  replace K1 := Hid.of (K1.out.below hb K1.out.lt)
  replace F1 := Hid.of (F1.out.below hb F1.out.lt)
  replace B := Hid.of (B.out.trans (hb.mono B.out.size))
  clear hq hA hb
  have hbK2 : Below V2.heap.size V2 ((V2.alloc (.cells (pjcells q L2) 28)).alloc (.cells #[.int .i64 er, .int .i64 (ps : Int)] 31)) := ((Below.refl _ _).alloc (Nat.le_refl _) _).alloc (by simp) _
  have K2 : Hid (Blk ((V2.alloc (.cells (pjcells q L2) 28)).alloc (.cells #[.int .i64 er, .int .i64 (ps : Int)] 31)) V2.heap.size 28 (pjcells q L2)) := (Blk.new V2 _ _).alloc _
  have F2 : Hid (Blk ((V2.alloc (.cells (pjcells q L2) 28)).alloc (.cells #[.int .i64 er, .int .i64 (ps : Int)] 31)) (V2.heap.size + 1) 31 #[.int .i64 er, .int .i64 (ps : Int)]) := by
    have := Blk.new (V2.alloc (.cells (pjcells q L2) 28)) 31 #[.int .i64 er, .int .i64 (ps : Int)]
    rwa [World.size_alloc] at this
  replace A1 := Hid.of (A1.out.below hbK2 (Nat.le_refl _))
  replace A2 := Hid.of (A2.out.below hbK2 (Nat.le_refl _))
  replace K1 := Hid.of (K1.out.below hbK2 K1.out.lt)
  replace F1 := Hid.of (F1.out.below hbK2 F1.out.lt)
  replace B := Hid.of (B.out.trans (hbK2.mono B.out.size))
  clear hbK2
  obtain ⟨x0, x1, x2, x3, x4, x5, x6, x7, x8, x9, x10⟩ := pjcell_at K1.out
  obtain ⟨y0, y1, y2, y3, y4, y5, y6, y7, y8, y9, y10⟩ := pjcell_at K2.out
  have f0 := F1.out.cell 0 rfl
  have f1 := F1.out.cell 1 rfl
  have g0 := F2.out.cell 0 rfl
  have g1 := F2.out.cell 1 rfl
  have heq := run_equalIn_fault er (ps : Int)
  have hgd := run_guard_fault
  go_wp2_with fail
  clear x0 x1 x2 x3 x4 x5 x6 x7 x8 x9 x10 y0 y1 y2 y3 y4 y5 y6 y7 y8 y9 y10 f0 f1 g0 g1 heq hgd
  revert A1 A2 B
  generalize ((V2.alloc (.cells (pjcells q L2) 28)).alloc (.cells #[.int .i64 er, .int .i64 (ps : Int)] 31)) = W2
  intro A1 A2 B
  refine (same16_self q L1 L2 W2 A1.out A2.out).mono ?_
  rintro e3 W3 ⟨rfl, hb⟩
  replace B := Hid.of (B.out.trans (hb.mono B.out.size))
  clear hb
  go_wp2_with fail
  exact bodyPost_ret (v := .bool true) (by simp [results, go_sem]) rfl ⟨rfl, B.out⟩

end Go.Proofs.Ytbgiliophmofgaa
namespace Go.Proofs.Ytbgiliophmofgaa
open Go.RowKit
set_option linter.unusedVariables false

/-- A project and a fault are stored. -/
abbrev setPJ (Z : World) (r2 r3 : Nat) (v0 v1 v2 v3 v4 v5 v6 v7 v8 v9 v10 e0 e1 : Value) : World := (((((((((((((Z.setCell ⟨r2, 0, none⟩ v0).setCell ⟨r2, 1, none⟩ v1).setCell ⟨r2, 2, none⟩ v2).setCell ⟨r2, 3, none⟩ v3).setCell ⟨r2, 4, none⟩ v4).setCell ⟨r2, 5, none⟩ v5).setCell ⟨r2, 6, none⟩ v6).setCell ⟨r2, 7, none⟩ v7).setCell ⟨r2, 8, none⟩ v8).setCell ⟨r2, 9, none⟩ v9).setCell ⟨r2, 10, none⟩ v10).setCell ⟨r3, 0, none⟩ e0).setCell ⟨r3, 1, none⟩ e1)
abbrev setPq (Z : World) (r2 : Nat) (v0 v1 v2 v3 v4 v5 v6 v7 v8 v9 v10 : Value) : World := (((((((((((Z.setCell ⟨r2, 0, none⟩ v0).setCell ⟨r2, 1, none⟩ v1).setCell ⟨r2, 2, none⟩ v2).setCell ⟨r2, 3, none⟩ v3).setCell ⟨r2, 4, none⟩ v4).setCell ⟨r2, 5, none⟩ v5).setCell ⟨r2, 6, none⟩ v6).setCell ⟨r2, 7, none⟩ v7).setCell ⟨r2, 8, none⟩ v8).setCell ⟨r2, 9, none⟩ v9).setCell ⟨r2, 10, none⟩ v10)
section
variable {Z : World} {r2 r3 : Nat}
theorem setP_heap (v0 v1 v2 v3 v4 v5 v6 v7 v8 v9 v10 : Value) {q : Nat} (h2 : q ≠ r2) : (setPq Z r2 v0 v1 v2 v3 v4 v5 v6 v7 v8 v9 v10).heap[q]? = Z.heap[q]? := by
  simp only [setPq]
  rw [Below.heap_setCell _ _ _ _ (show q ≠ r2 from h2), Below.heap_setCell _ _ _ _ (show q ≠ r2 from h2), Below.heap_setCell _ _ _ _ (show q ≠ r2 from h2), Below.heap_setCell _ _ _ _ (show q ≠ r2 from h2), Below.heap_setCell _ _ _ _ (show q ≠ r2 from h2), Below.heap_setCell _ _ _ _ (show q ≠ r2 from h2), Below.heap_setCell _ _ _ _ (show q ≠ r2 from h2), Below.heap_setCell _ _ _ _ (show q ≠ r2 from h2), Below.heap_setCell _ _ _ _ (show q ≠ r2 from h2), Below.heap_setCell _ _ _ _ (show q ≠ r2 from h2), Below.heap_setCell _ _ _ _ (show q ≠ r2 from h2)]
theorem setPJ_heap (v0 v1 v2 v3 v4 v5 v6 v7 v8 v9 v10 e0 e1 : Value) {q : Nat} (h2 : q ≠ r2) (h3 : q ≠ r3) : (setPJ Z r2 r3 v0 v1 v2 v3 v4 v5 v6 v7 v8 v9 v10 e0 e1).heap[q]? = Z.heap[q]? := by
  simp only [setPJ]
  rw [Below.heap_setCell _ _ _ _ (show q ≠ r3 from h3), Below.heap_setCell _ _ _ _ (show q ≠ r3 from h3), Below.heap_setCell _ _ _ _ (show q ≠ r2 from h2), Below.heap_setCell _ _ _ _ (show q ≠ r2 from h2), Below.heap_setCell _ _ _ _ (show q ≠ r2 from h2), Below.heap_setCell _ _ _ _ (show q ≠ r2 from h2), Below.heap_setCell _ _ _ _ (show q ≠ r2 from h2), Below.heap_setCell _ _ _ _ (show q ≠ r2 from h2), Below.heap_setCell _ _ _ _ (show q ≠ r2 from h2), Below.heap_setCell _ _ _ _ (show q ≠ r2 from h2), Below.heap_setCell _ _ _ _ (show q ≠ r2 from h2), Below.heap_setCell _ _ _ _ (show q ≠ r2 from h2), Below.heap_setCell _ _ _ _ (show q ≠ r2 from h2)]
theorem setPJ_two (v0 v1 v2 v3 v4 v5 v6 v7 v8 v9 v10 e0 e1 : Value) (h2 : Blk Z r2 28 #[.slice none 0 0, .slice none 0 0, .int .i64 0, .int .i64 0, .slice none 0 0, .slice none 0 0, .slice none 0 0, .slice none 0 0, .slice none 0 0, .slice none 0 0, .slice none 0 0]) (hne : r2 ≠ r3) : Blk (setPJ Z r2 r3 v0 v1 v2 v3 v4 v5 v6 v7 v8 v9 v10 e0 e1) r2 28 #[v0, v1, v2, v3, v4, v5, v6, v7, v8, v9, v10] := by
  have h := ((((((((((((h2.set 0 v0).set 1 v1).set 2 v2).set 3 v3).set 4 v4).set 5 v5).set 6 v6).set 7 v7).set 8 v8).set 9 v9).set 10 v10).other (j := 0) hne e0).other (j := 1) hne e1
  simp only [List.setIfInBounds_toArray, List.set_cons_zero, List.set_cons_succ] at h
  exact h
theorem setPJ_three (v0 v1 v2 v3 v4 v5 v6 v7 v8 v9 v10 e0 e1 : Value) (h3 : Blk Z r3 31 #[.int .i64 0, .int .i64 0]) (hne : r3 ≠ r2) : Blk (setPJ Z r2 r3 v0 v1 v2 v3 v4 v5 v6 v7 v8 v9 v10 e0 e1) r3 31 #[e0, e1] := by
  have h0 : Blk (((((((((((Z.setCell ⟨r2, 0, none⟩ v0).setCell ⟨r2, 1, none⟩ v1).setCell ⟨r2, 2, none⟩ v2).setCell ⟨r2, 3, none⟩ v3).setCell ⟨r2, 4, none⟩ v4).setCell ⟨r2, 5, none⟩ v5).setCell ⟨r2, 6, none⟩ v6).setCell ⟨r2, 7, none⟩ v7).setCell ⟨r2, 8, none⟩ v8).setCell ⟨r2, 9, none⟩ v9).setCell ⟨r2, 10, none⟩ v10) r3 31 #[.int .i64 0, .int .i64 0] := by
    have h : ((((((((((((Z.setCell ⟨r2, 0, none⟩ v0).setCell ⟨r2, 1, none⟩ v1).setCell ⟨r2, 2, none⟩ v2).setCell ⟨r2, 3, none⟩ v3).setCell ⟨r2, 4, none⟩ v4).setCell ⟨r2, 5, none⟩ v5).setCell ⟨r2, 6, none⟩ v6).setCell ⟨r2, 7, none⟩ v7).setCell ⟨r2, 8, none⟩ v8).setCell ⟨r2, 9, none⟩ v9).setCell ⟨r2, 10, none⟩ v10)).heap[r3]? = Z.heap[r3]? := by
      rw [Below.heap_setCell _ _ _ _ (show r3 ≠ r2 from hne), Below.heap_setCell _ _ _ _ (show r3 ≠ r2 from hne), Below.heap_setCell _ _ _ _ (show r3 ≠ r2 from hne), Below.heap_setCell _ _ _ _ (show r3 ≠ r2 from hne), Below.heap_setCell _ _ _ _ (show r3 ≠ r2 from hne), Below.heap_setCell _ _ _ _ (show r3 ≠ r2 from hne), Below.heap_setCell _ _ _ _ (show r3 ≠ r2 from hne), Below.heap_setCell _ _ _ _ (show r3 ≠ r2 from hne), Below.heap_setCell _ _ _ _ (show r3 ≠ r2 from hne), Below.heap_setCell _ _ _ _ (show r3 ≠ r2 from hne), Below.heap_setCell _ _ _ _ (show r3 ≠ r2 from hne)]
    exact h.trans h3
  exact (h0.set 0 e0).set 1 e1
theorem setPJ_below {B : Nat} {U : World} (v0 v1 v2 v3 v4 v5 v6 v7 v8 v9 v10 e0 e1 : Value) (h : Below B U Z) (h2 : B ≤ r2) (h3 : B ≤ r3) : Below B U (setPJ Z r2 r3 v0 v1 v2 v3 v4 v5 v6 v7 v8 v9 v10 e0 e1) :=
  (((((((((((((h.setCell (p := ⟨r2, 0, none⟩) h2 v0).setCell (p := ⟨r2, 1, none⟩) h2 v1).setCell (p := ⟨r2, 2, none⟩) h2 v2).setCell (p := ⟨r2, 3, none⟩) h2 v3).setCell (p := ⟨r2, 4, none⟩) h2 v4).setCell (p := ⟨r2, 5, none⟩) h2 v5).setCell (p := ⟨r2, 6, none⟩) h2 v6).setCell (p := ⟨r2, 7, none⟩) h2 v7).setCell (p := ⟨r2, 8, none⟩) h2 v8).setCell (p := ⟨r2, 9, none⟩) h2 v9).setCell (p := ⟨r2, 10, none⟩) h2 v10).setCell (p := ⟨r3, 0, none⟩) h3 e0).setCell (p := ⟨r3, 1, none⟩) h3 e1)
end
set_option maxRecDepth 100000 in
set_option maxHeartbeats 4000000 in
theorem results_pj {fn : Func} {p u : Tmp} (h : fn.results = #[.cell p 28, .cell u 31]) (tmps : Array Value) (w : World) (g k : Nat) (p0 p1 p4 p5 p6 p7 p8 p9 p10 : Option Addr) (n0 n1 n4 n5 n6 n7 n8 n9 n10 c0 c1 c4 c5 c6 c7 c8 c9 c10 : Nat) (i2 i3 f0 f1 : Int) (hp : tmps.getD p undef = .pointer (some ⟨g, 0, none⟩)) (hu : tmps.getD u undef = .pointer (some ⟨k, 0, none⟩)) (hB : Blk w g 28 #[.slice p0 n0 c0, .slice p1 n1 c1, .int .i64 i2, .int .i64 i3, .slice p4 n4 c4, .slice p5 n5 c5, .slice p6 n6 c6, .slice p7 n7 c7, .slice p8 n8 c8, .slice p9 n9 c9, .slice p10 n10 c10]) (hF : Blk w k 31 #[.int .i64 f0, .int .i64 f1]) :
    (results fn tmps).run Try.prog w = .ok (.tuple #[.agg #[.slice p0 n0 c0, .slice p1 n1 c1, .int .i64 i2, .int .i64 i3, .slice p4 n4 c4, .slice p5 n5 c5, .slice p6 n6 c6, .slice p7 n7 c7, .slice p8 n8 c8, .slice p9 n9 c9, .slice p10 n10 c10], .agg #[.int .i64 f0, .int .i64 f1]]) w := by
  have x0 := hB.cell 0 rfl
  have x1 := hB.cell 1 rfl
  have x2 := hB.cell 2 rfl
  have x3 := hB.cell 3 rfl
  have x4 := hB.cell 4 rfl
  have x5 := hB.cell 5 rfl
  have x6 := hB.cell 6 rfl
  have x7 := hB.cell 7 rfl
  have x8 := hB.cell 8 rfl
  have x9 := hB.cell 9 rfl
  have x10 := hB.cell 10 rfl
  have y0 := hF.cell 0 rfl
  have y1 := hF.cell 1 rfl
  have e : (results fn tmps).run Try.prog w = ((asAddr (tmps.getD p undef)).run Try.prog w).andThen fun a w₁ => ((loadVar 28 a).run Try.prog w₁).andThen fun r w₂ => ((asAddr (tmps.getD u undef)).run Try.prog w₂).andThen fun b w₃ => ((loadVar 31 b).run Try.prog w₃).andThen fun t w₄ => .ok (.tuple #[r, t]) w₄ := by
    simp only [results, h]
    simp [Sem.run_bind, Result.andThen]
  rw [e, hp, hu]
  go_simp
theorem pj11 {W : World} {b : Nat} {a0 : Value} {a1 : Value} {a2 : Value} {a3 : Value} {a4 : Value} {a5 : Value} {a6 : Value} {a7 : Value} {a8 : Value} {a9 : Value} {a10 : Value} (h : Blk W b 28 #[a0, a1, a2, a3, a4, a5, a6, a7, a8, a9, a10]) : W.cell? ⟨b, 0, none⟩ = some a0 ∧ W.cell? ⟨b, 1, none⟩ = some a1 ∧ W.cell? ⟨b, 2, none⟩ = some a2 ∧ W.cell? ⟨b, 3, none⟩ = some a3 ∧ W.cell? ⟨b, 4, none⟩ = some a4 ∧ W.cell? ⟨b, 5, none⟩ = some a5 ∧ W.cell? ⟨b, 6, none⟩ = some a6 ∧ W.cell? ⟨b, 7, none⟩ = some a7 ∧ W.cell? ⟨b, 8, none⟩ = some a8 ∧ W.cell? ⟨b, 9, none⟩ = some a9 ∧ W.cell? ⟨b, 10, none⟩ = some a10 :=
  ⟨h.cell 0 rfl, h.cell 1 rfl, h.cell 2 rfl, h.cell 3 rfl, h.cell 4 rfl, h.cell 5 rfl, h.cell 6 rfl, h.cell 7 rfl, h.cell 8 rfl, h.cell 9 rfl, h.cell 10 rfl⟩
/-- Nothing is told but what is wrong. -/
theorem par_err {w w' : World} {s : Str} {er : Int} {pos : Nat} (h : parseL s = (proj0, er, pos)) (hB : Below w.heap.size w w') : ParPost w s (.returned (.tuple #[.agg #[.slice none 0 0, .slice none 0 0, .int .i64 0, .int .i64 0, .slice none 0 0, .slice none 0 0, .slice none 0 0, .slice none 0 0, .slice none 0 0, .slice none 0 0, .slice none 0 0], .agg #[.int .i64 er, .int .i64 (pos : Int)]])) w' := by
  refine ⟨⟨none, 0, none, 0, ⟨none, 0, none, 0, none, 0⟩, none, 0, none, 0, none, 0, none, 0⟩, ?_, ?_, hB⟩
  · rw [h]; rfl
  · rw [h]
    have sl : ∀ W : World, Sl W none 0 [] := fun W => ⟨.inl rfl, Nat.le_refl _, Nat.zero_le _, fun _ => rfl⟩
    have ss : ∀ W : World, SlS W none 0 [] := fun W => ⟨.inl rfl, Nat.le_refl _, Nat.zero_le _, fun _ => rfl⟩
    exact ⟨ss _, ss _, ⟨.inl rfl, .inl rfl, .inl rfl, Nat.le_refl _, Nat.zero_le _, fun _ => rfl, Nat.le_refl _, Nat.zero_le _, fun _ => rfl, Nat.le_refl _, Nat.zero_le _, fun _ => rfl⟩, sl _, sl _, sl _, sl _⟩

end Go.Proofs.Ytbgiliophmofgaa
