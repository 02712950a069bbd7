/-
  The walk of jalousieref15.Lets.
-/
import Derived.Test.YtkodmnooibpflaaDoorH32
import Derived.Test.YtkodmnooibpflaaDoorH34
namespace Go.Proofs.YtkodmnooibpflaaDoor
open Go.RowKit
set_option linter.unusedVariables false

/-- What Lets leaves. -/
def LetsPost (w : World) (o : Option (Int × Nat)) (e : Ending) (w' : World) : Prop :=
  match o with
  | none => e = .returned (.tuple #[.int .i64 0, .int .i64 0, .bool false]) ∧ Below w.heap.size w w'
  | some x => e = .returned (.tuple #[.int .i64 x.1, .int .i64 (x.2 : Int), .bool true]) ∧ Below w.heap.size w w'
theorem lets_at {p : Plant} {v : VS} {word : List Int} {k : Nat} {e : Int} (hk : word[k]? = some e) (o0 : Option (Int × Nat)) : (word.take (k + 1)).foldl (letStep p v) o0 = letStep p v ((word.take k).foldl (letStep p v) o0) e := by
  rw [List.take_add_one, hk, Option.toList_some, List.foldl_append]; rfl
theorem lets_stop {p : Plant} {v : VS} {word : List Int} {k : Nat} (o0 : Option (Int × Nat)) (h : (word.take k).foldl (letStep p v) o0 = none) : word.foldl (letStep p v) o0 = none := by
  have e : word = word.take k ++ word.drop k := (List.take_append_drop k word).symm
  rw [e, List.foldl_append, h, fold_none]

set_option maxRecDepth 100000 in
set_option maxHeartbeats 16000000 in
theorem rlets_any (p : Plant) (Pl : ML) (sa : Option Addr) (sc : Nat) (ta : Option Addr) (tc : Nat) (v : VS) (L : VL) (wa : Option Addr) (wc : Nat) (word : List Int) (w : World) (h : Hid (PAt w p ⟨Pl, sa, sc, ta, tc⟩)) (hp : Hid (mayP p = true)) (hV : Hid (VAt w v L)) (hw : Hid (At w wa word)) (hwl : Hid (word.length ≤ maxLen)) :
    Calls Tryd.prog 45 #[ptval p ⟨Pl, sa, sc, ta, tc⟩, vval v L, .slice wa word.length wc] w fun e w' => LetsPost w (letsV p v word) e w' := by
  have hmP := (mayP_iff p).1 hp.out
  have hz := mayB_size hmP.1
  unfold sizeOk at hz
  have hal : Hid (p.m.arrows.length ≤ 4096) := by show _ ≤ _; omega
  clear hmP hz
  have hwl2 : word.length ≤ 9223372036854775807 := hwl.out
  have hnl := hV.out.nl
  have B : Hid (Below w.heap.size w ((w.alloc (.cells (ptcells p ⟨Pl, sa, sc, ta, tc⟩) 44)).alloc (.cells (vcells v L) 60))) := ((Below.refl _ _).alloc (Nat.le_refl _) _).alloc (by simp) _
  have KP : Hid (Blk ((w.alloc (.cells (ptcells p ⟨Pl, sa, sc, ta, tc⟩) 44)).alloc (.cells (vcells v L) 60)) w.heap.size 44 (ptcells p ⟨Pl, sa, sc, ta, tc⟩)) := (Blk.new w _ _).alloc _
  have KV : Hid (Blk ((w.alloc (.cells (ptcells p ⟨Pl, sa, sc, ta, tc⟩) 44)).alloc (.cells (vcells v L) 60)) (w.heap.size + 1) 60 (vcells v L)) := by
    have := Blk.new (w.alloc (.cells (ptcells p ⟨Pl, sa, sc, ta, tc⟩) 44)) 60 (vcells v L)
    rwa [World.size_alloc] at this
  go_enter Tryd.func45, Tryd.ntmps45
  obtain ⟨x0, x1, x2, x3, x4, x5, x6⟩ := ptcell_at KP.out
  obtain ⟨y0, y1⟩ := vcell_at KV.out
  by_cases hs1 : p.m.starts.length = 1
  · by_cases hn0 : v.1.length = 0
    · have HEND : Hid (letsV p v word = none) := by show _ = _; unfold letsV; rw [if_neg (by omega)]
      have e1 : (((p.m.starts.length : Nat) : Int) != 1) = false := by simp [hs1]
      have e2 : (((v.1.length : Nat) : Int) == 0) = true := beq_iff_eq.2 (by omega)
      clear hs1 hn0
      go_wp2_with fail
      refine bodyPost_ret (v := .tuple #[.int .i64 0, .int .i64 0, .bool false]) (by simp [results, go_sem]) rfl ?_
      rw [HEND.out]
      exact ⟨rfl, B.out⟩
    · have HLV : Hid (letsV p v word = word.foldl (letStep p v) (some (p.m.starts[0]?.getD 0, 0))) := by show _ = _; unfold letsV; rw [if_pos ⟨hs1, by omega⟩]
      have e1 : (((p.m.starts.length : Nat) : Int) != 1) = false := by simp [hs1]
      have e2 : (((v.1.length : Nat) : Int) == 0) = false := beq_eq_false_iff_ne.2 (by omega)
      obtain ⟨s0, HS0⟩ : ∃ s0 : Int, Hid (s0 = p.m.starts[0]?.getD 0) := ⟨p.m.starts[0]?.getD 0, rfl⟩
      rw [← HS0.out] at HLV
      obtain ⟨sb, so, hsa, c0⟩ : ∃ sb so, Pl.a1 = some ⟨sb, so, none⟩ ∧ ((w.alloc (.cells (ptcells p ⟨Pl, sa, sc, ta, tc⟩) 44)).alloc (.cells (vcells v L) 60)).cell? ⟨sb, so, none⟩ = some (.int .i64 s0) := by
        rcases h.out.m.s with h0 | ⟨sb, so, ha, hb, hc⟩
        · rw [h0] at hs1; simp at hs1
        · obtain ⟨x, HX, cx⟩ := hc.at (k := 0) (by omega)
          refine ⟨sb, so, ha, ?_⟩
          rw [HS0.out, ← HX.out]
          exact (B.out.cell (p := ⟨sb, so, none⟩) hb).trans cx
      rw [hsa] at x2
      clear hsa
      have hsl : (0 : Int) < ((p.m.starts.length : Nat) : Int) := by omega
      have hpos : 0 < v.1.length := by omega
      clear hs1 hn0
      go_wp2_with fail
      clear x0 x1 x2 x3 x4 x5 x6 y0 y1 c0 e1 e2 hsl
      revert B KP KV
      generalize ((w.alloc (.cells (ptcells p ⟨Pl, sa, sc, ta, tc⟩) 44)).alloc (.cells (vcells v L) 60)) = V
      intro B KP KV
      have BV0 : Hid (Below V.heap.size V V) := Below.refl _ _
      have HF0 : Hid ((word.take 0).foldl (letStep p v) (some (s0, 0)) = some (s0, 0)) := rfl
      go_loopw [9, 10, 11] (fun x y i wr => ∃ (k : Nat) (s : Int) (nd : Nat), i = .int .i64 k ∧ x = .int .i64 s ∧ y = .int .i64 (nd : Int) ∧ k ≤ word.length ∧ nd < v.1.length ∧ Hid ((word.take k).foldl (letStep p v) (some (s0, 0)) = some (s, nd)) ∧ Hid (Below V.heap.size V wr)) (fun _ _ i _ => word.length - (intOf i).toNat)
      case atStart => exact ⟨0, s0, 0, rfl, rfl, rfl, Nat.zero_le _, hpos, HF0, BV0⟩
      case round =>
        clear BV0 HF0
        obtain ⟨k, s, nd, rfl, rfl, rfl, hk, hnd, HF, BV⟩ := hrel
        by_cases hlt : k < word.length
        · obtain ⟨wb, wo, rfl, hwb, hcw⟩ : ∃ wb wo, wa = some ⟨wb, wo, none⟩ ∧ wb < w.heap.size ∧ Cells w wb wo word := by
            rcases hw.out with h0 | h0
            · rw [h0] at hlt; simp at hlt
            · exact h0
          obtain ⟨e, HE, ce⟩ := hcw.at hlt
          have HEK : Hid (word[k]? = some e) := by show _ = _; rw [HE.out, List.getElem?_eq_getElem hlt]; rfl
          have CELL : Hid (∀ W, Below V.heap.size V W → W.cell? ⟨wb, wo + k, none⟩ = some (.int .i64 e)) := fun W hW => ((B.out.trans (hW.mono B.out.size)).cell (p := ⟨wb, wo + k, none⟩) hwb).trans ce
          have HST : Hid ((word.take (k + 1)).foldl (letStep p v) (some (s0, 0)) = letStep p v (some (s, nd)) e) := by show _ = _; rw [lets_at HEK.out, HF.out]
          clear hcw ce HE
          have SA : Hid (∀ W, Below V.heap.size V W → W.cell? ⟨w.heap.size, 0, none⟩ = some (.int .i64 p.m.st) ∧ W.cell? ⟨w.heap.size, 1, none⟩ = some (.int .i64 p.m.ev) ∧ W.cell? ⟨w.heap.size, 2, none⟩ = some (.slice Pl.a1 p.m.starts.length Pl.c1) ∧ W.cell? ⟨w.heap.size, 3, none⟩ = some (.slice Pl.a2 p.m.arrows.length Pl.c2) ∧ W.cell? ⟨w.heap.size, 4, none⟩ = some (.slice Pl.a3 p.m.ends.length Pl.c3) ∧ W.cell? ⟨wb, wo + k, none⟩ = some (.int .i64 e)) := fun W hW => by
            obtain ⟨y0, y1, y2, y3, y4, y5, y6⟩ := ptcell_at (KP.out.below hW KP.out.lt)
            exact ⟨y0, y1, y2, y3, y4, CELL.out W hW⟩
          have hkI : (k : Int) < (word.length : Int) := by omega
          go_wp2_with fail
          refine wp_region_held_drew (S := fun w' => w'.cell? ⟨w.heap.size, 0, none⟩ = some (.int .i64 p.m.st) ∧ w'.cell? ⟨w.heap.size, 1, none⟩ = some (.int .i64 p.m.ev) ∧ w'.cell? ⟨w.heap.size, 2, none⟩ = some (.slice Pl.a1 p.m.starts.length Pl.c1) ∧ w'.cell? ⟨w.heap.size, 3, none⟩ = some (.slice Pl.a2 p.m.arrows.length Pl.c2) ∧ w'.cell? ⟨w.heap.size, 4, none⟩ = some (.slice Pl.a3 p.m.ends.length Pl.c3) ∧ w'.cell? ⟨wb, wo + k, none⟩ = some (.int .i64 e)) (by kernel_rfl) (SA.out _ BV.out.drew) (fun hS => ?_)
          replace BV : Hid (Below V.heap.size V wr.drew) := BV.out.drew
          revert hS BV
          generalize wr.drew = Y0
          intro hS BV
          refine wpAnyH_take (i := 0) (v := .pointer (some ⟨w.heap.size, 0, none⟩)) rfl (by kernel_rfl) (by kernel_rfl) (by kernel_rfl) (fun _ _ _ h => h) (Or.inl ⟨by kernel_rfl, fun w' hw' => by obtain ⟨q0, q1, q2, q3, q4, q5⟩ := hw'; go_simp⟩) hS ?_
          refine wpAnyH_take (i := 1) (v := .agg #[.int .i64 p.m.st, .int .i64 p.m.ev, .slice Pl.a1 p.m.starts.length Pl.c1, .slice Pl.a2 p.m.arrows.length Pl.c2, .slice Pl.a3 p.m.ends.length Pl.c3]) rfl (by kernel_rfl) (by kernel_rfl) (by kernel_rfl) (fun _ _ _ h => h) (Or.inl ⟨by kernel_rfl, fun w' hw' => by obtain ⟨q0, q1, q2, q3, q4, q5⟩ := hw'; go_simp⟩) hS ?_
          refine wpAnyH_take (i := 2) (v := .int .i64 s) rfl (by kernel_rfl) (by kernel_rfl) (by kernel_rfl) (fun _ _ _ h => h) (Or.inl ⟨by kernel_rfl, fun w' hw' => by obtain ⟨q0, q1, q2, q3, q4, q5⟩ := hw'; go_simp⟩) hS ?_
          refine wpAnyH_take (i := 4) (v := .slice (some ⟨wb, wo, none⟩) word.length wc) rfl (by kernel_rfl) (by kernel_rfl) (by kernel_rfl) (fun _ _ _ h => h) (Or.inl ⟨by kernel_rfl, fun w' hw' => by obtain ⟨q0, q1, q2, q3, q4, q5⟩ := hw'; go_simp⟩) hS ?_
          refine wpAnyH_take (i := 5) (v := .int .i64 k) rfl (by kernel_rfl) (by kernel_rfl) (by kernel_rfl) (fun _ _ _ h => h) (Or.inl ⟨by kernel_rfl, fun w' hw' => by obtain ⟨q0, q1, q2, q3, q4, q5⟩ := hw'; go_simp⟩) hS ?_
          refine wpAnyH_take (i := 6) (v := .pointer (some ⟨wb, wo + k, none⟩)) rfl (by kernel_rfl) (by kernel_rfl) (by kernel_rfl) (fun _ _ _ h => h) (Or.inl ⟨by kernel_rfl, fun w' hw' => by obtain ⟨q0, q1, q2, q3, q4, q5⟩ := hw'; go_simp⟩) hS ?_
          refine wpAnyH_take (i := 7) (v := .int .i64 e) rfl (by kernel_rfl) (by kernel_rfl) (by kernel_rfl) (fun _ _ _ h => h) (Or.inl ⟨by kernel_rfl, fun w' hw' => by obtain ⟨q0, q1, q2, q3, q4, q5⟩ := hw'; go_simp⟩) hS ?_
          simp only [Act.put, List.setIfInBounds_toArray]
          have hb0 : Below Y0.heap.size Y0 (Y0.alloc (.cells #[.int .i64 s] 3)) := (Below.refl _ _).alloc (Nat.le_refl _) _
          have A1 : Hid (At (Y0.alloc (.cells #[.int .i64 s] 3)) (some ⟨Y0.heap.size, 0, none⟩) [s]) := at_one15 Y0 s
          replace BV := Hid.of (BV.out.trans (hb0.mono BV.out.size))
          refine wpAnyH_ready (rs := [3]) (by kernel_rfl) (by simp) ?_
          refine AllReadyH.cons rfl (fun K' hK' => ?_) AllReadyH.nil
          clear hS
          go_simp
          refine hK'.out _ _ (SA.out _ BV.out) (fun hS => ?_)
          clear hK' K' hb0
          revert A1 BV hS
          generalize Y0.alloc (.cells #[.int .i64 s] 3) = Y1
          generalize Y0.heap.size = pb
          intro A1 BV hS
          refine wpAnyH_ready (rs := [8]) (by kernel_rfl) (by simp) ?_
          refine AllReadyH.cons rfl (fun K' hK' => ?_) AllReadyH.nil
          clear hS
          go_simp
          refine (refStep_own p.m Pl (some ⟨pb, 0, none⟩) 1 [s] e Y1 (h.out.m.a.below (B.out.trans (BV.out.mono B.out.size)) (Nat.le_refl _)) (Nat.le_trans hal.out (by decide)) A1.out (by simp; unfold maxLen; omega)).mono ?_
          rintro e' Y2 ⟨lv, rfl, ol, hb1⟩
          obtain ⟨SL, HSL⟩ : ∃ SL, Hid (SL = stepL p.m.arrows [s] e) := ⟨_, rfl⟩
          rw [← HSL.out] at ol
          obtain ⟨la, lc, hlv, lat, lln⟩ := ol.at
          subst hlv
          have LA := Hid.of lat
          replace BV := Hid.of (BV.out.trans (hb1.mono BV.out.size))
          refine hK'.out _ _ (SA.out _ BV.out) (fun hS => ?_)
          clear hK' K' hb1 ol lat lln A1
          refine wpAnyH_take (i := 9) (v := .slice la SL.length lc) rfl (by kernel_rfl) (by kernel_rfl) (by kernel_rfl) (fun _ _ _ h => h) (Or.inl ⟨by kernel_rfl, fun w' hw' => by obtain ⟨q0, q1, q2, q3, q4, q5⟩ := hw'; go_simp⟩) hS ?_
          refine wpAnyH_done (by kernel_rfl) ?_ _
          clear hS SA
          by_cases h1 : SL.length = 1
          · obtain ⟨t, ht⟩ : ∃ t, SL = [t] := ⟨_, one_of h1⟩
            subst ht
            have H1 : Hid ((stepL p.m.arrows [s] e).length = 1 ∧ (stepL p.m.arrows [s] e)[0]?.getD 0 = t) := by show _ ∧ _; rw [← HSL.out]; exact ⟨rfl, rfl⟩
            clear h1
            have SB11 : Hid (∀ W, Below V.heap.size V W → W.cell? ⟨w.heap.size, 5, none⟩ = some (.slice sa p.seen.length sc) ∧ W.cell? ⟨wb, wo + k, none⟩ = some (.int .i64 e)) := fun W hW => ⟨(KP.out.below hW KP.out.lt).cell 5 rfl, CELL.out W hW⟩
            go_wp2_with fail
            refine wp_region_held_drew (S := fun w' => w'.cell? ⟨w.heap.size, 5, none⟩ = some (.slice sa p.seen.length sc) ∧ w'.cell? ⟨wb, wo + k, none⟩ = some (.int .i64 e)) (by kernel_rfl) (SB11.out _ BV.out.drew) (fun hS => ?_)
            replace BV : Hid (Below V.heap.size V Y2.drew) := BV.out.drew
            replace LA : Hid (At Y2.drew la [t]) := LA.out
            revert hS BV LA
            generalize Y2.drew = Y3
            intro hS BV LA
            refine wpAnyH_take (i := 0) (v := .pointer (some ⟨w.heap.size, 5, none⟩)) rfl (by kernel_rfl) (by kernel_rfl) (by kernel_rfl) (fun _ _ _ h => h) (Or.inl ⟨by kernel_rfl, fun w' hw' => by obtain ⟨q0, q1⟩ := hw'; go_simp⟩) hS ?_
            refine wpAnyH_take (i := 1) (v := .slice sa p.seen.length sc) rfl (by kernel_rfl) (by kernel_rfl) (by kernel_rfl) (fun _ _ _ h => h) (Or.inl ⟨by kernel_rfl, fun w' hw' => by obtain ⟨q0, q1⟩ := hw'; go_simp⟩) hS ?_
            refine wpAnyH_take (i := 2) (v := .slice (some ⟨wb, wo, none⟩) word.length wc) rfl (by kernel_rfl) (by kernel_rfl) (by kernel_rfl) (fun _ _ _ h => h) (Or.inl ⟨by kernel_rfl, fun w' hw' => by obtain ⟨q0, q1⟩ := hw'; go_simp⟩) hS ?_
            refine wpAnyH_take (i := 3) (v := .int .i64 k) rfl (by kernel_rfl) (by kernel_rfl) (by kernel_rfl) (fun _ _ _ h => h) (Or.inl ⟨by kernel_rfl, fun w' hw' => by obtain ⟨q0, q1⟩ := hw'; go_simp⟩) hS ?_
            refine wpAnyH_take (i := 4) (v := .pointer (some ⟨wb, wo + k, none⟩)) rfl (by kernel_rfl) (by kernel_rfl) (by kernel_rfl) (fun _ _ _ h => h) (Or.inl ⟨by kernel_rfl, fun w' hw' => by obtain ⟨q0, q1⟩ := hw'; go_simp⟩) hS ?_
            refine wpAnyH_take (i := 5) (v := .int .i64 e) rfl (by kernel_rfl) (by kernel_rfl) (by kernel_rfl) (fun _ _ _ h => h) (Or.inl ⟨by kernel_rfl, fun w' hw' => by obtain ⟨q0, q1⟩ := hw'; go_simp⟩) hS ?_
            simp only [Act.put, List.setIfInBounds_toArray]
            refine wpAnyH_ready (rs := [6]) (by kernel_rfl) (by simp) ?_
            refine AllReadyH.cons rfl (fun K' hK' => ?_) AllReadyH.nil
            clear hS
            go_simp
            refine (refHas_any sa sc p.seen e Y3 (h.out.s.at_.below (B.out.trans (BV.out.mono B.out.size)) (Nat.le_refl _)) h.out.s.len).mono ?_
            rintro e' Y4 ⟨rfl, rfl⟩
            refine hK'.out _ _ (SB11.out _ BV.out) (fun hS => ?_)
            clear hK' K'
            refine wpAnyH_done (by kernel_rfl) ?_ _
            clear hS SB11
            cases hse : hasB p.seen e with
            | false =>
              have HN : Hid ((word.take (k + 1)).foldl (letStep p v) (some (s0, 0)) = some (t, nd)) := by
                show _ = _
                rw [HST.out]
                show (if (stepL p.m.arrows [s] e).length = 1 then _ else _) = _
                rw [if_pos H1.out.1, if_neg (by rw [hse]; simp), H1.out.2]
              obtain ⟨tb, to, rfl, -, hct⟩ : ∃ b off, la = some ⟨b, off, none⟩ ∧ b < Y4.heap.size ∧ Cells Y4 b off [t] := by
                rcases LA.out with h0 | h0
                · cases h0
                · exact h0
              have ct : Y4.cell? ⟨tb, to, none⟩ = some (.int .i64 t) := by have := hct 0 (by simp); simpa using this
              clear hct hse LA
              go_wp2_with fail
              go_roundw
              case rel => exact ⟨k + 1, t, nd, by go_num, rfl, rfl, by omega, hnd, HN, BV⟩
              case measure => simp [intOf]; omega
            | true =>
              have HLS : Hid (letStep p v (some (s, nd)) e = match mvF v.2 nd e with
                | none => none
                | some m => if (hasB m.st s && decide (m.to < v.1.length)) = true then some (t, m.to) else none) := by
                show (if (stepL p.m.arrows [s] e).length = 1 then _ else _) = _
                rw [if_pos H1.out.1, if_pos hse, H1.out.2]
                cases mvF v.2 nd e <;> rfl
              clear hse
              cases hmf : mvF v.2 nd e with
              | none =>
                have HMF := Hid.of hmf
                have HEND : Hid (letsV p v word = none) := by
                  show _ = _
                  rw [HLV.out]
                  exact lets_stop _ (by rw [HST.out, HLS.out, hmf])
                clear hmf
                have SB12 : Hid (∀ W, Below V.heap.size V W → W.cell? ⟨w.heap.size + 1, 0, none⟩ = some (.slice L.na v.1.length L.nc) ∧ W.cell? ⟨w.heap.size + 1, 1, none⟩ = some (.slice L.ma v.2.length L.mc) ∧ W.cell? ⟨wb, wo + k, none⟩ = some (.int .i64 e)) := fun W hW => by
                  obtain ⟨y0, y1⟩ := vcell_at (KV.out.below hW KV.out.lt)
                  exact ⟨y0, y1, CELL.out W hW⟩
                go_wp2_with fail
                refine wp_region_held_drew (S := fun w' => w'.cell? ⟨w.heap.size + 1, 0, none⟩ = some (.slice L.na v.1.length L.nc) ∧ w'.cell? ⟨w.heap.size + 1, 1, none⟩ = some (.slice L.ma v.2.length L.mc) ∧ w'.cell? ⟨wb, wo + k, none⟩ = some (.int .i64 e)) (by kernel_rfl) (SB12.out _ BV.out.drew) (fun hS => ?_)
                replace BV : Hid (Below V.heap.size V Y4.drew) := BV.out.drew
                replace LA : Hid (At Y4.drew la [t]) := LA.out
                revert hS BV LA
                generalize Y4.drew = Y0
                intro hS BV LA
                refine wpAnyH_take (i := 0) (v := vval v L) rfl (by kernel_rfl) (by kernel_rfl) (by kernel_rfl) (fun _ _ _ h => h) (Or.inl ⟨by kernel_rfl, fun w' hw' => by obtain ⟨q0, q1, q2⟩ := hw'; go_simp⟩) hS ?_
                refine wpAnyH_take (i := 1) (v := .int .i64 (nd : Int)) rfl (by kernel_rfl) (by kernel_rfl) (by kernel_rfl) (fun _ _ _ h => h) (Or.inl ⟨by kernel_rfl, fun w' hw' => by obtain ⟨q0, q1, q2⟩ := hw'; go_simp⟩) hS ?_
                refine wpAnyH_take (i := 2) (v := .slice (some ⟨wb, wo, none⟩) word.length wc) rfl (by kernel_rfl) (by kernel_rfl) (by kernel_rfl) (fun _ _ _ h => h) (Or.inl ⟨by kernel_rfl, fun w' hw' => by obtain ⟨q0, q1, q2⟩ := hw'; go_simp⟩) hS ?_
                refine wpAnyH_take (i := 3) (v := .int .i64 k) rfl (by kernel_rfl) (by kernel_rfl) (by kernel_rfl) (fun _ _ _ h => h) (Or.inl ⟨by kernel_rfl, fun w' hw' => by obtain ⟨q0, q1, q2⟩ := hw'; go_simp⟩) hS ?_
                refine wpAnyH_take (i := 4) (v := .pointer (some ⟨wb, wo + k, none⟩)) rfl (by kernel_rfl) (by kernel_rfl) (by kernel_rfl) (fun _ _ _ h => h) (Or.inl ⟨by kernel_rfl, fun w' hw' => by obtain ⟨q0, q1, q2⟩ := hw'; go_simp⟩) hS ?_
                refine wpAnyH_take (i := 5) (v := .int .i64 e) rfl (by kernel_rfl) (by kernel_rfl) (by kernel_rfl) (fun _ _ _ h => h) (Or.inl ⟨by kernel_rfl, fun w' hw' => by obtain ⟨q0, q1, q2⟩ := hw'; go_simp⟩) hS ?_
                simp only [Act.put, List.setIfInBounds_toArray]
                refine wpAnyH_ready (rs := [6, 10]) (by kernel_rfl) (by simp) ?_
                refine AllReadyH.cons rfl (fun K' hK' => ?_) (AllReadyH.cons rfl (fun K' hK' => ?_) AllReadyH.nil)
                · clear hS
                  go_simp
                  refine (rmove_any w v L nd e Y0 (Hid.of (B.out.trans (BV.out.mono B.out.size))) hV).mono ?_
                  intro r Y11 hmp
                  unfold MovePost at hmp
                  rw [HMF.out] at hmp
                  obtain ⟨rfl, hb⟩ := hmp
                  replace BV := Hid.of (BV.out.trans (hb.mono BV.out.size))
                  refine hK'.out _ _ (SB12.out _ BV.out) (fun hS => ?_)
                  clear hK' K' hb
                  refine wpAnyH_take (i := 7) (v := .tuple #[.agg (mvarr 0 0 none 0 0 0), .bool false]) rfl (by kernel_rfl) (by kernel_rfl) (by kernel_rfl) (fun _ _ _ h => h) (Or.inl ⟨by kernel_rfl, fun w' hw' => by obtain ⟨q0, q1, q2⟩ := hw'; go_simp⟩) hS ?_
                  refine wpAnyH_take (i := 8) (v := .agg (mvarr 0 0 none 0 0 0)) rfl (by kernel_rfl) (by kernel_rfl) (by kernel_rfl) (fun _ _ _ h => h) (Or.inl ⟨by kernel_rfl, fun w' hw' => by obtain ⟨q0, q1, q2⟩ := hw'; go_simp⟩) hS ?_
                  refine wpAnyH_take (i := 9) (v := .bool false) rfl (by kernel_rfl) (by kernel_rfl) (by kernel_rfl) (fun _ _ _ h => h) (Or.inl ⟨by kernel_rfl, fun w' hw' => by obtain ⟨q0, q1, q2⟩ := hw'; go_simp⟩) hS ?_
                  refine wpAnyH_ready (rs := [10]) (by kernel_rfl) (by simp) ?_
                  refine AllReadyH.cons rfl (fun K' hK' => ?_) AllReadyH.nil
                  clear hS
                  go_simp
                  have hb : Below Y11.heap.size Y11 (Y11.alloc (.cells (mvarr 0 0 none 0 0 0) 67)) := (Below.refl _ _).alloc (Nat.le_refl _) _
                  have P13 : Hid (V.heap.size ≤ Y11.heap.size) := BV.out.size
                  replace BV := Hid.of (BV.out.trans (hb.mono BV.out.size))
                  have K13 : Hid (Blk (Y11.alloc (.cells (mvarr 0 0 none 0 0 0) 67)) Y11.heap.size 67 (mvarr 0 0 none 0 0 0)) := Blk.new Y11 _ _
                  refine hK'.out _ _ (SB12.out _ BV.out) (fun hS => ?_)
                  clear hK' K' hb
                  revert P13 BV K13 hS
                  generalize Y11.alloc (.cells (mvarr 0 0 none 0 0 0) 67) = Y12
                  generalize Y11.heap.size = pm
                  intro P13 BV K13 hS
                  refine wpAnyH_ready (rs := [11]) (by kernel_rfl) (by simp) ?_
                  refine AllReadyH.cons rfl (fun K' hK' => ?_) AllReadyH.nil
                  clear hS
                  have fz := K13.out.frozen
                  obtain ⟨r0, r1, r2, r3⟩ := mvcell_at K13.out
                  go_simp
                  have BV2 := Hid.of (below_setm BV.out (b' := pm) P13.out (.int .i64 0) (.int .i64 0) (.slice none 0 0) (.int .i64 0))
                  have KM := Hid.of (blk_mv K13.out 0 0 0 none 0 0)
                  refine hK'.out _ _ (SB12.out _ BV2.out) (fun hS => ?_)
                  clear hK' K' fz r0 r1 r2 r3
                  refine wpAnyH_take (i := 12) (v := .bool false) rfl (by kernel_rfl) (by kernel_rfl) (by kernel_rfl) (fun _ _ _ h => h) (Or.inl ⟨by kernel_rfl, fun w' hw' => by obtain ⟨q0, q1, q2⟩ := hw'; go_simp⟩) hS ?_
                  refine wpAnyH_done (by kernel_rfl) ?_ _
                  clear hS
                  obtain ⟨r0, r1, r2, r3⟩ := mvcell_at KM.out
                  obtain ⟨y0, y1⟩ := vcell_at (KV.out.below BV2.out KV.out.lt)
                  go_wp2_with fail
                  refine bodyPost_ret (v := .tuple #[.int .i64 0, .int .i64 0, .bool false]) (by simp [results, go_sem]) rfl ?_
                  rw [HEND.out]
                  exact ⟨rfl, B.out.trans (BV2.out.mono B.out.size)⟩
                · clear hS
                  go_simp
                  have hb : Below Y0.heap.size Y0 (Y0.alloc (.cells (mvarr 0 0 none 0 0 0) 67)) := (Below.refl _ _).alloc (Nat.le_refl _) _
                  have P13 : Hid (V.heap.size ≤ Y0.heap.size) := BV.out.size
                  replace BV := Hid.of (BV.out.trans (hb.mono BV.out.size))
                  have K13 : Hid (Blk (Y0.alloc (.cells (mvarr 0 0 none 0 0 0) 67)) Y0.heap.size 67 (mvarr 0 0 none 0 0 0)) := Blk.new Y0 _ _
                  refine hK'.out _ _ (SB12.out _ BV.out) (fun hS => ?_)
                  clear hK' K' hb
                  revert P13 BV K13 hS
                  generalize Y0.alloc (.cells (mvarr 0 0 none 0 0 0) 67) = Y13
                  generalize Y0.heap.size = pm
                  intro P13 BV K13 hS
                  refine wpAnyH_ready (rs := [6]) (by kernel_rfl) (by simp) ?_
                  refine AllReadyH.cons rfl (fun K' hK' => ?_) AllReadyH.nil
                  clear hS
                  go_simp
                  refine (rmove_any w v L nd e Y13 (Hid.of (B.out.trans (BV.out.mono B.out.size))) hV).mono ?_
                  intro r Y14 hmp
                  unfold MovePost at hmp
                  rw [HMF.out] at hmp
                  obtain ⟨rfl, hb⟩ := hmp
                  replace BV := Hid.of (BV.out.trans (hb.mono BV.out.size))
                  replace K13 := Hid.of (K13.out.below hb K13.out.lt)
                  refine hK'.out _ _ (SB12.out _ BV.out) (fun hS => ?_)
                  clear hK' K' hb
                  refine wpAnyH_take (i := 7) (v := .tuple #[.agg (mvarr 0 0 none 0 0 0), .bool false]) rfl (by kernel_rfl) (by kernel_rfl) (by kernel_rfl) (fun _ _ _ h => h) (Or.inl ⟨by kernel_rfl, fun w' hw' => by obtain ⟨q0, q1, q2⟩ := hw'; go_simp⟩) hS ?_
                  refine wpAnyH_take (i := 8) (v := .agg (mvarr 0 0 none 0 0 0)) rfl (by kernel_rfl) (by kernel_rfl) (by kernel_rfl) (fun _ _ _ h => h) (Or.inl ⟨by kernel_rfl, fun w' hw' => by obtain ⟨q0, q1, q2⟩ := hw'; go_simp⟩) hS ?_
                  refine wpAnyH_take (i := 9) (v := .bool false) rfl (by kernel_rfl) (by kernel_rfl) (by kernel_rfl) (fun _ _ _ h => h) (Or.inl ⟨by kernel_rfl, fun w' hw' => by obtain ⟨q0, q1, q2⟩ := hw'; go_simp⟩) hS ?_
                  refine wpAnyH_ready (rs := [11]) (by kernel_rfl) (by simp) ?_
                  refine AllReadyH.cons rfl (fun K' hK' => ?_) AllReadyH.nil
                  clear hS
                  have fz := K13.out.frozen
                  obtain ⟨r0, r1, r2, r3⟩ := mvcell_at K13.out
                  go_simp
                  have BV2 := Hid.of (below_setm BV.out (b' := pm) P13.out (.int .i64 0) (.int .i64 0) (.slice none 0 0) (.int .i64 0))
                  have KM := Hid.of (blk_mv K13.out 0 0 0 none 0 0)
                  refine hK'.out _ _ (SB12.out _ BV2.out) (fun hS => ?_)
                  clear hK' K' fz r0 r1 r2 r3
                  refine wpAnyH_take (i := 12) (v := .bool false) rfl (by kernel_rfl) (by kernel_rfl) (by kernel_rfl) (fun _ _ _ h => h) (Or.inl ⟨by kernel_rfl, fun w' hw' => by obtain ⟨q0, q1, q2⟩ := hw'; go_simp⟩) hS ?_
                  refine wpAnyH_done (by kernel_rfl) ?_ _
                  clear hS
                  obtain ⟨r0, r1, r2, r3⟩ := mvcell_at KM.out
                  obtain ⟨y0, y1⟩ := vcell_at (KV.out.below BV2.out KV.out.lt)
                  go_wp2_with fail
                  refine bodyPost_ret (v := .tuple #[.int .i64 0, .int .i64 0, .bool false]) (by simp [results, go_sem]) rfl ?_
                  rw [HEND.out]
                  exact ⟨rfl, B.out.trans (BV2.out.mono B.out.size)⟩
              | some m =>
                have HMF := Hid.of hmf
                have HLM : Hid (letStep p v (some (s, nd)) e = if (hasB m.st s && decide (m.to < v.1.length)) = true then some (t, m.to) else none) := by show _ = _; rw [HLS.out, hmf]
                clear hmf HLS
                have SB12 : Hid (∀ W, Below V.heap.size V W → W.cell? ⟨w.heap.size + 1, 0, none⟩ = some (.slice L.na v.1.length L.nc) ∧ W.cell? ⟨w.heap.size + 1, 1, none⟩ = some (.slice L.ma v.2.length L.mc) ∧ W.cell? ⟨wb, wo + k, none⟩ = some (.int .i64 e)) := fun W hW => by
                  obtain ⟨y0, y1⟩ := vcell_at (KV.out.below hW KV.out.lt)
                  exact ⟨y0, y1, CELL.out W hW⟩
                go_wp2_with fail
                refine wp_region_held_drew (S := fun w' => w'.cell? ⟨w.heap.size + 1, 0, none⟩ = some (.slice L.na v.1.length L.nc) ∧ w'.cell? ⟨w.heap.size + 1, 1, none⟩ = some (.slice L.ma v.2.length L.mc) ∧ w'.cell? ⟨wb, wo + k, none⟩ = some (.int .i64 e)) (by kernel_rfl) (SB12.out _ BV.out.drew) (fun hS => ?_)
                replace BV : Hid (Below V.heap.size V Y4.drew) := BV.out.drew
                replace LA : Hid (At Y4.drew la [t]) := LA.out
                revert hS BV LA
                generalize Y4.drew = Y0
                intro hS BV LA
                obtain ⟨NB, HNB, HNB2, LAB⟩ : ∃ NB, Hid (Y0.heap.size ≤ NB) ∧ Hid (NB ≤ Y0.heap.size) ∧ Hid (Below NB Y0 Y0) := ⟨_, Nat.le_refl _, Nat.le_refl _, Below.refl _ _⟩
                refine wpAnyH_take (i := 0) (v := vval v L) rfl (by kernel_rfl) (by kernel_rfl) (by kernel_rfl) (fun _ _ _ h => h) (Or.inl ⟨by kernel_rfl, fun w' hw' => by obtain ⟨q0, q1, q2⟩ := hw'; go_simp⟩) hS ?_
                refine wpAnyH_take (i := 1) (v := .int .i64 (nd : Int)) rfl (by kernel_rfl) (by kernel_rfl) (by kernel_rfl) (fun _ _ _ h => h) (Or.inl ⟨by kernel_rfl, fun w' hw' => by obtain ⟨q0, q1, q2⟩ := hw'; go_simp⟩) hS ?_
                refine wpAnyH_take (i := 2) (v := .slice (some ⟨wb, wo, none⟩) word.length wc) rfl (by kernel_rfl) (by kernel_rfl) (by kernel_rfl) (fun _ _ _ h => h) (Or.inl ⟨by kernel_rfl, fun w' hw' => by obtain ⟨q0, q1, q2⟩ := hw'; go_simp⟩) hS ?_
                refine wpAnyH_take (i := 3) (v := .int .i64 k) rfl (by kernel_rfl) (by kernel_rfl) (by kernel_rfl) (fun _ _ _ h => h) (Or.inl ⟨by kernel_rfl, fun w' hw' => by obtain ⟨q0, q1, q2⟩ := hw'; go_simp⟩) hS ?_
                refine wpAnyH_take (i := 4) (v := .pointer (some ⟨wb, wo + k, none⟩)) rfl (by kernel_rfl) (by kernel_rfl) (by kernel_rfl) (fun _ _ _ h => h) (Or.inl ⟨by kernel_rfl, fun w' hw' => by obtain ⟨q0, q1, q2⟩ := hw'; go_simp⟩) hS ?_
                refine wpAnyH_take (i := 5) (v := .int .i64 e) rfl (by kernel_rfl) (by kernel_rfl) (by kernel_rfl) (fun _ _ _ h => h) (Or.inl ⟨by kernel_rfl, fun w' hw' => by obtain ⟨q0, q1, q2⟩ := hw'; go_simp⟩) hS ?_
                simp only [Act.put, List.setIfInBounds_toArray]
                refine wpAnyH_ready (rs := [6, 10]) (by kernel_rfl) (by simp) ?_
                refine AllReadyH.cons rfl (fun K' hK' => ?_) (AllReadyH.cons rfl (fun K' hK' => ?_) AllReadyH.nil)
                · clear hS
                  go_simp
                  refine (rmove_any w v L nd e Y0 (Hid.of (B.out.trans (BV.out.mono B.out.size))) hV).mono ?_
                  intro r Y11 hmp
                  unfold MovePost at hmp
                  rw [HMF.out] at hmp
                  obtain ⟨ya, yc, rfl, hma, hml, hb⟩ := hmp
                  replace BV := Hid.of (BV.out.trans (hb.mono BV.out.size))
                  replace LAB := Hid.of (LAB.out.trans (hb.mono (Nat.le_trans HNB2.out LAB.out.size)))
                  have MA := Hid.of hma
                  have ML := Hid.of hml
                  refine hK'.out _ _ (SB12.out _ BV.out) (fun hS => ?_)
                  clear hK' K' hb hma hml
                  refine wpAnyH_take (i := 7) (v := .tuple #[.agg (mvarr (m.nd : Int) m.ev ya m.st.length yc (m.to : Int)), .bool true]) rfl (by kernel_rfl) (by kernel_rfl) (by kernel_rfl) (fun _ _ _ h => h) (Or.inl ⟨by kernel_rfl, fun w' hw' => by obtain ⟨q0, q1, q2⟩ := hw'; go_simp⟩) hS ?_
                  refine wpAnyH_take (i := 8) (v := .agg (mvarr (m.nd : Int) m.ev ya m.st.length yc (m.to : Int))) rfl (by kernel_rfl) (by kernel_rfl) (by kernel_rfl) (fun _ _ _ h => h) (Or.inl ⟨by kernel_rfl, fun w' hw' => by obtain ⟨q0, q1, q2⟩ := hw'; go_simp⟩) hS ?_
                  refine wpAnyH_take (i := 9) (v := .bool true) rfl (by kernel_rfl) (by kernel_rfl) (by kernel_rfl) (fun _ _ _ h => h) (Or.inl ⟨by kernel_rfl, fun w' hw' => by obtain ⟨q0, q1, q2⟩ := hw'; go_simp⟩) hS ?_
                  refine wpAnyH_ready (rs := [10]) (by kernel_rfl) (by simp) ?_
                  refine AllReadyH.cons rfl (fun K' hK' => ?_) AllReadyH.nil
                  clear hS
                  go_simp
                  have hb : Below Y11.heap.size Y11 (Y11.alloc (.cells (mvarr 0 0 none 0 0 0) 67)) := (Below.refl _ _).alloc (Nat.le_refl _) _
                  have P13 : Hid (V.heap.size ≤ Y11.heap.size) := BV.out.size
                  have PL13 : Hid (NB ≤ Y11.heap.size) := Nat.le_trans HNB2.out LAB.out.size
                  replace BV := Hid.of (BV.out.trans (hb.mono BV.out.size))
                  replace LAB := Hid.of (LAB.out.trans (hb.mono (Nat.le_trans HNB2.out LAB.out.size)))
                  have K13 : Hid (Blk (Y11.alloc (.cells (mvarr 0 0 none 0 0 0) 67)) Y11.heap.size 67 (mvarr 0 0 none 0 0 0)) := Blk.new Y11 _ _
                  refine hK'.out _ _ (SB12.out _ BV.out) (fun hS => ?_)
                  clear hK' K' hb
                  revert P13 PL13 BV LAB K13 hS
                  generalize Y11.alloc (.cells (mvarr 0 0 none 0 0 0) 67) = Y12
                  generalize Y11.heap.size = pm
                  intro P13 PL13 BV LAB K13 hS
                  refine wpAnyH_ready (rs := [11]) (by kernel_rfl) (by simp) ?_
                  refine AllReadyH.cons rfl (fun K' hK' => ?_) AllReadyH.nil
                  clear hS
                  have fz := K13.out.frozen
                  obtain ⟨r0, r1, r2, r3⟩ := mvcell_at K13.out
                  go_simp
                  have BV2 := Hid.of (below_setm BV.out (b' := pm) P13.out (.int .i64 (m.nd : Int)) (.int .i64 m.ev) (.slice ya m.st.length yc) (.int .i64 (m.to : Int)))
                  have KM := Hid.of (blk_mv K13.out (m.nd : Int) m.ev (m.to : Int) ya m.st.length yc)
                  have LAB2 := Hid.of (below_setm LAB.out (b' := pm) PL13.out (.int .i64 (m.nd : Int)) (.int .i64 m.ev) (.slice ya m.st.length yc) (.int .i64 (m.to : Int)))
                  refine hK'.out _ _ (SB12.out _ BV2.out) (fun hS => ?_)
                  clear hK' K' fz r0 r1 r2 r3
                  refine wpAnyH_take (i := 12) (v := .bool true) rfl (by kernel_rfl) (by kernel_rfl) (by kernel_rfl) (fun _ _ _ h => h) (Or.inl ⟨by kernel_rfl, fun w' hw' => by obtain ⟨q0, q1, q2⟩ := hw'; go_simp⟩) hS ?_
                  refine wpAnyH_done (by kernel_rfl) ?_ _
                  clear hS
                  have CX := Hid.of (MA.out.below (B.out.trans (BV2.out.mono B.out.size)) (Nat.le_refl _))
                  obtain ⟨r0, r1, r2, r3⟩ := mvcell_at KM.out
                  obtain ⟨y0, y1⟩ := vcell_at (KV.out.below BV2.out KV.out.lt)
                  go_wp2_with fail
                  refine (refHas_any ya yc m.st s _ CX.out ML.out).mono ?_
                  rintro e' Y9 ⟨rfl, rfl⟩
                  cases hh : hasB m.st s with
                  | false =>
                    have HEND : Hid (letsV p v word = none) := by
                      show _ = _
                      rw [HLV.out]
                      exact lets_stop _ (by rw [HST.out, HLM.out, hh]; rfl)
                    clear hh
                    go_wp2_with fail
                    refine bodyPost_ret (v := .tuple #[.int .i64 0, .int .i64 0, .bool false]) (by simp [results, go_sem]) rfl ?_
                    rw [HEND.out]
                    exact ⟨rfl, B.out.trans (BV2.out.mono B.out.size)⟩
                  | true =>
                    by_cases hto : m.to < v.1.length
                    · have HN : Hid ((word.take (k + 1)).foldl (letStep p v) (some (s0, 0)) = some (t, m.to)) := by
                        show _ = _
                        rw [HST.out, HLM.out, hh, decide_eq_true hto]; rfl
                      have LA2 := Hid.of (LA.out.below LAB2.out HNB.out)
                      obtain ⟨tb, to, rfl, -, hct⟩ : ∃ b off, la = some ⟨b, off, none⟩ ∧ b < _ ∧ Cells _ b off [t] := by
                        rcases LA2.out with h0 | h0
                        · cases h0
                        · exact h0
                      have ct := hct 0 (by simp)
                      simp only [Nat.add_zero, List.getD_cons_zero] at ct
                      have d1 : decide ((((m.to : Nat) : Int)) < 0) = false := by simp
                      have d2 : decide (((v.1.length : Nat) : Int) ≤ ((m.to : Nat) : Int)) = false := by simp; omega
                      clear hct hh
                      go_wp2_with fail
                      go_roundw
                      case rel => exact ⟨k + 1, t, m.to, by go_num, rfl, rfl, by omega, hto, HN, BV2⟩
                      case measure => simp [intOf]; omega
                    · have HEND : Hid (letsV p v word = none) := by
                        show _ = _
                        rw [HLV.out]
                        exact lets_stop _ (by rw [HST.out, HLM.out, hh, decide_eq_false hto]; rfl)
                      have d1 : decide ((((m.to : Nat) : Int)) < 0) = false := by simp
                      have d2 : decide (((v.1.length : Nat) : Int) ≤ ((m.to : Nat) : Int)) = true := by simp; omega
                      have hle : v.1.length ≤ m.to := by omega
                      clear hh hto
                      go_wp2_with fail
                      refine bodyPost_ret (v := .tuple #[.int .i64 0, .int .i64 0, .bool false]) (by simp [results, go_sem]) rfl ?_
                      rw [HEND.out]
                      exact ⟨rfl, B.out.trans (BV2.out.mono B.out.size)⟩
                · clear hS
                  go_simp
                  have hb : Below Y0.heap.size Y0 (Y0.alloc (.cells (mvarr 0 0 none 0 0 0) 67)) := (Below.refl _ _).alloc (Nat.le_refl _) _
                  have P13 : Hid (V.heap.size ≤ Y0.heap.size) := BV.out.size
                  have PL13 : Hid (NB ≤ Y0.heap.size) := Nat.le_trans HNB2.out LAB.out.size
                  replace BV := Hid.of (BV.out.trans (hb.mono BV.out.size))
                  replace LAB := Hid.of (LAB.out.trans (hb.mono (Nat.le_trans HNB2.out LAB.out.size)))
                  have K13 : Hid (Blk (Y0.alloc (.cells (mvarr 0 0 none 0 0 0) 67)) Y0.heap.size 67 (mvarr 0 0 none 0 0 0)) := Blk.new Y0 _ _
                  refine hK'.out _ _ (SB12.out _ BV.out) (fun hS => ?_)
                  clear hK' K' hb
                  revert P13 PL13 BV LAB K13 hS
                  generalize Y0.alloc (.cells (mvarr 0 0 none 0 0 0) 67) = Y13
                  generalize Y0.heap.size = pm
                  intro P13 PL13 BV LAB K13 hS
                  refine wpAnyH_ready (rs := [6]) (by kernel_rfl) (by simp) ?_
                  refine AllReadyH.cons rfl (fun K' hK' => ?_) AllReadyH.nil
                  clear hS
                  go_simp
                  refine (rmove_any w v L nd e Y13 (Hid.of (B.out.trans (BV.out.mono B.out.size))) hV).mono ?_
                  intro r Y14 hmp
                  unfold MovePost at hmp
                  rw [HMF.out] at hmp
                  obtain ⟨ya, yc, rfl, hma, hml, hb⟩ := hmp
                  replace BV := Hid.of (BV.out.trans (hb.mono BV.out.size))
                  replace K13 := Hid.of (K13.out.below hb K13.out.lt)
                  replace LAB := Hid.of (LAB.out.trans (hb.mono (Nat.le_trans HNB2.out LAB.out.size)))
                  have MA := Hid.of hma
                  have ML := Hid.of hml
                  refine hK'.out _ _ (SB12.out _ BV.out) (fun hS => ?_)
                  clear hK' K' hb hma hml
                  refine wpAnyH_take (i := 7) (v := .tuple #[.agg (mvarr (m.nd : Int) m.ev ya m.st.length yc (m.to : Int)), .bool true]) rfl (by kernel_rfl) (by kernel_rfl) (by kernel_rfl) (fun _ _ _ h => h) (Or.inl ⟨by kernel_rfl, fun w' hw' => by obtain ⟨q0, q1, q2⟩ := hw'; go_simp⟩) hS ?_
                  refine wpAnyH_take (i := 8) (v := .agg (mvarr (m.nd : Int) m.ev ya m.st.length yc (m.to : Int))) rfl (by kernel_rfl) (by kernel_rfl) (by kernel_rfl) (fun _ _ _ h => h) (Or.inl ⟨by kernel_rfl, fun w' hw' => by obtain ⟨q0, q1, q2⟩ := hw'; go_simp⟩) hS ?_
                  refine wpAnyH_take (i := 9) (v := .bool true) rfl (by kernel_rfl) (by kernel_rfl) (by kernel_rfl) (fun _ _ _ h => h) (Or.inl ⟨by kernel_rfl, fun w' hw' => by obtain ⟨q0, q1, q2⟩ := hw'; go_simp⟩) hS ?_
                  refine wpAnyH_ready (rs := [11]) (by kernel_rfl) (by simp) ?_
                  refine AllReadyH.cons rfl (fun K' hK' => ?_) AllReadyH.nil
                  clear hS
                  have fz := K13.out.frozen
                  obtain ⟨r0, r1, r2, r3⟩ := mvcell_at K13.out
                  go_simp
                  have BV2 := Hid.of (below_setm BV.out (b' := pm) P13.out (.int .i64 (m.nd : Int)) (.int .i64 m.ev) (.slice ya m.st.length yc) (.int .i64 (m.to : Int)))
                  have KM := Hid.of (blk_mv K13.out (m.nd : Int) m.ev (m.to : Int) ya m.st.length yc)
                  have LAB2 := Hid.of (below_setm LAB.out (b' := pm) PL13.out (.int .i64 (m.nd : Int)) (.int .i64 m.ev) (.slice ya m.st.length yc) (.int .i64 (m.to : Int)))
                  refine hK'.out _ _ (SB12.out _ BV2.out) (fun hS => ?_)
                  clear hK' K' fz r0 r1 r2 r3
                  refine wpAnyH_take (i := 12) (v := .bool true) rfl (by kernel_rfl) (by kernel_rfl) (by kernel_rfl) (fun _ _ _ h => h) (Or.inl ⟨by kernel_rfl, fun w' hw' => by obtain ⟨q0, q1, q2⟩ := hw'; go_simp⟩) hS ?_
                  refine wpAnyH_done (by kernel_rfl) ?_ _
                  clear hS
                  have CX := Hid.of (MA.out.below (B.out.trans (BV2.out.mono B.out.size)) (Nat.le_refl _))
                  obtain ⟨r0, r1, r2, r3⟩ := mvcell_at KM.out
                  obtain ⟨y0, y1⟩ := vcell_at (KV.out.below BV2.out KV.out.lt)
                  go_wp2_with fail
                  refine (refHas_any ya yc m.st s _ CX.out ML.out).mono ?_
                  rintro e' Y9 ⟨rfl, rfl⟩
                  cases hh : hasB m.st s with
                  | false =>
                    have HEND : Hid (letsV p v word = none) := by
                      show _ = _
                      rw [HLV.out]
                      exact lets_stop _ (by rw [HST.out, HLM.out, hh]; rfl)
                    clear hh
                    go_wp2_with fail
                    refine bodyPost_ret (v := .tuple #[.int .i64 0, .int .i64 0, .bool false]) (by simp [results, go_sem]) rfl ?_
                    rw [HEND.out]
                    exact ⟨rfl, B.out.trans (BV2.out.mono B.out.size)⟩
                  | true =>
                    by_cases hto : m.to < v.1.length
                    · have HN : Hid ((word.take (k + 1)).foldl (letStep p v) (some (s0, 0)) = some (t, m.to)) := by
                        show _ = _
                        rw [HST.out, HLM.out, hh, decide_eq_true hto]; rfl
                      have LA2 := Hid.of (LA.out.below LAB2.out HNB.out)
                      obtain ⟨tb, to, rfl, -, hct⟩ : ∃ b off, la = some ⟨b, off, none⟩ ∧ b < _ ∧ Cells _ b off [t] := by
                        rcases LA2.out with h0 | h0
                        · cases h0
                        · exact h0
                      have ct := hct 0 (by simp)
                      simp only [Nat.add_zero, List.getD_cons_zero] at ct
                      have d1 : decide ((((m.to : Nat) : Int)) < 0) = false := by simp
                      have d2 : decide (((v.1.length : Nat) : Int) ≤ ((m.to : Nat) : Int)) = false := by simp; omega
                      clear hct hh
                      go_wp2_with fail
                      go_roundw
                      case rel => exact ⟨k + 1, t, m.to, by go_num, rfl, rfl, by omega, hto, HN, BV2⟩
                      case measure => simp [intOf]; omega
                    · have HEND : Hid (letsV p v word = none) := by
                        show _ = _
                        rw [HLV.out]
                        exact lets_stop _ (by rw [HST.out, HLM.out, hh, decide_eq_false hto]; rfl)
                      have d1 : decide ((((m.to : Nat) : Int)) < 0) = false := by simp
                      have d2 : decide (((v.1.length : Nat) : Int) ≤ ((m.to : Nat) : Int)) = true := by simp; omega
                      have hle : v.1.length ≤ m.to := by omega
                      clear hh hto
                      go_wp2_with fail
                      refine bodyPost_ret (v := .tuple #[.int .i64 0, .int .i64 0, .bool false]) (by simp [results, go_sem]) rfl ?_
                      rw [HEND.out]
                      exact ⟨rfl, B.out.trans (BV2.out.mono B.out.size)⟩
          · have HEND : Hid (letsV p v word = none) := by
              show _ = _
              rw [HLV.out]
              refine lets_stop (k := k + 1) _ ?_
              rw [HST.out]
              show (if (stepL p.m.arrows [s] e).length = 1 then _ else _) = _
              rw [if_neg (by rw [← HSL.out]; exact h1)]
            have hbe : ((SL.length : Int) != 1) = true := by simp; omega
            clear HSL LA h1
            go_wp2_with fail
            refine bodyPost_ret (v := .tuple #[.int .i64 0, .int .i64 0, .bool false]) (by simp [results, go_sem]) rfl ?_
            rw [HEND.out]
            exact ⟨rfl, B.out.trans (BV.out.mono B.out.size)⟩
        · have hkl : k = word.length := by omega
          subst hkl
          have HEND : Hid (letsV p v word = some (s, nd)) := by
            show _ = _
            rw [HLV.out]
            have := HF.out
            rwa [List.take_length] at this
          clear hlt
          go_wp2_with fail
          refine bodyPost_ret (v := .tuple #[.int .i64 s, .int .i64 (nd : Int), .bool true]) (by simp [results, go_sem]) rfl ?_
          rw [HEND.out]
          exact ⟨rfl, B.out.trans (BV.out.mono B.out.size)⟩
  · have HEND : Hid (letsV p v word = none) := by show _ = _; unfold letsV; rw [if_neg (by omega)]
    have e1 : (((p.m.starts.length : Nat) : Int) != 1) = true := by simp; omega
    clear hs1
    go_wp2_with fail
    refine bodyPost_ret (v := .tuple #[.int .i64 0, .int .i64 0, .bool false]) (by simp [results, go_sem]) rfl ?_
    rw [HEND.out]
    exact ⟨rfl, B.out⟩

end Go.Proofs.YtkodmnooibpflaaDoor
