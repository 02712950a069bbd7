/-
  The walk of jalousieref15.Make.
-/
import Derived.Test.YtmlkpdeidpcidaaDoorJ34
import Derived.Test.YtmlkpdeidpcidaaDoorFR15G
import Derived.Test.YtmlkpdeidpcidaaDoorJ31
import Derived.Test.YtmlkpdeidpcidaaDoorJ04
import Derived.Test.YtmlkpdeidpcidaaDoorJ10
namespace Go.Proofs.YtmlkpdeidpcidaaDoor
open Go.RowKit
set_option linter.unusedVariables false

theorem results_veTmp {fn : Func} {p u : Tmp} (h : fn.results = #[.cell p 72, .tmp u]) (tmps : Array Value) (w : World) (g : Nat) (a b : Value) (x : Value) (hp : tmps.getD p undef = .pointer (some ⟨g, 0, none⟩)) (hu : tmps.getD u undef = x) (hB : Blk w g 72 #[a, b]) (ha : ∃ q n c, a = .slice q n c) (hb : ∃ q n c, b = .slice q n c) :
    (results fn tmps).run Tryd.prog w = .ok (.tuple #[.agg #[a, b], x]) w := by
  obtain ⟨q, n, c, rfl⟩ := ha
  obtain ⟨q', n', c', rfl⟩ := hb
  have x0 := hB.cell 0 rfl
  have x1 := hB.cell 1 rfl
  have e : (results fn tmps).run Tryd.prog w = ((asAddr (tmps.getD p undef)).run Tryd.prog w).andThen fun a w₁ => ((loadVar 72 a).run Tryd.prog w₁).andThen fun r w₂ => .ok (.tuple #[r, tmps.getD u undef]) w₂ := by
    simp only [results, h]
    simp [Sem.run_bind, Result.andThen]
  rw [e, hp, hu]
  go_simp
theorem cells_quad (W : World) (b : Nat) (hW : W.heap.size = b) (t : TypeId) (x y z u : Value) : ∀ j v, ([x, y, z, u] : List Value)[j]? = some v → (W.alloc (.cells #[x, y, z, u] t)).cell? ((⟨b, 0, none⟩ : Addr).add j) = some v := by
  intro j v hv
  rw [addr0_add, Nat.zero_add, ← hW]
  exact (Blk.new W t #[x, y, z, u]).cell j (by rw [← Array.getElem?_toList]; exact hv)
theorem below_setv {W V : World} {B b' : Nat} (h : Below B V W) (hb : B ≤ b') (v0 v1 : Value) : Below B V ((W.setCell ⟨b', 0, none⟩ v0).setCell ⟨b', 1, none⟩ v1) :=
  (h.setCell (p := ⟨b', 0, none⟩) hb v0).setCell (p := ⟨b', 1, none⟩) hb v1
theorem blk_ve {W : World} {b : Nat} {a c : Value} (h : Blk W b 72 #[a, c]) (x y : Value) : Blk ((W.setCell ⟨b, 0, none⟩ x).setCell ⟨b, 1, none⟩ y) b 72 #[x, y] := (h.set 0 _).set 1 _

set_option maxRecDepth 100000 in
set_option maxHeartbeats 16000000 in
theorem rmake_go (p : Plant) (Pl : ML) (sa : Option Addr) (sc : Nat) (ta : Option Addr) (tc : Nat) (fa : Option Addr) (fc : Nat) (free : List Int) (w : World) (h : Hid (PAt w p ⟨Pl, sa, sc, ta, tc⟩)) (hF : Hid (At w fa free)) (hFl : Hid (free.length ≤ maxLen)) (hp : Hid (mayP p = true)) (S N : Nat) (hS : Hid (p.m.st = (S : Int))) (hS6 : S ≤ 6) (hN : Hid (N = 2 ^ S)) (hN64 : N ≤ 64) :
    Calls Tryd.prog 51 #[ptval p ⟨Pl, sa, sc, ta, tc⟩, .slice fa free.length fc] w fun e w' => ∃ g : List Int → Bool, TellsG p free g ∧ MakePost w (makeV p g free) e w' := by
  have hmP := (mayP_iff p).1 hp.out
  have hMM := Hid.of hmP.1
  have hz := mayB_size hmP.1
  unfold sizeOk at hz
  have hs8 : p.seen.length ≤ 8 := by have := row_short (by omega) (by omega) hmP.2.2.1; omega
  have hal : Hid (p.m.arrows.length ≤ 4096) := by show _ ≤ _; omega
  clear hmP hz
  obtain ⟨i1, hi, hz0, hz1, hz2⟩ := info_parts Tryd.infoIntsV
  obtain ⟨j0, ji, jz0, jz1, jz2⟩ := info_parts Tryd.infoMove
  have B : Hid (Below w.heap.size w ((w.alloc (.cells (ptcells p ⟨Pl, sa, sc, ta, tc⟩) 44)).alloc (.cells #[.slice none 0 0, .slice none 0 0] 72))) := ((Below.refl _ _).alloc (Nat.le_refl _) _).alloc (by simp) _
  have KP : Hid (Blk ((w.alloc (.cells (ptcells p ⟨Pl, sa, sc, ta, tc⟩) 44)).alloc (.cells #[.slice none 0 0, .slice none 0 0] 72)) w.heap.size 44 (ptcells p ⟨Pl, sa, sc, ta, tc⟩)) := (Blk.new w _ _).alloc _
  have K4 : Hid (Blk ((w.alloc (.cells (ptcells p ⟨Pl, sa, sc, ta, tc⟩) 44)).alloc (.cells #[.slice none 0 0, .slice none 0 0] 72)) (w.heap.size + 1) 72 #[.slice none 0 0, .slice none 0 0]) := by
    have := Blk.new (w.alloc (.cells (ptcells p ⟨Pl, sa, sc, ta, tc⟩) 44)) 72 #[.slice none 0 0, .slice none 0 0]
    rwa [World.size_alloc] at this
  go_enter Tryd.func51, Tryd.ntmps51
  obtain ⟨x0, x1, x2, x3, x4, x5, x6⟩ := ptcell_at KP.out
  go_wp2_with fail
  clear x0 x1 x2 x3 x4 x5 x6
  revert B KP K4
  generalize (w.alloc (.cells (ptcells p ⟨Pl, sa, sc, ta, tc⟩) 44)).alloc (.cells #[.slice none 0 0, .slice none 0 0] 72) = V
  intro B KP K4
  refine (rgood_go p Pl sa sc ta tc fa fc free V (Hid.of (h.out.below B.out (Nat.le_refl _))) (Hid.of (hF.out.below B.out (Nat.le_refl _))) hFl hp S N hS hS6 hN hN64).mono ?_
  rintro e0 W1 ⟨g, rfl, kg, tg, hb1⟩
  obtain ⟨pg, HPG⟩ : ∃ pg, Hid (pg = V.heap.size + 1) := ⟨_, rfl⟩
  rw [← HPG.out] at kg ⊢
  have KG := Hid.of kg
  have TG := Hid.of tg
  clear kg tg HPG
  replace B := Hid.of (B.out.trans (hb1.mono B.out.size))
  replace KP := Hid.of (KP.out.below hb1 KP.out.lt)
  replace K4 := Hid.of (K4.out.below hb1 K4.out.lt)
  clear hb1
  obtain ⟨x0, x1, x2, x3, x4, x5, x6⟩ := ptcell_at KP.out
  go_wp2_with fail
  clear x0 x1 x2 x3 x4 x5 x6
  refine (rEst_any p ⟨Pl, sa, sc, ta, tc⟩ none 0 [] W1 (h.out.below B.out (Nat.le_refl _)) hMM.out (.inl rfl) (by simp)).mono ?_
  rintro e0 W2 ⟨fv, rfl, of0, hb1⟩
  have HE := Hid.of (est_in hMM.out [])
  obtain ⟨F, HFE⟩ : ∃ F, Hid (F = estL p []) := ⟨_, rfl⟩
  rw [← HFE.out] at of0 HE
  replace B := Hid.of (B.out.trans (hb1.mono B.out.size))
  replace KP := Hid.of (KP.out.below hb1 KP.out.lt)
  replace K4 := Hid.of (K4.out.below hb1 K4.out.lt)
  replace KG := Hid.of (KG.out.below hb1 KG.out.lt)
  clear hb1
  obtain ⟨f0, f0c, hfv, fat, fln⟩ := of0.at
  subst hfv
  have OF := Hid.of of0
  have FAT := Hid.of fat
  clear of0 fat fln
  have HF6 : F.length ≤ 6 := inc_short HE.out.1 fun x hx => by have := HE.out.2 x hx; have := hS.out; omega
  by_cases hF0 : F.length = 0
  · have HEND : Hid (makeV p (fun r => g (numN r)) free = none) := by
      show _ = _
      unfold makeV
      rw [← HFE.out, hF0]; rfl
    have e1 : ((F.length : Int) == 0) = true := by simp [hF0]
    have fz := K4.out.frozen
    have r0 := K4.out.cell 0 rfl
    have r1 := K4.out.cell 1 rfl
    have BB := Hid.of (below_setv B.out (b' := w.heap.size + 1) (by omega) (.slice none 0 0) (.slice none 0 0))
    have KK := Hid.of (blk_ve K4.out (.slice none 0 0) (.slice none 0 0))
    clear hF0
    go_wp2_with fail
    refine bodyPost_ret (v := .tuple #[.agg #[.slice none 0 0, .slice none 0 0], .bool false]) (results_veTmp (p := 4) (u := 5) rfl _ _ (w.heap.size + 1) _ _ _ rfl rfl KK.out ⟨_, _, _, rfl⟩ ⟨_, _, _, rfl⟩) rfl ?_
    refine ⟨_, TG.out, ?_⟩
    rw [HEND.out]
    exact ⟨rfl, BB.out⟩
  · have HFN : Hid (∃ x, x ∈ F) := by
      cases hh : F with
      | nil => rw [hh] at hF0; simp at hF0
      | cons a l => exact ⟨a, by simp⟩
    have e1 : ((F.length : Int) == 0) = false := beq_eq_false_iff_ne.2 (by omega)
    have hnl : numN F < N := by
      rw [hN.out]
      exact num_lt HE.out.1 fun x hx => by have := HE.out.2 x hx; have := hS.out; omega
    have cg := KG.out.cell hnl
    have hnI : ((numN F : Nat) : Int) < (N : Int) := by omega
    clear hF0
    go_wp2_with fail
    refine (rnum_any f0 f0c F W2 FAT (Hid.of HE.out.1) (Hid.of fun x hx => by have := HE.out.2 x hx; have := hS.out; omega) (by omega)).mono ?_
    rintro e0 W3 ⟨rfl, rfl⟩
    cases hgF : g (numN F) with
    | false =>
      have HEND : Hid (makeV p (fun r => g (numN r)) free = none) := by
        show _ = _
        unfold makeV
        rw [← HFE.out]
        show (if (decide (F.length = 0) || !g (numN F)) = true then none else _) = _
        rw [hgF]; simp
      have fz := K4.out.frozen
      have r0 := K4.out.cell 0 rfl
      have r1 := K4.out.cell 1 rfl
      have BB := Hid.of (below_setv B.out (b' := w.heap.size + 1) (by omega) (.slice none 0 0) (.slice none 0 0))
      have KK := Hid.of (blk_ve K4.out (.slice none 0 0) (.slice none 0 0))
      rw [hgF] at cg
      clear hgF
      go_wp2_with fail
      refine bodyPost_ret (v := .tuple #[.agg #[.slice none 0 0, .slice none 0 0], .bool false]) (results_veTmp (p := 4) (u := 5) rfl _ _ (w.heap.size + 1) _ _ _ rfl rfl KK.out ⟨_, _, _, rfl⟩ ⟨_, _, _, rfl⟩) rfl ?_
      refine ⟨_, TG.out, ?_⟩
      rw [HEND.out]
      exact ⟨rfl, BB.out⟩
    | true =>
      have HVI : Hid (VI p (fun r => g (numN r)) free 0 0 ([F], [])) := by
        have := vi_start hMM.out TG.out (by rw [← HFE.out]; exact HFN.out) (by show g (numN (estL p [])) = true; rw [← HFE.out]; exact hgF)
        rw [← HFE.out] at this
        exact this
      have HMK : Hid (makeV p (fun r => g (numN r)) free = some (veGo p (fun r => g (numN r)) free 65 0 ([F], []))) := by
        show _ = _
        unfold makeV
        rw [← HFE.out]
        show (if (decide (F.length = 0) || !g (numN F)) = true then none else _) = _
        rw [hgF, decide_eq_false (by obtain ⟨x, hx⟩ := HFN.out; intro e; rw [List.length_eq_zero_iff.1 e] at hx; simp at hx)]; rfl
      rw [hgF] at cg
      clear hgF
      go_wp2_with fail
      have P0 := Hid.of (MK.start B.out KP.out K4.out KG.out OF.out)
      clear B KP K4 KG OF FAT cg e1 hnl hnI
      revert P0
      generalize ((W3.alloc (.cells #[.slice f0 F.length f0c] 22)).alloc (.cells #[.slice (some ⟨W3.heap.size, 0, none⟩) 1 1, .slice none 0 0] 72)) = U0
      intro P0
      have HG0 : Hid (veGo p (fun r => g (numN r)) free 65 0 ([F], []) = veGo p (fun r => g (numN r)) free (65 - 0) 0 ([F], [])) := rfl
      go_loopw [9] (fun x wr => ∃ (n : Nat) (nv mv : Value) (s : VS), x = .int .i64 n ∧ n ≤ s.1.length ∧ s.2.length ≤ n * 8 ∧ Hid (MK w wr p ⟨Pl, sa, sc, ta, tc⟩ pg N g (W3.heap.size + 1) nv mv s) ∧ Hid (VI p (fun r => g (numN r)) free n 0 s) ∧ Hid (veGo p (fun r => g (numN r)) free 65 0 ([F], []) = veGo p (fun r => g (numN r)) free (65 - n) n s)) (fun x _ => 65 - (intOf x).toNat)
      case atStart => exact ⟨0, _, _, _, rfl, by simp, by simp, P0, HVI, HG0⟩
      case round =>
        clear P0 HVI HG0
        obtain ⟨n, nv, mv, s, rfl, hn, hm, PM, HV, HG⟩ := hrel
        have hb64 := vi_bound (by have := hS.out; omega) HV.out
        by_cases hlt : n < s.1.length
        · obtain ⟨node, HN⟩ : ∃ node, Hid (s.1[n]? = some node) := ⟨_, List.getElem?_eq_getElem hlt⟩
          have HG1 : Hid (veGo p (fun r => g (numN r)) free 65 0 ([F], []) = veGo p (fun r => g (numN r)) free (65 - (n + 1)) (n + 1) (veRow p (fun r => g (numN r)) free n node s p.seen.length)) := by
            show _ = _
            rw [HG.out, show 65 - n = (65 - (n + 1)) + 1 by omega]
            show (match s.1[n]? with | none => s | some node => veGo p (fun r => g (numN r)) free (65 - (n + 1)) (n + 1) (veRow p (fun r => g (numN r)) free n node s p.seen.length)) = _
            rw [HN.out]
          have HV1 := Hid.of (vi_next hMM.out TG.out HV.out HN.out)
          have HR := Hid.of (vi_row hMM.out TG.out HV.out HN.out)
          obtain ⟨na, nc, hnv, nat⟩ := PM.out.on.at2
          subst hnv
          have y0 := PM.out.kv.cell 0 rfl
          have hltI : (n : Int) < (s.1.length : Int) := by omega
          have PR : Hid (MK w wr p ⟨Pl, sa, sc, ta, tc⟩ pg N g (W3.heap.size + 1) (.slice na s.1.length nc) mv (veRow p (fun r => g (numN r)) free n node s 0)) := PM.out
          clear PM nat HG HV
          go_wp2_with fail
          clear y0
          obtain ⟨hlen1⟩ : Nonempty (n + 1 ≤ (veRow p (fun r => g (numN r)) free n node s p.seen.length).1.length) := ⟨by
            have := (List.getElem?_eq_some_iff.1 (HR.out p.seen.length (Nat.le_refl _)).2).1
            omega⟩
          have hml1 := veRow_len p (fun r => g (numN r)) free n node s p.seen.length (Nat.le_refl _)
          have hn6 : node.length ≤ 6 := by
            have h0 := HR.out 0 (Nat.zero_le _)
            have h1 := h0.1.row node (List.mem_of_getElem? h0.2)
            exact inc_short h1.1 fun x hx => by have := h1.2.1 x hx; have := hS.out; omega
          go_loopw [10] (fun x wr => ∃ (k : Nat) (nv mv : Value), x = .int .i64 k ∧ k ≤ p.seen.length ∧ Hid (MK w wr p ⟨Pl, sa, sc, ta, tc⟩ pg N g (W3.heap.size + 1) nv mv (veRow p (fun r => g (numN r)) free n node s k))) (fun x _ => p.seen.length - (intOf x).toNat)
          case atStart => exact ⟨0, _, _, rfl, Nat.zero_le _, PR⟩
          case round =>
            clear PR
            obtain ⟨k, nv, mv1, rfl, hk, PR⟩ := hrel
            by_cases hks : k < p.seen.length
            · obtain ⟨eb, eo, rfl, hwb, hcw⟩ : ∃ eb eo, sa = some ⟨eb, eo, none⟩ ∧ eb < w.heap.size ∧ Cells w eb eo p.seen := by
                rcases h.out.s.at_ with h0 | h0
                · rw [h0] at hks; simp at hks
                · exact h0
              obtain ⟨e, HE1, ce⟩ := hcw.at hks
              have HEK : Hid (p.seen[k]? = some e) := by show _ = _; rw [HE1.out, List.getElem?_eq_getElem hks]; rfl
              have HSuc : Hid (veRow p (fun r => g (numN r)) free n node s (k + 1) = veStep p (fun r => g (numN r)) free n node (veRow p (fun r => g (numN r)) free n node s k) e) := veRow_succ HEK.out
              obtain ⟨VI1, N1⟩ := HR.out k (by omega)
              have hml := veRow_len p (fun r => g (numN r)) free n node s k (by omega)
              revert PR HSuc VI1 N1 hml
              generalize veRow p (fun r => g (numN r)) free n node s k = s1
              intro PR HSuc VI1 N1 hml
              have hl64 := vi_bound (by have := hS.out; omega) VI1
              have HN1 := Hid.of N1
              obtain ⟨nb, nc, x, hnv, hnb, hnb2, cx, ix⟩ := PR.out.on.get N1
              subst hnv
              obtain ⟨xa, xc, hx, -, -⟩ := ix.at
              subst hx
              have hn1 : (n : Int) < (s1.1.length : Int) := by have := (List.getElem?_eq_some_iff.1 N1).1; omega
              have ce : wr.cell? ⟨eb, eo + k, none⟩ = some (.int .i64 e) := (PR.out.bel.cell (p := ⟨eb, eo + k, none⟩) hwb).trans ce
              have CX := Hid.of cx
              have IX := Hid.of ix
              clear VI1 N1 hcw HE1 cx ix
              have SX : Hid (∀ W, Below wr.heap.size wr W → W.cell? ⟨w.heap.size, 0, none⟩ = some (.int .i64 p.m.st) ∧ W.cell? ⟨w.heap.size, 1, none⟩ = some (.int .i64 p.m.ev) ∧ W.cell? ⟨w.heap.size, 2, none⟩ = some (.slice Pl.a1 p.m.starts.length Pl.c1) ∧ W.cell? ⟨w.heap.size, 3, none⟩ = some (.slice Pl.a2 p.m.arrows.length Pl.c2) ∧ W.cell? ⟨w.heap.size, 4, none⟩ = some (.slice Pl.a3 p.m.ends.length Pl.c3) ∧ W.cell? ⟨w.heap.size, 5, none⟩ = some (.slice (some ⟨eb, eo, none⟩) p.seen.length sc) ∧ W.cell? ⟨w.heap.size, 6, none⟩ = some (.slice ta p.secret.length tc) ∧ W.cell? ⟨W3.heap.size + 1, 0, none⟩ = some (.slice (some ⟨nb, 0, none⟩) s1.1.length nc) ∧ W.cell? ⟨nb, n, none⟩ = some (.slice xa node.length xc)) := fun W hW => by
                obtain ⟨y0, y1, y2, y3, y4, y5, y6⟩ := ptcell_at (PR.out.kp.below hW PR.out.kp.lt)
                exact ⟨y0, y1, y2, y3, y4, y5, y6, (PR.out.kv.below hW PR.out.kv.lt).cell 0 rfl, (hW.cell (p := ⟨nb, n, none⟩) hnb2).trans CX.out⟩
              have hkI : (k : Int) < (p.seen.length : Int) := by omega
              obtain ⟨y0, y1, y2, y3, y4, y5, y6⟩ := ptcell_at PR.out.kp
              go_wp2_with fail
              clear y0 y1 y2 y3 y4 y5 y6 ce
              refine wp_region_held_drew (S := fun w' => w'.cell? ⟨w.heap.size, 0, none⟩ = some (.int .i64 p.m.st) ∧ w'.cell? ⟨w.heap.size, 1, none⟩ = some (.int .i64 p.m.ev) ∧ w'.cell? ⟨w.heap.size, 2, none⟩ = some (.slice Pl.a1 p.m.starts.length Pl.c1) ∧ w'.cell? ⟨w.heap.size, 3, none⟩ = some (.slice Pl.a2 p.m.arrows.length Pl.c2) ∧ w'.cell? ⟨w.heap.size, 4, none⟩ = some (.slice Pl.a3 p.m.ends.length Pl.c3) ∧ w'.cell? ⟨w.heap.size, 5, none⟩ = some (.slice (some ⟨eb, eo, none⟩) p.seen.length sc) ∧ w'.cell? ⟨w.heap.size, 6, none⟩ = some (.slice ta p.secret.length tc) ∧ w'.cell? ⟨W3.heap.size + 1, 0, none⟩ = some (.slice (some ⟨nb, 0, none⟩) s1.1.length nc) ∧ w'.cell? ⟨nb, n, none⟩ = some (.slice xa node.length xc)) (by kernel_rfl) (SX.out _ (Below.refl _ _).drew) (fun hS => ?_)
              replace PR : Hid (MK w wr.drew p ⟨Pl, some ⟨eb, eo, none⟩, sc, ta, tc⟩ pg N g (W3.heap.size + 1) (.slice (some ⟨nb, 0, none⟩) s1.1.length nc) mv1 s1) := PR.out.below (Below.refl _ _).drew
              replace IX : Hid (InnN w.heap.size wr.drew (.slice xa node.length xc) node) := IX.out
              replace SX : Hid (∀ W, Below wr.drew.heap.size wr.drew W → W.cell? ⟨w.heap.size, 0, none⟩ = some (.int .i64 p.m.st) ∧ W.cell? ⟨w.heap.size, 1, none⟩ = some (.int .i64 p.m.ev) ∧ W.cell? ⟨w.heap.size, 2, none⟩ = some (.slice Pl.a1 p.m.starts.length Pl.c1) ∧ W.cell? ⟨w.heap.size, 3, none⟩ = some (.slice Pl.a2 p.m.arrows.length Pl.c2) ∧ W.cell? ⟨w.heap.size, 4, none⟩ = some (.slice Pl.a3 p.m.ends.length Pl.c3) ∧ W.cell? ⟨w.heap.size, 5, none⟩ = some (.slice (some ⟨eb, eo, none⟩) p.seen.length sc) ∧ W.cell? ⟨w.heap.size, 6, none⟩ = some (.slice ta p.secret.length tc) ∧ W.cell? ⟨W3.heap.size + 1, 0, none⟩ = some (.slice (some ⟨nb, 0, none⟩) s1.1.length nc) ∧ W.cell? ⟨nb, n, none⟩ = some (.slice xa node.length xc)) := fun W hW => SX.out W ((Below.refl _ _).drew.trans (hW.mono (Nat.le_refl _)))
              revert hS PR IX SX
              generalize wr.drew = Y0
              intro hS PR IX SX
              refine wpAnyH_take (i := 0) (v := .agg #[.int .i64 p.m.st, .int .i64 p.m.ev, .slice Pl.a1 p.m.starts.length Pl.c1, .slice Pl.a2 p.m.arrows.length Pl.c2, .slice Pl.a3 p.m.ends.length Pl.c3, .slice (some ⟨eb, eo, none⟩) p.seen.length sc, .slice ta p.secret.length tc]) rfl (by kernel_rfl) (by kernel_rfl) (by kernel_rfl) (fun _ _ _ h => h) (Or.inl ⟨by kernel_rfl, fun w' hw' => by obtain ⟨q0, q1, q2, q3, q4, q5, q6, q7, q8⟩ := hw'; go_simp⟩) hS ?_
              refine wpAnyH_take (i := 1) (v := .slice fa free.length fc) rfl (by kernel_rfl) (by kernel_rfl) (by kernel_rfl) (fun _ _ _ h => h) (Or.inl ⟨by kernel_rfl, fun w' hw' => by obtain ⟨q0, q1, q2, q3, q4, q5, q6, q7, q8⟩ := hw'; go_simp⟩) hS ?_
              refine wpAnyH_take (i := 2) (v := .slice (some ⟨pg, 0, none⟩) N N) rfl (by kernel_rfl) (by kernel_rfl) (by kernel_rfl) (fun _ _ _ h => h) (Or.inl ⟨by kernel_rfl, fun w' hw' => by obtain ⟨q0, q1, q2, q3, q4, q5, q6, q7, q8⟩ := hw'; go_simp⟩) hS ?_
              refine wpAnyH_take (i := 3) (v := .pointer (some ⟨W3.heap.size + 1, 0, none⟩)) rfl (by kernel_rfl) (by kernel_rfl) (by kernel_rfl) (fun _ _ _ h => h) (Or.inl ⟨by kernel_rfl, fun w' hw' => by obtain ⟨q0, q1, q2, q3, q4, q5, q6, q7, q8⟩ := hw'; go_simp⟩) hS ?_
              refine wpAnyH_take (i := 4) (v := .slice (some ⟨nb, 0, none⟩) s1.1.length nc) rfl (by kernel_rfl) (by kernel_rfl) (by kernel_rfl) (fun _ _ _ h => h) (Or.inl ⟨by kernel_rfl, fun w' hw' => by obtain ⟨q0, q1, q2, q3, q4, q5, q6, q7, q8⟩ := hw'; go_simp⟩) hS ?_
              refine wpAnyH_take (i := 5) (v := .int .i64 (n : Int)) rfl (by kernel_rfl) (by kernel_rfl) (by kernel_rfl) (fun _ _ _ h => h) (Or.inl ⟨by kernel_rfl, fun w' hw' => by obtain ⟨q0, q1, q2, q3, q4, q5, q6, q7, q8⟩ := hw'; go_simp⟩) hS ?_
              refine wpAnyH_take (i := 6) (v := .pointer (some ⟨nb, n, none⟩)) rfl (by kernel_rfl) (by kernel_rfl) (by kernel_rfl) (fun _ _ _ h => h) (Or.inl ⟨by kernel_rfl, fun w' hw' => by obtain ⟨q0, q1, q2, q3, q4, q5, q6, q7, q8⟩ := hw'; go_simp⟩) hS ?_
              refine wpAnyH_take (i := 7) (v := .slice xa node.length xc) rfl (by kernel_rfl) (by kernel_rfl) (by kernel_rfl) (fun _ _ _ h => h) (Or.inl ⟨by kernel_rfl, fun w' hw' => by obtain ⟨q0, q1, q2, q3, q4, q5, q6, q7, q8⟩ := hw'; go_simp⟩) hS ?_
              refine wpAnyH_take (i := 8) (v := .int .i64 e) rfl (by kernel_rfl) (by kernel_rfl) (by kernel_rfl) (fun _ _ _ h => h) (Or.inl ⟨by kernel_rfl, fun w' hw' => by obtain ⟨q0, q1, q2, q3, q4, q5, q6, q7, q8⟩ := hw'; go_simp⟩) hS ?_
              simp only [Act.put, List.setIfInBounds_toArray]
              refine wpAnyH_ready (rs := [9]) (by kernel_rfl) (by simp) ?_
              refine AllReadyH.cons rfl (fun K' hK' => ?_) AllReadyH.nil
              clear hS
              go_simp
              obtain ⟨xa', xc', hxx, xat, -⟩ := IX.out.at
              cases hxx
              refine (rstay_any p Pl (some ⟨eb, eo, none⟩) sc ta tc fa fc free pg N g xa xc node e Y0 (Hid.of (h.out.below PR.out.bel (Nat.le_refl _))) hp (Hid.of (hF.out.below PR.out.bel (Nat.le_refl _))) hFl (Hid.of (by rw [hN.out, hS.out]; simp)) (Hid.of PR.out.kg) (Hid.of xat) hn6).mono ?_
              rintro e' Y1 ⟨sv, tv, rfl, osv, otv, hb1⟩
              obtain ⟨ST, HST⟩ : ∃ ST, Hid (ST = stayV p (fun r => g (numN r)) free node e) := ⟨_, rfl⟩
              obtain ⟨TO, HTO⟩ : ∃ TO, Hid (TO = toV p (fun r => g (numN r)) free node e) := ⟨_, rfl⟩
              rw [← HST.out] at osv
              rw [← HTO.out] at otv
              have STI := Hid.of (InnN.of_own (n := w.heap.size) osv)
              obtain ⟨sta, stc, hsv, -, -⟩ := osv.at
              subst hsv
              obtain ⟨toa, toc, htv, toat, tol, -, ton⟩ := otv.at2
              subst htv
              have TOA := Hid.of toat
              have TON := Hid.of ton
              have TOL : Hid (TO.length ≤ 4096) := by
                show _ ≤ _
                have := inc_short (l := TO) (by rw [HTO.out]; exact inc_toV p (fun r => g (numN r)) free node e) (fun x hx => by have := toV_bd hMM.out (fun r => g (numN r)) free node e x (by rw [← HTO.out]; exact hx); have := hS.out; omega)
                omega
              replace PR := Hid.of (PR.out.below hb1)
              refine hK'.out _ _ (SX.out _ hb1) (fun hS => ?_)
              clear hK' K' hb1 osv otv toat tol ton xat IX SX
              refine wpAnyH_take (i := 10) (v := .tuple #[.slice sta ST.length stc, .slice toa TO.length toc]) rfl (by kernel_rfl) (by kernel_rfl) (by kernel_rfl) (fun _ _ _ h => h) (Or.inl ⟨by kernel_rfl, fun w' hw' => by obtain ⟨q0, q1, q2, q3, q4, q5, q6, q7, q8⟩ := hw'; go_simp⟩) hS ?_
              refine wpAnyH_take (i := 11) (v := .slice sta ST.length stc) rfl (by kernel_rfl) (by kernel_rfl) (by kernel_rfl) (fun _ _ _ h => h) (Or.inl ⟨by kernel_rfl, fun w' hw' => by obtain ⟨q0, q1, q2, q3, q4, q5, q6, q7, q8⟩ := hw'; go_simp⟩) hS ?_
              refine wpAnyH_take (i := 12) (v := .slice toa TO.length toc) rfl (by kernel_rfl) (by kernel_rfl) (by kernel_rfl) (fun _ _ _ h => h) (Or.inl ⟨by kernel_rfl, fun w' hw' => by obtain ⟨q0, q1, q2, q3, q4, q5, q6, q7, q8⟩ := hw'; go_simp⟩) hS ?_
              refine wpAnyH_take (i := 13) (v := .slice sta ST.length stc) rfl (by kernel_rfl) (by kernel_rfl) (by kernel_rfl) (fun _ _ _ h => h) (Or.inl ⟨by kernel_rfl, fun w' hw' => by obtain ⟨q0, q1, q2, q3, q4, q5, q6, q7, q8⟩ := hw'; go_simp⟩) hS ?_
              refine wpAnyH_take (i := 14) (v := .slice toa TO.length toc) rfl (by kernel_rfl) (by kernel_rfl) (by kernel_rfl) (fun _ _ _ h => h) (Or.inl ⟨by kernel_rfl, fun w' hw' => by obtain ⟨q0, q1, q2, q3, q4, q5, q6, q7, q8⟩ := hw'; go_simp⟩) hS ?_
              refine wpAnyH_done (by kernel_rfl) ?_ _
              clear hS
              by_cases h0 : ST.length = 0
              · have HVS : Hid (veStep p (fun r => g (numN r)) free n node s1 e = s1) := by
                  show _ = _
                  unfold veStep
                  rw [← HST.out, if_pos h0]
                have e1 : ((ST.length : Int) == 0) = true := by simp [h0]
                clear h0
                go_wp2_with fail
                go_roundw
                case rel => exact ⟨k + 1, _, _, by go_num, by omega, (by show MK _ _ _ _ _ _ _ _ _ _ _; rw [HSuc.out, HVS.out]; exact PR.out)⟩
                case measure => simp [intOf]; omega
              · have e1 : ((ST.length : Int) == 0) = false := beq_eq_false_iff_ne.2 (by omega)
                obtain ⟨WI, HWI⟩ : ∃ WI, Hid (WI = wideL p.m.arrows p.seen TO) := ⟨_, rfl⟩
                have HVS : Hid (veStep p (fun r => g (numN r)) free n node s1 e = (if posN s1.1 WI = s1.1.length then s1.1 ++ [WI] else s1.1, s1.2 ++ [⟨n, e, ST, posN s1.1 WI⟩])) := by
                  show _ = _
                  unfold veStep
                  rw [← HST.out, if_neg h0, ← HTO.out, ← HWI.out]
                clear h0
                obtain ⟨y0, y1, y2, y3, y4, y5, y6⟩ := ptcell_at PR.out.kp
                go_wp2_with fail
                clear y0 y1 y2 y3 y4 y5 y6
                refine (refWide_any p.m Pl toa (some ⟨eb, eo, none⟩) toc sc TO p.seen Y1 (h.out.m.a.below PR.out.bel (Nat.le_refl _)) hal.out (may_to hMM.out) TOA.out TOL.out TON.out (h.out.s.at_.below PR.out.bel (Nat.le_refl _)) h.out.s.len).mono ?_
                rintro e' Y2 ⟨wv, rfl, owv, hb2⟩
                rw [← HWI.out] at owv
                have WII := Hid.of (InnN.of_own (n := w.heap.size) owv)
                obtain ⟨wia, wic, hwv, wat, wln⟩ := owv.at
                subst hwv
                have hnz : w.heap.size ≤ Y1.heap.size := PR.out.bel.size
                replace STI := Hid.of (STI.out.kept hb2.size (fun j hj => hb2.block j (by omega)) (fun q cs hq => hb2.block q (Array.getElem?_eq_some_iff.1 hq).1))
                replace PR := Hid.of (PR.out.below hb2)
                have WAT := Hid.of wat
                have WLN := Hid.of wln
                clear owv hb2 wat wln TOA TOL TON hnz
                go_wp2_with fail
                have HP0 : Hid (posN s1.1 WI = 0 + posN (s1.1.drop 0) WI) := by show _ = _; rw [Nat.zero_add, List.drop_zero]
                go_loopw [15] (fun x wr => ∃ (a q : Nat), x = .int .i64 a ∧ a ≤ s1.1.length ∧ wr = Y2.drewN q ∧ Hid (posN s1.1 WI = a + posN (s1.1.drop a) WI)) (fun x _ => s1.1.length - (intOf x).toNat)
                case atStart => exact ⟨0, 0, rfl, Nat.zero_le _, rfl, HP0⟩
                case round =>
                  clear HP0
                  obtain ⟨a, q, rfl, ha, rfl, HP⟩ := hrel
                  replace PR : Hid (MK w (Y2.drewN q) p ⟨Pl, some ⟨eb, eo, none⟩, sc, ta, tc⟩ pg N g (W3.heap.size + 1) (.slice (some ⟨nb, 0, none⟩) s1.1.length nc) mv1 s1) := PR.out.below (below_drewN (Below.refl _ _) q)
                  replace WII : Hid (InnN w.heap.size (Y2.drewN q) (.slice wia WI.length wic) WI) := WII.out
                  replace STI : Hid (InnN w.heap.size (Y2.drewN q) (.slice sta ST.length stc) ST) := STI.out
                  replace WAT : Hid (At (Y2.drewN q) wia WI) := At.drewN WAT.out q
                  obtain ⟨U, HU⟩ : ∃ U, Hid (U = Y2.drewN q) := ⟨_, rfl⟩
                  rw [← HU.out] at PR WII STI WAT ⊢
                  have z0 := PR.out.kv.cell 0 rfl
                  by_cases hal2 : a < s1.1.length
                  · obtain ⟨y, HY⟩ : ∃ y, Hid (s1.1[a]? = some y) := ⟨_, List.getElem?_eq_getElem hal2⟩
                    obtain ⟨nb', nc', yv, hnv, -, -, cy, iy⟩ := PR.out.on.get HY.out
                    cases hnv
                    obtain ⟨ya, yc, hyv, yat, yln⟩ := iy.at
                    subst hyv
                    have KEY : Hid (Calls Tryd.prog 19 #[.slice ya y.length yc, .slice wia WI.length wic] U fun e w' => e = .returned (.bool (sameB y WI)) ∧ ∃ r, w' = U.drewN r) := same_any ya wia yc wic y WI U yat WAT.out yln WLN.out
                    have haI : (a : Int) < (s1.1.length : Int) := by omega
                    clear iy yat yln
                    go_wp2_with fail
                    refine KEY.out.mono ?_
                    rintro e' U' ⟨rfl, r, rfl⟩
                    clear KEY cy z0
                    cases hsm : sameB y WI with
                    | false =>
                      have HP2 : Hid (posN s1.1 WI = (a + 1) + posN (s1.1.drop (a + 1)) WI) := posN_skip HY.out HP.out (fun e => by rw [e] at hsm; simp [sameB] at hsm)
                      have HVr : Hid (U.drewN r = Y2.drewN (q + r)) := by show _ = _; rw [HU.out, World.drewN_drewN]
                      rw [HVr.out]
                      clear hsm
                      go_wp2_with fail
                      go_roundw
                      case rel => exact ⟨a + 1, _, by go_num, by omega, rfl, HP2⟩
                      case measure => simp [intOf]; omega
                    | true =>
                      have HP2 : Hid (posN s1.1 WI = a) := posN_hit HY.out HP.out (by simpa [sameB] using hsm)
                      have HVS2 : Hid (veStep p (fun r => g (numN r)) free n node s1 e = (s1.1, s1.2 ++ [⟨n, e, ST, a⟩])) := by show _ = _; rw [HVS.out, HP2.out, if_neg (by omega)]
                      replace PR : Hid (MK w (U.drewN r) p ⟨Pl, some ⟨eb, eo, none⟩, sc, ta, tc⟩ pg N g (W3.heap.size + 1) (.slice (some ⟨nb, 0, none⟩) s1.1.length nc) mv1 s1) := PR.out.below (below_drewN (Below.refl _ _) r)
                      replace STI : Hid (InnN w.heap.size (U.drewN r) (.slice sta ST.length stc) ST) := STI.out
                      clear hsm WAT WII
                      revert PR STI
                      generalize U.drewN r = U2
                      intro PR STI
                      have z0 := PR.out.kv.cell 0 rfl
                      have da : ((a : Int) == (s1.1.length : Int)) = false := beq_eq_false_iff_ne.2 (by omega)
                      obtain ⟨ms, mho, mhi⟩ := PR.out.om
                      have HO : Hid (World.ownsRow U2 (w.heap.size + 2) 79 4 mv1 s1.2.length ms) := mho
                      have HI := Hid.of mhi
                      obtain ⟨ma, mc, hmv, -, -, -⟩ := own_form2 HO.out
                      subst hmv
                      clear mho mhi
                      have hBU := PR.out.hB
                      have z1 := PR.out.kv.cell 1 rfl
                      have bU : Below U2.heap.size U2 (U2.alloc (.cells #[.int .i64 (n : Int), .int .i64 e, .slice sta ST.length stc, .int .i64 (a : Int)] 79)) := (Below.refl _ _).alloc (Nat.le_refl _) _
                      go_wp2_with (at_builtin; refine wpList_append_block _ rfl (.tmp 106) (.tmp 112) 70 rfl (w.heap.size + 2) 79 j0 (.agg #[.int .i64 0, .int .i64 0, .slice none 0 0, .int .i64 0]) 4 48 Tryd.underlying70 ji jz0 jz1 jz2 rfl (by decide) _ _ _ rfl (World.ownsRow.alloc HO.out _) _ 1 1 [.int .i64 (n : Int), .int .i64 e, .slice sta ST.length stc, .int .i64 (a : Int)] rfl rfl (cells_quad _ _ (rfl) _ _ _ _ _) (by intro u hu; simp at hu; rcases hu with rfl | rfl | rfl | rfl <;> rfl) (by decide) (by unfold maxLen; omega) (by omega) (Nat.le_trans hBU (by simp)) ?_)
                      intro v8 w8 o8 g8 n8
                      obtain ⟨ga, gc, hv8, -, -, -⟩ := own_form2 o8
                      subst hv8
                      obtain ⟨e1, e2⟩ := MK.pushM (m := ⟨n, e, ST, a⟩) PR.out bU (World.ownsRow.alloc HO.out _) (fun k m hm => by
                        obtain ⟨t0, t1, ⟨x, t2, t3⟩, t4⟩ := HI.out k m hm
                        exact ⟨t0, t1, ⟨x, t2, t3.kept bU.size (fun j hj => bU.block j (by omega)) (fun q cs hq => bU.block q (Array.getElem?_eq_some_iff.1 hq).1)⟩, t4⟩) (STI.out.kept bU.size (fun j hj => bU.block j (by omega)) (fun q cs hq => bU.block q (Array.getElem?_eq_some_iff.1 hq).1)) o8 g8
                      have y1 := e1.cell 1 rfl
                      have yf := e1.frozen
                      have E2 := Hid.of e2
                      clear e1 e2 o8 g8 n8 z1 hBU bU HO HI
                      go_wp2_with fail
                      clear y1 yf
                      revert E2
                      generalize w8.setCell ⟨W3.heap.size + 1, 1, none⟩ (.slice ga (s1.2.length + 1) gc) = Y
                      intro E2
                      go_roundw
                      case rel => exact ⟨k + 1, _, _, by go_num, by omega, (by show MK _ _ _ _ _ _ _ _ _ _ _; rw [HSuc.out, HVS2.out]; exact E2.out)⟩
                      case measure => simp [intOf]; omega
                  · have hae : a = s1.1.length := by omega
                    subst hae
                    have HP2 : Hid (posN s1.1 WI = s1.1.length) := posN_end HP.out
                    have HVS2 : Hid (veStep p (fun r => g (numN r)) free n node s1 e = (s1.1 ++ [WI], s1.2 ++ [⟨n, e, ST, s1.1.length⟩])) := by show _ = _; rw [HVS.out, HP2.out, if_pos rfl]
                    clear hal2 WAT
                    obtain ⟨vs, ho, hin⟩ := PR.out.on
                    have HO := Hid.of ho
                    have HI := Hid.of hin
                    clear ho hin
                    have hBU := PR.out.hB
                    have bU : Below U.heap.size U (U.alloc (.cells #[.slice wia WI.length wic] 22)) := (Below.refl _ _).alloc (Nat.le_refl _) _
                    go_wp2_with (at_builtin; refine wpList_append_block _ rfl (.tmp 100) (.tmp 102) 69 rfl (w.heap.size + 2) 22 i1 (.slice none 0 0) 1 24 Tryd.underlying69 hi hz0 hz1 hz2 rfl (by decide) _ _ _ rfl (World.ownsRow.alloc HO.out _) ⟨U.heap.size, 0, none⟩ 1 1 [.slice wia WI.length wic] rfl rfl (cell_one_new _ _ _) (by intro u hu; simp at hu; subst hu; rfl) (by decide) (by unfold maxLen; omega) (by omega) (by simp; omega) ?_)
                    intro v7 w7 o7 g7 n7
                    obtain ⟨ha, hc, hv7, -, -, -⟩ := own_form2 o7
                    subst hv7
                    obtain ⟨e3, e2, e4⟩ := MK.pushN (xs := WI) PR.out bU (World.ownsRow.alloc HO.out _) (fun j x xs a1 a2 => (HI.out j x xs a1 a2).kept bU.size (fun j hj => bU.block j (by omega)) (fun q cs hq => bU.block q (Array.getElem?_eq_some_iff.1 hq).1)) (WII.out.kept bU.size (fun j hj => bU.block j (by omega)) (fun q cs hq => bU.block q (Array.getElem?_eq_some_iff.1 hq).1)) o7 g7
                    have y0 := e3.cell 0 rfl
                    have yf := e3.frozen
                    have PN := Hid.of e2
                    replace STI := Hid.of (e4 _ _ (STI.out.kept bU.size (fun j hj => bU.block j (by omega)) (fun q cs hq => bU.block q (Array.getElem?_eq_some_iff.1 hq).1)))
                    have w1 := e3.cell 1 rfl
                    clear e2 e3 e4 o7 g7 n7 HO HI bU hBU WII PR z0
                    have hlN : (s1.1 ++ [WI]).length = s1.1.length + 1 := by simp
                    obtain ⟨ms, mho, mhi⟩ := PN.out.om
                    have HO : Hid (World.ownsRow (w7.setCell ⟨W3.heap.size + 1, 0, none⟩ (.slice ha (s1.1.length + 1) hc)) (w.heap.size + 2) 79 4 mv1 s1.2.length ms) := mho
                    have HI := Hid.of mhi
                    obtain ⟨ma, mc, hmv, -, -, -⟩ := own_form2 HO.out
                    subst hmv
                    clear mho mhi
                    have hBU := PN.out.hB
                    have z1 := PN.out.kv.cell 1 rfl
                    have bU : Below (w7.setCell ⟨W3.heap.size + 1, 0, none⟩ (.slice ha (s1.1.length + 1) hc)).heap.size (w7.setCell ⟨W3.heap.size + 1, 0, none⟩ (.slice ha (s1.1.length + 1) hc)) ((w7.setCell ⟨W3.heap.size + 1, 0, none⟩ (.slice ha (s1.1.length + 1) hc)).alloc (.cells #[.int .i64 (n : Int), .int .i64 e, .slice sta ST.length stc, .int .i64 (s1.1.length : Int)] 79)) := (Below.refl _ _).alloc (Nat.le_refl _) _
                    go_wp2_with (at_builtin; refine wpList_append_block _ rfl (.tmp 106) (.tmp 112) 70 rfl (w.heap.size + 2) 79 j0 (.agg #[.int .i64 0, .int .i64 0, .slice none 0 0, .int .i64 0]) 4 48 Tryd.underlying70 ji jz0 jz1 jz2 rfl (by decide) _ _ _ rfl (World.ownsRow.alloc HO.out _) _ 1 1 [.int .i64 (n : Int), .int .i64 e, .slice sta ST.length stc, .int .i64 (s1.1.length : Int)] rfl rfl (cells_quad _ _ (by simp [World.setCell]) _ _ _ _ _) (by intro u hu; simp at hu; rcases hu with rfl | rfl | rfl | rfl <;> rfl) (by decide) (by unfold maxLen; omega) (by omega) (Nat.le_trans hBU (by simp)) ?_)
                    intro v8 w8 o8 g8 n8
                    obtain ⟨ga, gc, hv8, -, -, -⟩ := own_form2 o8
                    subst hv8
                    obtain ⟨e1, e2⟩ := MK.pushM (m := ⟨n, e, ST, s1.1.length⟩) PN.out bU (World.ownsRow.alloc HO.out _) (fun k m hm => by
                      obtain ⟨t0, t1, ⟨x, t2, t3⟩, t4⟩ := HI.out k m hm
                      exact ⟨t0, t1, ⟨x, t2, t3.kept bU.size (fun j hj => bU.block j (by omega)) (fun q cs hq => bU.block q (Array.getElem?_eq_some_iff.1 hq).1)⟩, t4⟩) (STI.out.kept bU.size (fun j hj => bU.block j (by omega)) (fun q cs hq => bU.block q (Array.getElem?_eq_some_iff.1 hq).1)) o8 g8
                    have y1 := e1.cell 1 rfl
                    have yf := e1.frozen
                    have E2 := Hid.of e2
                    clear e1 e2 o8 g8 n8 z1 hBU bU HO HI
                    go_wp2_with fail
                    clear y1 yf
                    revert E2
                    generalize w8.setCell ⟨W3.heap.size + 1, 1, none⟩ (.slice ga (s1.2.length + 1) gc) = Y
                    intro E2
                    go_roundw
                    case rel => exact ⟨k + 1, _, _, by go_num, by omega, (by show MK _ _ _ _ _ _ _ _ _ _ _; rw [HSuc.out, HVS2.out]; exact E2.out)⟩
                    case measure => simp [intOf]; omega
            · have hkl : k = p.seen.length := by omega
              subst hkl
              obtain ⟨y0, y1, y2, y3, y4, y5, y6⟩ := ptcell_at PR.out.kp
              clear hks
              go_wp2_with fail
              go_roundw
              case rel => exact ⟨n + 1, _, _, _, by go_num, hlen1, by omega, PR, HV1, HG1⟩
              case measure => simp [intOf]; omega
        · have hnl : n = s.1.length := by omega
          subst hnl
          have HEND : Hid (makeV p (fun r => g (numN r)) free = some s) := by
            show _ = _
            rw [HMK.out, HG.out, show 65 - s.1.length = (64 - s.1.length) + 1 by omega]
            show some (match s.1[s.1.length]? with | none => s | some node => _) = _
            rw [List.getElem?_eq_none (Nat.le_refl _)]
          obtain ⟨L, hnv, hmv, hva⟩ := PM.out.fin hb64 (by omega)
          subst hnv; subst hmv
          have HVA := Hid.of hva
          have BB := Hid.of (below_setv PM.out.bel (b' := w.heap.size + 1) (by omega) (.slice L.na s.1.length L.nc) (.slice L.ma s.2.length L.mc))
          have KK := Hid.of (blk_ve PM.out.k4 (.slice L.na s.1.length L.nc) (.slice L.ma s.2.length L.mc))
          have y0 := PM.out.kv.cell 0 rfl
          have y1 := PM.out.kv.cell 1 rfl
          have r0 := PM.out.k4.cell 0 rfl
          have r1 := PM.out.k4.cell 1 rfl
          have fz := PM.out.k4.frozen
          clear hva hlt
          go_wp2_with fail
          refine bodyPost_ret (v := .tuple #[vval s L, .bool true]) (results_veTmp (p := 4) (u := 5) rfl _ _ (w.heap.size + 1) _ _ _ rfl rfl KK.out ⟨_, _, _, rfl⟩ ⟨_, _, _, rfl⟩) rfl ?_
          refine ⟨_, TG.out, ?_⟩
          rw [HEND.out]
          exact ⟨L, rfl, HVA.out, BB.out⟩

end Go.Proofs.YtmlkpdeidpcidaaDoor
