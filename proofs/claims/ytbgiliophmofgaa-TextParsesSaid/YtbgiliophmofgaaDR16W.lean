/-
  The walk of jalousieref16.Parse.
-/
import Derived.Deep.RegionHeld3
import Derived.Test.YtbgiliophmofgaaDR16CL
namespace Go.Proofs.Ytbgiliophmofgaa
open Go.RowKit
set_option linter.unusedVariables false

set_option maxRecDepth 100000 in
set_option maxHeartbeats 16000000 in
theorem parse16_any (s : Str) (w : World) :
    Calls Try.prog 8 #[strV s] w fun e w' => ParPost w s e w' := by
  have hsz : (⟨s.toArray⟩ : ByteArray).size = s.length := by simp [ByteArray.size]
  obtain ⟨S, HS⟩ : ∃ S : ByteArray, Hid (S = ⟨s.toArray⟩) := ⟨_, rfl⟩
  have e0 : strV s = .string S := by rw [HS.out]
  have HE0 := Hid.of e0
  rw [e0]
  rw [← HS.out] at hsz
  clear e0
  have B : Hid (Below w.heap.size w (((w.alloc (.cells #[.slice none 0 0, .slice none 0 0, .int .i64 0, .int .i64 0, .slice none 0 0, .slice none 0 0, .slice none 0 0, .slice none 0 0, .slice none 0 0, .slice none 0 0, .slice none 0 0] 28)).alloc (.cells #[.int .i64 0, .int .i64 0] 31)).alloc (.cells #[.slice none 0 0, .slice none 0 0, .int .i64 0, .int .i64 0, .slice none 0 0, .slice none 0 0, .slice none 0 0, .slice none 0 0, .slice none 0 0, .slice none 0 0, .slice none 0 0] 28))) := (((Below.refl _ _).alloc (Nat.le_refl _) _).alloc (by simp) _).alloc (by simp; omega) _
  have K2 : Hid (Blk (((w.alloc (.cells #[.slice none 0 0, .slice none 0 0, .int .i64 0, .int .i64 0, .slice none 0 0, .slice none 0 0, .slice none 0 0, .slice none 0 0, .slice none 0 0, .slice none 0 0, .slice none 0 0] 28)).alloc (.cells #[.int .i64 0, .int .i64 0] 31)).alloc (.cells #[.slice none 0 0, .slice none 0 0, .int .i64 0, .int .i64 0, .slice none 0 0, .slice none 0 0, .slice none 0 0, .slice none 0 0, .slice none 0 0, .slice none 0 0, .slice none 0 0] 28)) (w.heap.size) 28 #[.slice none 0 0, .slice none 0 0, .int .i64 0, .int .i64 0, .slice none 0 0, .slice none 0 0, .slice none 0 0, .slice none 0 0, .slice none 0 0, .slice none 0 0, .slice none 0 0]) := ((Blk.new w _ _).alloc _).alloc _
  have K3 : Hid (Blk (((w.alloc (.cells #[.slice none 0 0, .slice none 0 0, .int .i64 0, .int .i64 0, .slice none 0 0, .slice none 0 0, .slice none 0 0, .slice none 0 0, .slice none 0 0, .slice none 0 0, .slice none 0 0] 28)).alloc (.cells #[.int .i64 0, .int .i64 0] 31)).alloc (.cells #[.slice none 0 0, .slice none 0 0, .int .i64 0, .int .i64 0, .slice none 0 0, .slice none 0 0, .slice none 0 0, .slice none 0 0, .slice none 0 0, .slice none 0 0, .slice none 0 0] 28)) (w.heap.size + 1) 31 #[.int .i64 0, .int .i64 0]) := by
    have := (Blk.new (w.alloc (.cells #[.slice none 0 0, .slice none 0 0, .int .i64 0, .int .i64 0, .slice none 0 0, .slice none 0 0, .slice none 0 0, .slice none 0 0, .slice none 0 0, .slice none 0 0, .slice none 0 0] 28)) 31 #[.int .i64 0, .int .i64 0]).alloc (.cells #[.slice none 0 0, .slice none 0 0, .int .i64 0, .int .i64 0, .slice none 0 0, .slice none 0 0, .slice none 0 0, .slice none 0 0, .slice none 0 0, .slice none 0 0, .slice none 0 0] 28)
    rwa [World.size_alloc] at this
  have K4 : Hid (Blk (((w.alloc (.cells #[.slice none 0 0, .slice none 0 0, .int .i64 0, .int .i64 0, .slice none 0 0, .slice none 0 0, .slice none 0 0, .slice none 0 0, .slice none 0 0, .slice none 0 0, .slice none 0 0] 28)).alloc (.cells #[.int .i64 0, .int .i64 0] 31)).alloc (.cells #[.slice none 0 0, .slice none 0 0, .int .i64 0, .int .i64 0, .slice none 0 0, .slice none 0 0, .slice none 0 0, .slice none 0 0, .slice none 0 0, .slice none 0 0, .slice none 0 0] 28)) (w.heap.size + 1 + 1) 28 #[.slice none 0 0, .slice none 0 0, .int .i64 0, .int .i64 0, .slice none 0 0, .slice none 0 0, .slice none 0 0, .slice none 0 0, .slice none 0 0, .slice none 0 0, .slice none 0 0]) := by
    have := Blk.new ((w.alloc (.cells #[.slice none 0 0, .slice none 0 0, .int .i64 0, .int .i64 0, .slice none 0 0, .slice none 0 0, .slice none 0 0, .slice none 0 0, .slice none 0 0, .slice none 0 0, .slice none 0 0] 28)).alloc (.cells #[.int .i64 0, .int .i64 0] 31)) 28 #[.slice none 0 0, .slice none 0 0, .int .i64 0, .int .i64 0, .slice none 0 0, .slice none 0 0, .slice none 0 0, .slice none 0 0, .slice none 0 0, .slice none 0 0, .slice none 0 0]
    rwa [World.size_alloc, World.size_alloc] at this
  go_enter Try.func8, Try.ntmps8
  by_cases hlong : 4000 < s.length
  · have HP := Hid.of (parse_long hlong)
    have hlI : (4000 : Int) < (S.size : Int) := by rw [hsz]; omega
    have hlN : 4000 < S.size := by rw [hsz]; exact hlong
    clear hlong
    have F2 : Hid (Blk (((w.alloc (.cells #[.slice none 0 0, .slice none 0 0, .int .i64 0, .int .i64 0, .slice none 0 0, .slice none 0 0, .slice none 0 0, .slice none 0 0, .slice none 0 0, .slice none 0 0, .slice none 0 0] 28)).alloc (.cells #[.int .i64 1, .int .i64 0] 31)).alloc (.cells #[.slice none 0 0, .slice none 0 0, .int .i64 0, .int .i64 0, .slice none 0 0, .slice none 0 0, .slice none 0 0, .slice none 0 0, .slice none 0 0, .slice none 0 0, .slice none 0 0] 28)) (w.heap.size) 28 #[.slice none 0 0, .slice none 0 0, .int .i64 0, .int .i64 0, .slice none 0 0, .slice none 0 0, .slice none 0 0, .slice none 0 0, .slice none 0 0, .slice none 0 0, .slice none 0 0]) := ((Blk.new w _ _).alloc _).alloc _
    have F3 : Hid (Blk (((w.alloc (.cells #[.slice none 0 0, .slice none 0 0, .int .i64 0, .int .i64 0, .slice none 0 0, .slice none 0 0, .slice none 0 0, .slice none 0 0, .slice none 0 0, .slice none 0 0, .slice none 0 0] 28)).alloc (.cells #[.int .i64 1, .int .i64 0] 31)).alloc (.cells #[.slice none 0 0, .slice none 0 0, .int .i64 0, .int .i64 0, .slice none 0 0, .slice none 0 0, .slice none 0 0, .slice none 0 0, .slice none 0 0, .slice none 0 0, .slice none 0 0] 28)) (w.heap.size + 1) 31 #[.int .i64 1, .int .i64 0]) := by
      have := (Blk.new (w.alloc (.cells #[.slice none 0 0, .slice none 0 0, .int .i64 0, .int .i64 0, .slice none 0 0, .slice none 0 0, .slice none 0 0, .slice none 0 0, .slice none 0 0, .slice none 0 0, .slice none 0 0] 28)) 31 #[.int .i64 1, .int .i64 0]).alloc (.cells #[.slice none 0 0, .slice none 0 0, .int .i64 0, .int .i64 0, .slice none 0 0, .slice none 0 0, .slice none 0 0, .slice none 0 0, .slice none 0 0, .slice none 0 0, .slice none 0 0] 28)
      rwa [World.size_alloc] at this
    have FB : Hid (Below w.heap.size w (((w.alloc (.cells #[.slice none 0 0, .slice none 0 0, .int .i64 0, .int .i64 0, .slice none 0 0, .slice none 0 0, .slice none 0 0, .slice none 0 0, .slice none 0 0, .slice none 0 0, .slice none 0 0] 28)).alloc (.cells #[.int .i64 1, .int .i64 0] 31)).alloc (.cells #[.slice none 0 0, .slice none 0 0, .int .i64 0, .int .i64 0, .slice none 0 0, .slice none 0 0, .slice none 0 0, .slice none 0 0, .slice none 0 0, .slice none 0 0, .slice none 0 0] 28))) := (((Below.refl _ _).alloc (Nat.le_refl _) _).alloc (by simp) _).alloc (by simp; omega) _
    go_wp2_with fail
    exact bodyPost_ret (results_pj (p := 2) (u := 3) rfl _ _ (w.heap.size) (w.heap.size + 1) _ _ _ _ _ _ _ _ _ _ _ _ _ _ _ _ _ _ _ _ _ _ _ _ _ _ _ _ _ _ _ rfl rfl F2.out F3.out) rfl (par_err (pos := 0) HP.out FB.out)
  · have HNL := Hid.of hlong
    have hlN : S.size ≤ 4000 := by rw [hsz]; omega
    have hlI : (S.size : Int) ≤ 4000 := by omega
    have hdl : decide ((4000 : Int) < (S.size : Int)) = false := by simp; omega
    clear hlong
    go_wp2_with fail
    revert B K2 K3 K4
    generalize (((w.alloc (.cells #[.slice none 0 0, .slice none 0 0, .int .i64 0, .int .i64 0, .slice none 0 0, .slice none 0 0, .slice none 0 0, .slice none 0 0, .slice none 0 0, .slice none 0 0, .slice none 0 0] 28)).alloc (.cells #[.int .i64 0, .int .i64 0] 31)).alloc (.cells #[.slice none 0 0, .slice none 0 0, .int .i64 0, .int .i64 0, .slice none 0 0, .slice none 0 0, .slice none 0 0, .slice none 0 0, .slice none 0 0, .slice none 0 0, .slice none 0 0] 28)) = V0
    intro B K2 K3 K4
    rw [← HE0.out]
    refine (tokens_any s (by rw [← hsz]; exact hlN) V0).mono ?_
    rintro e V1 ⟨lv, rfl, htk, hb⟩
    obtain ⟨T, HT⟩ : ∃ T, Hid (tokR (s.length + 1) 0 s = T) := ⟨_, rfl⟩
    have hTl : T.1.length ≤ 4000 := by
      have := tok_len (s.length + 1) 0 s
      rw [HT.out] at this
      omega
    rw [HT.out] at htk ⊢
    have TK := Hid.of (own_low16 htk B.out.size)
    clear htk
    obtain ⟨tl, er, tp⟩ := T
    dsimp only at hTl TK ⊢
    replace K2 := Hid.of (K2.out.below hb K2.out.lt)
    replace K3 := Hid.of (K3.out.below hb K3.out.lt)
    replace K4 := Hid.of (K4.out.below hb K4.out.lt)
    replace B := Hid.of (B.out.trans (hb.mono B.out.size))
    clear hb
    have hb : Below V1.heap.size V1 (V1.alloc (.cells #[.int .i64 er, .int .i64 (tp : Int)] 31)) := (Below.refl _ _).alloc (Nat.le_refl _) _
    have KF : Hid (Blk (V1.alloc (.cells #[.int .i64 er, .int .i64 (tp : Int)] 31)) V1.heap.size 31 #[.int .i64 er, .int .i64 (tp : Int)]) := Blk.new V1 _ _
    have HKF : Hid (w.heap.size + 1 + 1 < V1.heap.size) := K4.out.lt
    replace TK : Hid (OwnTk (V1.alloc (.cells #[.int .i64 er, .int .i64 (tp : Int)] 31)) w.heap.size lv tl) := World.ownsRow.alloc TK.out _
    replace K2 := Hid.of (K2.out.below hb K2.out.lt)
    replace K3 := Hid.of (K3.out.below hb K3.out.lt)
    replace K4 := Hid.of (K4.out.below hb K4.out.lt)
    replace B := Hid.of (B.out.trans (hb.mono B.out.size))
    clear hb
    have u0 := KF.out.cell 0 rfl
    have u1 := KF.out.cell 1 rfl
    by_cases he : er = 0
    · subst he
      go_wp2_with fail
      clear u0 u1
      revert B K2 K3 K4 KF TK HKF
      generalize V1.alloc (.cells #[.int .i64 0, .int .i64 (tp : Int)] 31) = V2
      generalize V1.heap.size = pf
      intro KF HKF TK K2 K3 K4 B
      clear KF
      obtain ⟨O, HO⟩ : ∃ O, Hid (fmGo ⟨0, 0, 1⟩ (tl.map kt) = O) := ⟨_, rfl⟩
      have hOl : O.1.length ≤ tl.length := by
        have := fm_le (tl.map kt) ⟨0, 0, 1⟩
        rw [HO.out, List.length_map] at this
        exact this
      have HOB : Hid (∀ k ∈ O.1, -1 ≤ k ∧ k ≤ 8) := by
        have := fm_bd (tl.map kt) ⟨0, 0, 1⟩ (fun h => absurd rfl h)
        rw [HO.out] at this
        exact this
      refine (form_any w.heap.size lv tl V2 hTl TK.out O HO).mono ?_
      rintro e V3 ⟨ov, rfl, how, hb⟩
      have OF := Hid.of (own_low16 how B.out.size)
      replace TK : Hid (OwnTk V3 w.heap.size lv tl) := own_same TK.out (fun k hk => hb.block k (World.ownsRow.lt TK.out k hk).2)
      clear how
      replace K2 := Hid.of (K2.out.below hb K2.out.lt)
      replace K3 := Hid.of (K3.out.below hb K3.out.lt)
      replace K4 := Hid.of (K4.out.below hb K4.out.lt)
      replace B := Hid.of (B.out.trans (hb.mono B.out.size))
      clear hb
      obtain ⟨ol, os⟩ := O
      dsimp only at hOl HOB OF ⊢
      obtain ⟨oa, oc, hov, -, -, -⟩ := own_form2 OF.out
      subst hov
      obtain ⟨la, lc, hlv, -, -, -⟩ := own_form2 TK.out
      subst hlv
      by_cases hr : ol.length < tl.length
      · obtain ⟨t, HTO⟩ : ∃ t, Hid (tl[ol.length]? = some t) := ⟨_, List.getElem?_eq_getElem hr⟩
        have HP := Hid.of (parse_form HNL.out HT.out rfl HO.out hr HTO.out)
        obtain ⟨gl, gc, hge, hgl, hct⟩ := OwnTk.cellsT TK.out (by omega)
        cases hge
        have HCT := Hid.of (hct _ _ HTO.out).2.2
        have n2 : gl ≠ w.heap.size := fun e => own_blk TK.out (show V3.heap[w.heap.size]? = _ from K2.out) (by decide) (by rw [← e]; rfl)
        have n3 : gl ≠ w.heap.size + 1 := fun e => own_blk TK.out (show V3.heap[w.heap.size + 1]? = _ from K3.out) (by decide) (by rw [← e]; rfl)
        have N2 := Hid.of n2
        have N3 := Hid.of n3
        have hrI : (ol.length : Int) < (tl.length : Int) := by omega
        clear n2 n3 hct hgl hOl
        go_wp2_with fail
        rw [Nat.zero_add] at HCT
        have SA : Hid (∀ X : World, X.heap[w.heap.size + 1 + 1]? = V3.heap[w.heap.size + 1 + 1]? → X.heap[gl]? = V3.heap[gl]? → X.cell? ⟨w.heap.size + 1 + 1, 0, none⟩ = some (.slice none 0 0) ∧ X.cell? ⟨w.heap.size + 1 + 1, 1, none⟩ = some (.slice none 0 0) ∧ X.cell? ⟨w.heap.size + 1 + 1, 2, none⟩ = some (.int .i64 0) ∧ X.cell? ⟨w.heap.size + 1 + 1, 3, none⟩ = some (.int .i64 0) ∧ X.cell? ⟨w.heap.size + 1 + 1, 4, none⟩ = some (.slice none 0 0) ∧ X.cell? ⟨w.heap.size + 1 + 1, 5, none⟩ = some (.slice none 0 0) ∧ X.cell? ⟨w.heap.size + 1 + 1, 6, none⟩ = some (.slice none 0 0) ∧ X.cell? ⟨w.heap.size + 1 + 1, 7, none⟩ = some (.slice none 0 0) ∧ X.cell? ⟨w.heap.size + 1 + 1, 8, none⟩ = some (.slice none 0 0) ∧ X.cell? ⟨w.heap.size + 1 + 1, 9, none⟩ = some (.slice none 0 0) ∧ X.cell? ⟨w.heap.size + 1 + 1, 10, none⟩ = some (.slice none 0 0) ∧ X.cell? ⟨gl, ol.length * 3 + 2, none⟩ = some (.int .i64 (t.pos : Int))) := fun X hX4 hXF => by
          have k4 : Blk X (w.heap.size + 1 + 1) 28 #[.slice none 0 0, .slice none 0 0, .int .i64 0, .int .i64 0, .slice none 0 0, .slice none 0 0, .slice none 0 0, .slice none 0 0, .slice none 0 0, .slice none 0 0, .slice none 0 0] := hX4.trans K4.out
          obtain ⟨a0, a1, a2, a3, a4, a5, a6, a7, a8, a9, a10⟩ := pj11 k4
          exact ⟨a0, a1, a2, a3, a4, a5, a6, a7, a8, a9, a10, by rw [World.cell?_of_block (w := V3) hXF]; exact HCT.out⟩
        refine wp_region_held_drew (S := fun w' => w'.cell? ⟨w.heap.size + 1 + 1, 0, none⟩ = some (.slice none 0 0) ∧ w'.cell? ⟨w.heap.size + 1 + 1, 1, none⟩ = some (.slice none 0 0) ∧ w'.cell? ⟨w.heap.size + 1 + 1, 2, none⟩ = some (.int .i64 0) ∧ w'.cell? ⟨w.heap.size + 1 + 1, 3, none⟩ = some (.int .i64 0) ∧ w'.cell? ⟨w.heap.size + 1 + 1, 4, none⟩ = some (.slice none 0 0) ∧ w'.cell? ⟨w.heap.size + 1 + 1, 5, none⟩ = some (.slice none 0 0) ∧ w'.cell? ⟨w.heap.size + 1 + 1, 6, none⟩ = some (.slice none 0 0) ∧ w'.cell? ⟨w.heap.size + 1 + 1, 7, none⟩ = some (.slice none 0 0) ∧ w'.cell? ⟨w.heap.size + 1 + 1, 8, none⟩ = some (.slice none 0 0) ∧ w'.cell? ⟨w.heap.size + 1 + 1, 9, none⟩ = some (.slice none 0 0) ∧ w'.cell? ⟨w.heap.size + 1 + 1, 10, none⟩ = some (.slice none 0 0) ∧ w'.cell? ⟨gl, ol.length * 3 + 2, none⟩ = some (.int .i64 (t.pos : Int))) (by kernel_rfl) (SA.out _ rfl rfl) (fun hS => ?_)
        have Q2 : Hid (Blk V3.drew (w.heap.size) 28 #[.slice none 0 0, .slice none 0 0, .int .i64 0, .int .i64 0, .slice none 0 0, .slice none 0 0, .slice none 0 0, .slice none 0 0, .slice none 0 0, .slice none 0 0, .slice none 0 0]) := K2.out
        have Q3 : Hid (Blk V3.drew (w.heap.size + 1) 31 #[.int .i64 0, .int .i64 0]) := K3.out
        have QB : Hid (Below w.heap.size w V3.drew) := B.out.drew
        have QX4 : Hid (V3.drew.heap[w.heap.size + 1 + 1]? = V3.heap[w.heap.size + 1 + 1]?) := rfl
        have QXF : Hid (V3.drew.heap[gl]? = V3.heap[gl]?) := rfl
        have HKF2 := HKF
        revert hS Q2 Q3 QB QX4 QXF
        generalize V3.drew = Y0
        intro hS Q2 Q3 QB QX4 QXF
        refine wpAnyH_take (i := 0) (v := .agg #[.slice none 0 0, .slice none 0 0, .int .i64 0, .int .i64 0, .slice none 0 0, .slice none 0 0, .slice none 0 0, .slice none 0 0, .slice none 0 0, .slice none 0 0, .slice none 0 0]) rfl (by kernel_rfl) (by kernel_rfl) (by kernel_rfl) (fun _ _ _ h => h) (Or.inl ⟨by kernel_rfl, fun w' hw' => by obtain ⟨q0, q1, q2, q3, q4, q5, q6, q7, q8, q9, q10, q11⟩ := hw'; go_simp⟩) hS ?_
        refine wpAnyH_take (i := 1) (v := .slice (some ⟨gl, 0, none⟩) tl.length lc) rfl (by kernel_rfl) (by kernel_rfl) (by kernel_rfl) (fun _ _ _ h => h) (Or.inl ⟨by kernel_rfl, fun w' hw' => by obtain ⟨q0, q1, q2, q3, q4, q5, q6, q7, q8, q9, q10, q11⟩ := hw'; go_simp⟩) hS ?_
        refine wpAnyH_take (i := 2) (v := .int .i64 (ol.length : Int)) rfl (by kernel_rfl) (by kernel_rfl) (by kernel_rfl) (fun _ _ _ h => h) (Or.inl ⟨by kernel_rfl, fun w' hw' => by obtain ⟨q0, q1, q2, q3, q4, q5, q6, q7, q8, q9, q10, q11⟩ := hw'; go_simp⟩) hS ?_
        refine wpAnyH_take (i := 3) (v := .pointer (some ⟨gl, ol.length * 3, none⟩)) rfl (by kernel_rfl) (by kernel_rfl) (by kernel_rfl) (fun _ _ _ h => h) (Or.inl ⟨by kernel_rfl, fun w' hw' => by obtain ⟨q0, q1, q2, q3, q4, q5, q6, q7, q8, q9, q10, q11⟩ := hw'; go_simp⟩) hS ?_
        refine wpAnyH_take (i := 4) (v := .pointer (some ⟨gl, ol.length * 3 + 2, none⟩)) rfl (by kernel_rfl) (by kernel_rfl) (by kernel_rfl) (fun _ _ _ h => h) (Or.inl ⟨by kernel_rfl, fun w' hw' => by obtain ⟨q0, q1, q2, q3, q4, q5, q6, q7, q8, q9, q10, q11⟩ := hw'; go_simp⟩) hS ?_
        refine wpAnyH_take (i := 5) (v := .int .i64 (t.pos : Int)) rfl (by kernel_rfl) (by kernel_rfl) (by kernel_rfl) (fun _ _ _ h => h) (Or.inl ⟨by kernel_rfl, fun w' hw' => by obtain ⟨q0, q1, q2, q3, q4, q5, q6, q7, q8, q9, q10, q11⟩ := hw'; go_simp⟩) hS ?_
        refine wpAnyH_take (i := 6) (v := .agg #[.int .i64 2, .int .i64 (t.pos : Int)]) rfl (by kernel_rfl) (by kernel_rfl) (by kernel_rfl) (fun _ _ _ h => h) (Or.inl ⟨by kernel_rfl, fun w' hw' => by obtain ⟨q0, q1, q2, q3, q4, q5, q6, q7, q8, q9, q10, q11⟩ := hw'; go_simp⟩) hS ?_
        simp only [Act.put, List.setIfInBounds_toArray]
        refine wpAnyH_ready (rs := [7]) (by kernel_rfl) (by simp) ?_
        refine AllReadyH.cons rfl (fun K' hK' => ?_) AllReadyH.nil
        clear hS
        have z2 := Q2.out.frozen
        have qq := pj11 Q2.out
        have b0 := qq.1
        have b1 := qq.2.1
        have b2 := qq.2.2.1
        have b3 := qq.2.2.2.1
        have b4 := qq.2.2.2.2.1
        have b5 := qq.2.2.2.2.2.1
        have b6 := qq.2.2.2.2.2.2.1
        have b7 := qq.2.2.2.2.2.2.2.1
        have b8 := qq.2.2.2.2.2.2.2.2.1
        have b9 := qq.2.2.2.2.2.2.2.2.2.1
        have b10 := qq.2.2.2.2.2.2.2.2.2.2
        clear qq
        go_simp
        have hx4 : (setPq Y0 (w.heap.size) (.slice none 0 0) (.slice none 0 0) (.int .i64 0) (.int .i64 0) (.slice none 0 0) (.slice none 0 0) (.slice none 0 0) (.slice none 0 0) (.slice none 0 0) (.slice none 0 0) (.slice none 0 0)).heap[w.heap.size + 1 + 1]? = V3.heap[w.heap.size + 1 + 1]? := (setP_heap _ _ _ _ _ _ _ _ _ _ _ (by omega)).trans QX4.out
        have hxF : (setPq Y0 (w.heap.size) (.slice none 0 0) (.slice none 0 0) (.int .i64 0) (.int .i64 0) (.slice none 0 0) (.slice none 0 0) (.slice none 0 0) (.slice none 0 0) (.slice none 0 0) (.slice none 0 0) (.slice none 0 0)).heap[gl]? = V3.heap[gl]? := (setP_heap _ _ _ _ _ _ _ _ _ _ _ N2.out).trans QXF.out
        refine hK'.out _ _ (SA.out _ hx4 hxF) (fun hS => ?_)
        clear hK' K' z2 b0 b1 b2 b3 b4 b5 b6 b7 b8 b9 b10
        refine wpAnyH_ready (rs := [8]) (by kernel_rfl) (by simp) ?_
        refine AllReadyH.cons rfl (fun K' hK' => ?_) AllReadyH.nil
        clear hS
        have P3 : Blk (setPq Y0 (w.heap.size) (.slice none 0 0) (.slice none 0 0) (.int .i64 0) (.int .i64 0) (.slice none 0 0) (.slice none 0 0) (.slice none 0 0) (.slice none 0 0) (.slice none 0 0) (.slice none 0 0) (.slice none 0 0)) (w.heap.size + 1) 31 #[.int .i64 0, .int .i64 0] := (setP_heap _ _ _ _ _ _ _ _ _ _ _ (by omega)).trans Q3.out
        have z3 := P3.frozen
        have f0 := P3.cell 0 rfl
        have f1 := P3.cell 1 rfl
        have E2 := Hid.of (setPJ_two (.slice none 0 0) (.slice none 0 0) (.int .i64 0) (.int .i64 0) (.slice none 0 0) (.slice none 0 0) (.slice none 0 0) (.slice none 0 0) (.slice none 0 0) (.slice none 0 0) (.slice none 0 0) (.int .i64 2) (.int .i64 (t.pos : Int)) Q2.out (r3 := w.heap.size + 1) (by omega))
        have E3 := Hid.of (setPJ_three (r2 := w.heap.size) (.slice none 0 0) (.slice none 0 0) (.int .i64 0) (.int .i64 0) (.slice none 0 0) (.slice none 0 0) (.slice none 0 0) (.slice none 0 0) (.slice none 0 0) (.slice none 0 0) (.slice none 0 0) (.int .i64 2) (.int .i64 (t.pos : Int)) Q3.out (by omega))
        have EB := Hid.of (setPJ_below (r2 := w.heap.size) (r3 := w.heap.size + 1) (.slice none 0 0) (.slice none 0 0) (.int .i64 0) (.int .i64 0) (.slice none 0 0) (.slice none 0 0) (.slice none 0 0) (.slice none 0 0) (.slice none 0 0) (.slice none 0 0) (.slice none 0 0) (.int .i64 2) (.int .i64 (t.pos : Int)) QB.out (Nat.le_refl _) (by omega))
        go_simp
        have hy4 : (setPJ Y0 (w.heap.size) (w.heap.size + 1) (.slice none 0 0) (.slice none 0 0) (.int .i64 0) (.int .i64 0) (.slice none 0 0) (.slice none 0 0) (.slice none 0 0) (.slice none 0 0) (.slice none 0 0) (.slice none 0 0) (.slice none 0 0) (.int .i64 2) (.int .i64 (t.pos : Int))).heap[w.heap.size + 1 + 1]? = V3.heap[w.heap.size + 1 + 1]? := (setPJ_heap _ _ _ _ _ _ _ _ _ _ _ _ _ (by omega) (by omega)).trans QX4.out
        have hyF : (setPJ Y0 (w.heap.size) (w.heap.size + 1) (.slice none 0 0) (.slice none 0 0) (.int .i64 0) (.int .i64 0) (.slice none 0 0) (.slice none 0 0) (.slice none 0 0) (.slice none 0 0) (.slice none 0 0) (.slice none 0 0) (.slice none 0 0) (.int .i64 2) (.int .i64 (t.pos : Int))).heap[gl]? = V3.heap[gl]? := (setPJ_heap _ _ _ _ _ _ _ _ _ _ _ _ _ N2.out N3.out).trans QXF.out
        refine hK'.out _ _ (SA.out _ hy4 hyF) (fun hS => ?_)
        clear hK' K' z3 f0 f1
        refine wpAnyH_done (by kernel_rfl) ?_ _
        go_wp2_with fail
        exact bodyPost_ret (results_pj (p := 2) (u := 3) rfl _ _ (w.heap.size) (w.heap.size + 1) _ _ _ _ _ _ _ _ _ _ _ _ _ _ _ _ _ _ _ _ _ _ _ _ _ _ _ _ _ _ _ rfl rfl E2.out E3.out) rfl (par_err HP.out EB.out)
      · have hre : ol.length = tl.length := by omega
        have HRE := Hid.of hre
        have dl : decide ((ol.length : Int) < (tl.length : Int)) = false := by simp; omega
        by_cases hw : os.part = 9
        · have HPR := Hid.of (parse_rest HNL.out HT.out rfl HO.out (by dsimp only; omega) hw)
          have dw : decide (ol.length = tl.length ∧ os.part = 9) = true := by simp [hre, hw]
          rw [dw]
          clear hw dw hre hOl
          have hmk := make9
          have hb : Below V3.heap.size V3 ((V3.alloc (.cells #[.slice none 0 0, .slice none 0 0, .int .i64 0, .int .i64 0, .slice none 0 0, .slice none 0 0, .slice none 0 0, .slice none 0 0, .slice none 0 0, .slice none 0 0, .slice none 0 0] 28)).alloc (.cells #[.slice none 0 0, .slice none 0 0, .slice none 0 0, .slice none 0 0, .slice none 0 0, .slice none 0 0, .slice none 0 0, .slice none 0 0, .slice none 0 0] 23)) := ((Below.refl _ _).alloc (Nat.le_refl _) _).alloc (by simp) _
          have KP : Hid (Blk ((V3.alloc (.cells #[.slice none 0 0, .slice none 0 0, .int .i64 0, .int .i64 0, .slice none 0 0, .slice none 0 0, .slice none 0 0, .slice none 0 0, .slice none 0 0, .slice none 0 0, .slice none 0 0] 28)).alloc (.cells #[.slice none 0 0, .slice none 0 0, .slice none 0 0, .slice none 0 0, .slice none 0 0, .slice none 0 0, .slice none 0 0, .slice none 0 0, .slice none 0 0] 23)) V3.heap.size 28 #[.slice none 0 0, .slice none 0 0, .int .i64 0, .int .i64 0, .slice none 0 0, .slice none 0 0, .slice none 0 0, .slice none 0 0, .slice none 0 0, .slice none 0 0, .slice none 0 0]) := (Blk.new V3 _ _).alloc _
          have KR : Hid (Blk ((V3.alloc (.cells #[.slice none 0 0, .slice none 0 0, .int .i64 0, .int .i64 0, .slice none 0 0, .slice none 0 0, .slice none 0 0, .slice none 0 0, .slice none 0 0, .slice none 0 0, .slice none 0 0] 28)).alloc (.cells #[.slice none 0 0, .slice none 0 0, .slice none 0 0, .slice none 0 0, .slice none 0 0, .slice none 0 0, .slice none 0 0, .slice none 0 0, .slice none 0 0] 23)) (V3.heap.size + 1) 23 #[.slice none 0 0, .slice none 0 0, .slice none 0 0, .slice none 0 0, .slice none 0 0, .slice none 0 0, .slice none 0 0, .slice none 0 0, .slice none 0 0]) := by
            have := Blk.new (V3.alloc (.cells #[.slice none 0 0, .slice none 0 0, .int .i64 0, .int .i64 0, .slice none 0 0, .slice none 0 0, .slice none 0 0, .slice none 0 0, .slice none 0 0, .slice none 0 0, .slice none 0 0] 28)) 23 #[.slice none 0 0, .slice none 0 0, .slice none 0 0, .slice none 0 0, .slice none 0 0, .slice none 0 0, .slice none 0 0, .slice none 0 0, .slice none 0 0]
            rwa [World.size_alloc] at this
          have hl4 := K4.out.lt
          have PS := Hid.of (PK.start (B.out.trans (hb.mono B.out.size)) (own_same TK.out (fun k hk => hb.block k (World.ownsRow.lt TK.out k hk).2)) (own_same OF.out (fun k hk => hb.block k (World.ownsRow.lt OF.out k hk).2)) (K2.out.below hb K2.out.lt) (K3.out.below hb K3.out.lt) (K4.out.below hb K4.out.lt) KP.out (by omega) KR.out (by omega))
          clear hb KP KR hl4
          go_wp2_with fail
          clear hmk B K2 K3 K4 TK OF
          revert PS
          generalize (V3.alloc (.cells #[.slice none 0 0, .slice none 0 0, .int .i64 0, .int .i64 0, .slice none 0 0, .slice none 0 0, .slice none 0 0, .slice none 0 0, .slice none 0 0, .slice none 0 0, .slice none 0 0] 28)).alloc (.cells #[.slice none 0 0, .slice none 0 0, .slice none 0 0, .slice none 0 0, .slice none 0 0, .slice none 0 0, .slice none 0 0, .slice none 0 0, .slice none 0 0] 23) = U0
          generalize V3.heap.size = pb
          intro PS
          obtain ⟨i0, hi, hz0, hz1, hz2⟩ := info_parts Try.infoStr
          rename_i hcont
          refine cs_all s w tl la lc pb ol oa oc _ _ _ _ _ _ _ _ _ _ _ _ _ _ _ _ _ _ _ _ _ _ _ _ _ _ _ _ _ _ _ _ _ _ _ _ _ _ _ _ _ _ _ _ _ _ _ _ _ _ _ _ _ _ _ _ _ _ _ _ _ _ _ _ _ _ _ _ _ _ _ _ _ _ _ _ _ _ _ _ _ _ _ _ _ _ _ _ _ _ _ _ _ _ _ _ _ _ _ _ _ _ _ _ _ _ _ _ _ _ _ _ _ _ _ _ _ _ _ _ _ _ _ _ _ _ _ _ _ _ _ _ _ _ _ _ _ _ _ _ _ _ _ _ _ _ _ _ _ _ _ _ _ _ _ _ _ _ _ _ _ _ _ _ _ _ _ _ _ _ _ _ _ _ _ _ _ _ _ _ _ _ _ _ _ _ _ _ _ _ _ _ _ _ _ _ _ _ _ _ _ _ _ _ _ _ _ _ _ _ _ _ _ _ _ _ _ _ _ _ _ _ _ _ _ _ _ _ _ _ _ _ _ _ _ _ _ _ _ _ _ _ _ _ _ _ _ _ _ _ _ _ _ _ _ _ _ _ _ U0 hcont hTl HRE HPR HOB ?_
          exact ⟨0, _, _, _, _, ps0, rfl, Nat.zero_le _, rfl, rfl, by simp [ps0], by simp [ps0], by simp [ps0], by simp [ps0], (fun j => by simp [ps0]), Hid.of rfl, PS, Hid.of rfl⟩
        · have HP := Hid.of (parse_end HNL.out HT.out rfl HO.out (by dsimp only; omega) hw)
          have dw : decide (ol.length = tl.length ∧ os.part = 9) = false := by simp [hw]
          rw [dw]
          clear hw dw hre hOl
          obtain ⟨a0, a1, a2, a3, a4, a5, a6, a7, a8, a9, a10⟩ := pj11 K4.out
          obtain ⟨b0, b1, b2, b3, b4, b5, b6, b7, b8, b9, b10⟩ := pj11 K2.out
          have f0 := K3.out.cell 0 rfl
          have f1 := K3.out.cell 1 rfl
          have z2 := K2.out.frozen
          have z3 := K3.out.frozen
          have E2 := Hid.of (setPJ_two (.slice none 0 0) (.slice none 0 0) (.int .i64 0) (.int .i64 0) (.slice none 0 0) (.slice none 0 0) (.slice none 0 0) (.slice none 0 0) (.slice none 0 0) (.slice none 0 0) (.slice none 0 0) (.int .i64 2) (.int .i64 (s.length : Int)) K2.out (r3 := w.heap.size + 1) (by omega))
          have E3 := Hid.of (setPJ_three (r2 := w.heap.size) (.slice none 0 0) (.slice none 0 0) (.int .i64 0) (.int .i64 0) (.slice none 0 0) (.slice none 0 0) (.slice none 0 0) (.slice none 0 0) (.slice none 0 0) (.slice none 0 0) (.slice none 0 0) (.int .i64 2) (.int .i64 (s.length : Int)) K3.out (by omega))
          have EB := Hid.of (setPJ_below (r2 := w.heap.size) (r3 := w.heap.size + 1) (.slice none 0 0) (.slice none 0 0) (.int .i64 0) (.int .i64 0) (.slice none 0 0) (.slice none 0 0) (.slice none 0 0) (.slice none 0 0) (.slice none 0 0) (.slice none 0 0) (.slice none 0 0) (.int .i64 2) (.int .i64 (s.length : Int)) B.out (Nat.le_refl _) (by omega))
          go_wp2_with fail
          exact bodyPost_ret (results_pj (p := 2) (u := 3) rfl _ _ (w.heap.size) (w.heap.size + 1) _ _ _ _ _ _ _ _ _ _ _ _ _ _ _ _ _ _ _ _ _ _ _ _ _ _ _ _ _ _ _ rfl rfl E2.out E3.out) rfl (par_err HP.out EB.out)

    · have HP := Hid.of (parse_tok HNL.out HT.out he)
      have e1 : (er != 0) = true := by simp [he]
      clear he
      go_wp2_with fail
      clear u0 u1
      revert B K2 K3 K4 KF TK HKF
      generalize V1.alloc (.cells #[.int .i64 er, .int .i64 (tp : Int)] 31) = V2
      generalize V1.heap.size = pf
      intro KF HKF TK K2 K3 K4 B
      have SA : Hid (∀ X : World, X.heap[w.heap.size + 1 + 1]? = V2.heap[w.heap.size + 1 + 1]? → X.heap[pf]? = V2.heap[pf]? → X.cell? ⟨w.heap.size + 1 + 1, 0, none⟩ = some (.slice none 0 0) ∧ X.cell? ⟨w.heap.size + 1 + 1, 1, none⟩ = some (.slice none 0 0) ∧ X.cell? ⟨w.heap.size + 1 + 1, 2, none⟩ = some (.int .i64 0) ∧ X.cell? ⟨w.heap.size + 1 + 1, 3, none⟩ = some (.int .i64 0) ∧ X.cell? ⟨w.heap.size + 1 + 1, 4, none⟩ = some (.slice none 0 0) ∧ X.cell? ⟨w.heap.size + 1 + 1, 5, none⟩ = some (.slice none 0 0) ∧ X.cell? ⟨w.heap.size + 1 + 1, 6, none⟩ = some (.slice none 0 0) ∧ X.cell? ⟨w.heap.size + 1 + 1, 7, none⟩ = some (.slice none 0 0) ∧ X.cell? ⟨w.heap.size + 1 + 1, 8, none⟩ = some (.slice none 0 0) ∧ X.cell? ⟨w.heap.size + 1 + 1, 9, none⟩ = some (.slice none 0 0) ∧ X.cell? ⟨w.heap.size + 1 + 1, 10, none⟩ = some (.slice none 0 0) ∧ X.cell? ⟨pf, 0, none⟩ = some (.int .i64 er) ∧ X.cell? ⟨pf, 1, none⟩ = some (.int .i64 (tp : Int))) := fun X hX4 hXF => by
        have k4 : Blk X (w.heap.size + 1 + 1) 28 #[.slice none 0 0, .slice none 0 0, .int .i64 0, .int .i64 0, .slice none 0 0, .slice none 0 0, .slice none 0 0, .slice none 0 0, .slice none 0 0, .slice none 0 0, .slice none 0 0] := hX4.trans K4.out
        have kf : Blk X pf 31 #[.int .i64 er, .int .i64 (tp : Int)] := hXF.trans KF.out
        obtain ⟨a0, a1, a2, a3, a4, a5, a6, a7, a8, a9, a10⟩ := pj11 k4
        exact ⟨a0, a1, a2, a3, a4, a5, a6, a7, a8, a9, a10, kf.cell 0 rfl, kf.cell 1 rfl⟩
      refine wp_region_held_drew (S := fun w' => w'.cell? ⟨w.heap.size + 1 + 1, 0, none⟩ = some (.slice none 0 0) ∧ w'.cell? ⟨w.heap.size + 1 + 1, 1, none⟩ = some (.slice none 0 0) ∧ w'.cell? ⟨w.heap.size + 1 + 1, 2, none⟩ = some (.int .i64 0) ∧ w'.cell? ⟨w.heap.size + 1 + 1, 3, none⟩ = some (.int .i64 0) ∧ w'.cell? ⟨w.heap.size + 1 + 1, 4, none⟩ = some (.slice none 0 0) ∧ w'.cell? ⟨w.heap.size + 1 + 1, 5, none⟩ = some (.slice none 0 0) ∧ w'.cell? ⟨w.heap.size + 1 + 1, 6, none⟩ = some (.slice none 0 0) ∧ w'.cell? ⟨w.heap.size + 1 + 1, 7, none⟩ = some (.slice none 0 0) ∧ w'.cell? ⟨w.heap.size + 1 + 1, 8, none⟩ = some (.slice none 0 0) ∧ w'.cell? ⟨w.heap.size + 1 + 1, 9, none⟩ = some (.slice none 0 0) ∧ w'.cell? ⟨w.heap.size + 1 + 1, 10, none⟩ = some (.slice none 0 0) ∧ w'.cell? ⟨pf, 0, none⟩ = some (.int .i64 er) ∧ w'.cell? ⟨pf, 1, none⟩ = some (.int .i64 (tp : Int))) (by kernel_rfl) (SA.out _ rfl rfl) (fun hS => ?_)
      have Q2 : Hid (Blk V2.drew (w.heap.size) 28 #[.slice none 0 0, .slice none 0 0, .int .i64 0, .int .i64 0, .slice none 0 0, .slice none 0 0, .slice none 0 0, .slice none 0 0, .slice none 0 0, .slice none 0 0, .slice none 0 0]) := K2.out
      have Q3 : Hid (Blk V2.drew (w.heap.size + 1) 31 #[.int .i64 0, .int .i64 0]) := K3.out
      have QB : Hid (Below w.heap.size w V2.drew) := B.out.drew
      have QX4 : Hid (V2.drew.heap[w.heap.size + 1 + 1]? = V2.heap[w.heap.size + 1 + 1]?) := rfl
      have QXF : Hid (V2.drew.heap[pf]? = V2.heap[pf]?) := rfl
      have HKF2 := HKF
      revert hS Q2 Q3 QB QX4 QXF
      generalize V2.drew = Y0
      intro hS Q2 Q3 QB QX4 QXF
      refine wpAnyH_take (i := 0) (v := .agg #[.slice none 0 0, .slice none 0 0, .int .i64 0, .int .i64 0, .slice none 0 0, .slice none 0 0, .slice none 0 0, .slice none 0 0, .slice none 0 0, .slice none 0 0, .slice none 0 0]) rfl (by kernel_rfl) (by kernel_rfl) (by kernel_rfl) (fun _ _ _ h => h) (Or.inl ⟨by kernel_rfl, fun w' hw' => by obtain ⟨q0, q1, q2, q3, q4, q5, q6, q7, q8, q9, q10, q11, q12⟩ := hw'; go_simp⟩) hS ?_
      refine wpAnyH_take (i := 1) (v := .agg #[.int .i64 er, .int .i64 (tp : Int)]) rfl (by kernel_rfl) (by kernel_rfl) (by kernel_rfl) (fun _ _ _ h => h) (Or.inl ⟨by kernel_rfl, fun w' hw' => by obtain ⟨q0, q1, q2, q3, q4, q5, q6, q7, q8, q9, q10, q11, q12⟩ := hw'; go_simp⟩) hS ?_
      simp only [Act.put, List.setIfInBounds_toArray]
      refine wpAnyH_ready (rs := [2]) (by kernel_rfl) (by simp) ?_
      refine AllReadyH.cons rfl (fun K' hK' => ?_) AllReadyH.nil
      clear hS
      have z2 := Q2.out.frozen
      have qq := pj11 Q2.out
      have b0 := qq.1
      have b1 := qq.2.1
      have b2 := qq.2.2.1
      have b3 := qq.2.2.2.1
      have b4 := qq.2.2.2.2.1
      have b5 := qq.2.2.2.2.2.1
      have b6 := qq.2.2.2.2.2.2.1
      have b7 := qq.2.2.2.2.2.2.2.1
      have b8 := qq.2.2.2.2.2.2.2.2.1
      have b9 := qq.2.2.2.2.2.2.2.2.2.1
      have b10 := qq.2.2.2.2.2.2.2.2.2.2
      clear qq
      go_simp
      have hx4 : (setPq Y0 (w.heap.size) (.slice none 0 0) (.slice none 0 0) (.int .i64 0) (.int .i64 0) (.slice none 0 0) (.slice none 0 0) (.slice none 0 0) (.slice none 0 0) (.slice none 0 0) (.slice none 0 0) (.slice none 0 0)).heap[w.heap.size + 1 + 1]? = V2.heap[w.heap.size + 1 + 1]? := (setP_heap _ _ _ _ _ _ _ _ _ _ _ (by omega)).trans QX4.out
      have hxF : (setPq Y0 (w.heap.size) (.slice none 0 0) (.slice none 0 0) (.int .i64 0) (.int .i64 0) (.slice none 0 0) (.slice none 0 0) (.slice none 0 0) (.slice none 0 0) (.slice none 0 0) (.slice none 0 0) (.slice none 0 0)).heap[pf]? = V2.heap[pf]? := (setP_heap _ _ _ _ _ _ _ _ _ _ _ (by have := HKF2.out; omega)).trans QXF.out
      refine hK'.out _ _ (SA.out _ hx4 hxF) (fun hS => ?_)
      clear hK' K' z2 b0 b1 b2 b3 b4 b5 b6 b7 b8 b9 b10
      refine wpAnyH_ready (rs := [3]) (by kernel_rfl) (by simp) ?_
      refine AllReadyH.cons rfl (fun K' hK' => ?_) AllReadyH.nil
      clear hS
      have P3 : Blk (setPq Y0 (w.heap.size) (.slice none 0 0) (.slice none 0 0) (.int .i64 0) (.int .i64 0) (.slice none 0 0) (.slice none 0 0) (.slice none 0 0) (.slice none 0 0) (.slice none 0 0) (.slice none 0 0) (.slice none 0 0)) (w.heap.size + 1) 31 #[.int .i64 0, .int .i64 0] := (setP_heap _ _ _ _ _ _ _ _ _ _ _ (by omega)).trans Q3.out
      have z3 := P3.frozen
      have f0 := P3.cell 0 rfl
      have f1 := P3.cell 1 rfl
      have E2 := Hid.of (setPJ_two (.slice none 0 0) (.slice none 0 0) (.int .i64 0) (.int .i64 0) (.slice none 0 0) (.slice none 0 0) (.slice none 0 0) (.slice none 0 0) (.slice none 0 0) (.slice none 0 0) (.slice none 0 0) (.int .i64 er) (.int .i64 (tp : Int)) Q2.out (r3 := w.heap.size + 1) (by omega))
      have E3 := Hid.of (setPJ_three (r2 := w.heap.size) (.slice none 0 0) (.slice none 0 0) (.int .i64 0) (.int .i64 0) (.slice none 0 0) (.slice none 0 0) (.slice none 0 0) (.slice none 0 0) (.slice none 0 0) (.slice none 0 0) (.slice none 0 0) (.int .i64 er) (.int .i64 (tp : Int)) Q3.out (by omega))
      have EB := Hid.of (setPJ_below (r2 := w.heap.size) (r3 := w.heap.size + 1) (.slice none 0 0) (.slice none 0 0) (.int .i64 0) (.int .i64 0) (.slice none 0 0) (.slice none 0 0) (.slice none 0 0) (.slice none 0 0) (.slice none 0 0) (.slice none 0 0) (.slice none 0 0) (.int .i64 er) (.int .i64 (tp : Int)) QB.out (Nat.le_refl _) (by omega))
      go_simp
      have hy4 : (setPJ Y0 (w.heap.size) (w.heap.size + 1) (.slice none 0 0) (.slice none 0 0) (.int .i64 0) (.int .i64 0) (.slice none 0 0) (.slice none 0 0) (.slice none 0 0) (.slice none 0 0) (.slice none 0 0) (.slice none 0 0) (.slice none 0 0) (.int .i64 er) (.int .i64 (tp : Int))).heap[w.heap.size + 1 + 1]? = V2.heap[w.heap.size + 1 + 1]? := (setPJ_heap _ _ _ _ _ _ _ _ _ _ _ _ _ (by omega) (by omega)).trans QX4.out
      have hyF : (setPJ Y0 (w.heap.size) (w.heap.size + 1) (.slice none 0 0) (.slice none 0 0) (.int .i64 0) (.int .i64 0) (.slice none 0 0) (.slice none 0 0) (.slice none 0 0) (.slice none 0 0) (.slice none 0 0) (.slice none 0 0) (.slice none 0 0) (.int .i64 er) (.int .i64 (tp : Int))).heap[pf]? = V2.heap[pf]? := (setPJ_heap _ _ _ _ _ _ _ _ _ _ _ _ _ (by have := HKF2.out; omega) (by have := HKF2.out; omega)).trans QXF.out
      refine hK'.out _ _ (SA.out _ hy4 hyF) (fun hS => ?_)
      clear hK' K' z3 f0 f1
      refine wpAnyH_done (by kernel_rfl) ?_ _
      go_wp2_with fail
      exact bodyPost_ret (results_pj (p := 2) (u := 3) rfl _ _ (w.heap.size) (w.heap.size + 1) _ _ _ _ _ _ _ _ _ _ _ _ _ _ _ _ _ _ _ _ _ _ _ _ _ _ _ _ _ _ _ rfl rfl E2.out E3.out) rfl (par_err HP.out EB.out)

end Go.Proofs.Ytbgiliophmofgaa
