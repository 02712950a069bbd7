/-
  The walk of text.Print.
  jalousieref16.Same of a project and itself.
  The walk of the law TextParses, the contracts of both Parses as hypotheses.
  How jalousieref16.Parse ends: what is stored into its results.
  The walk of the law TextBack, the program's contracts as hypotheses.
-/
import Derived.Test.YtbgiliophmofgaaG12
import Derived.Test.YtbgiliophmofgaaG10
import Derived.Test.YtbgiliophmofgaaG11
import Derived.Test.YtbgiliophmofgaaG06
import Derived.Deep.QuietTactic
import Derived.BigQuiet
import Derived.Test.YtbgiliophmofgaaG01
import Derived.Test.YtbgiliophmofgaaG02
import Derived.Test.YtbgiliophmofgaaG05
import Derived.Test.YtbgiliophmofgaaG07
namespace Go.Proofs.Ytbgiliophmofgaa
open Go.RowKit
set_option linter.unusedVariables false

/-- What Print answers. -/
def prnP (p : Proj) : Str × Int := if mayTB p = true then (if 4000 < shAt ((toksP p).map (·.2)) ((toksP p).map (·.2)).length then ([], 2) else if 4000 < (textL p).length then ([], 1) else (textL p, 0)) else ([], 2)
theorem inc_few {l : List Int} {n : Nat} (h : Inc l) (hb : ∀ x ∈ l, 0 ≤ x ∧ x < (n : Int)) : l.length ≤ n := by
  have h3 := inc_len (l.map Int.toNat) n (by
    rw [List.pairwise_map]
    exact List.Pairwise.imp_of_mem (fun ha hb' hab => by have := hb _ ha; have := hb _ hb'; omega) h) (fun x hx => by
    obtain ⟨y, hy, rfl⟩ := List.mem_map.1 hx
    have := hb y hy; omega)
  rwa [List.length_map] at h3
theorem rowNames_few {p : Proj} (h : MayT p) {k : Nat} (hk : k < 8) : (rowNames p k).length ≤ 4096 := by
  have := h.s6
  have := h.e8
  by_cases h2 : 2 ≤ k
  · rw [rowNames_eq h2 hk, List.length_map]
    obtain ⟨h1, h3⟩ := rowP_in h h2 hk
    have := inc_few h1 h3
    unfold srcP at this
    split at this <;> omega
  · have : k = 0 ∨ k = 1 := by omega
    rcases this with rfl | rfl
    · show p.states.length ≤ _; omega
    · show p.events.length ≤ _; omega
theorem tok_short {x : Bool × Str} (h : tokOk x) : x.2.length ≤ 16 := by
  rcases h with ⟨-, h⟩ | ⟨-, h | h⟩
  · obtain ⟨c, w, hx, -, -, hl⟩ := h
    rw [hx, List.length_cons]; omega
  · rw [h]; simp
  · rw [h]; simp
theorem spc_len : ∀ (r : List (Bool × Str)), (∀ x ∈ r, x.2.length ≤ 16) → (spcT r).length ≤ r.length * 17
  | [], _ => by simp [spcT]
  | x :: r, h => by
    have h1 := spc_len r (fun y hy => h y (by simp [hy]))
    have h2 := h x (by simp)
    rw [show spcT (x :: r) = 32 :: (x.2 ++ spcT r) from rfl]
    simp only [List.length_cons, List.length_append]
    omega
theorem toks_few {p : Proj} (h : MayT p) : (toksP p).length ≤ 50000 := by
  have e := congrArg List.length (spW_all p)
  rw [List.length_map] at e
  have h1 := spW_len p (fun k hk => rowNames_few h hk) 8 (Nat.le_refl _)
  have h2 := arrW_len p p.m.arrows.length
  have h3 := (mayB_size h.m).2.2.2.2
  unfold arrW at h2
  rw [List.take_length] at h2
  rw [e]
  simp only [List.length_append, List.length_cons, List.length_nil]
  omega
theorem text_len {p : Proj} (h : MayT p) : (textL p).length ≤ 900000 := by
  have h1 := toks_few h
  unfold textL
  cases e : toksP p with
  | nil => simp [joinT]
  | cons t r =>
    rw [e] at h1
    have h2 := toks_ok h
    rw [e] at h2
    have h3 := spc_len r (fun x hx => tok_short (h2 x (by simp [hx])))
    have h4 := tok_short (h2 t (by simp))
    rw [show joinT (t :: r) = t.2 ++ spcT r from rfl, List.length_append]
    simp only [List.length_cons] at h1
    omega
theorem toks_some (p : Proj) : (toksP p).map (·.2) ≠ [] := by
  rw [spW_all]; simp

set_option maxRecDepth 100000 in
set_option maxHeartbeats 4000000 in
theorem pPrint_any (p : Proj) (L : PJL) (w : World) (h0 : PjAt w p L) :
    Calls Try.prog 10 #[pjval p L] w fun e w' => e = .returned (.tuple #[strV (prnP p).1, .int .i64 (prnP p).2]) ∧ Below w.heap.size w w' := by
  have B : Hid (Below w.heap.size w (w.alloc (.cells (pjcells p L) 28))) := (Below.refl _ _).alloc (Nat.le_refl _) _
  have K : Hid (Blk (w.alloc (.cells (pjcells p L) 28)) w.heap.size 28 (pjcells p L)) := Blk.new w _ _
  have H := Hid.of h0
  clear h0
  obtain ⟨x0, x1, x2, x3, x4, x5, x6, x7, x8, x9, x10⟩ := pjcell_at K.out
  go_enter Try.func10, Try.ntmps10
  go_wp2_with fail
  clear x0 x1 x2 x3 x4 x5 x6 x7 x8 x9 x10
  revert B K
  generalize w.alloc (.cells (pjcells p L) 28) = V
  intro B K
  refine (isForm_any p L V (H.out.below B.out (Nat.le_refl _))).mono ?_
  rintro e V1 ⟨rfl, hb⟩
  replace B := Hid.of (B.out.trans (hb.mono B.out.size))
  replace K := Hid.of (K.out.below hb K.out.lt)
  clear hb
  cases hm : mayTB p with
  | false =>
    have HA : Hid (prnP p = ([], 2)) := by
      show _ = _
      unfold prnP
      rw [if_neg (by rw [hm]; decide)]
    clear hm
    go_wp2_with fail
    exact bodyPost_ret (v := .tuple #[.string ⟨#[]⟩, .int .i64 2]) (by simp [results, go_sem]) rfl ⟨by rw [HA.out] <;> rfl, B.out⟩
  | true =>
    have HMT := Hid.of ((mayTB_iff p).1 hm)
    have HA : Hid (prnP p = (if 4000 < shAt ((toksP p).map (·.2)) ((toksP p).map (·.2)).length then ([], 2) else if 4000 < (textL p).length then ([], 1) else (textL p, 0))) := by
      show _ = _
      unfold prnP
      rw [if_pos hm]
    clear hm
    obtain ⟨x0, x1, x2, x3, x4, x5, x6, x7, x8, x9, x10⟩ := pjcell_at K.out
    go_wp2_with fail
    clear x0 x1 x2 x3 x4 x5 x6 x7 x8 x9 x10
    refine (spell_any p L V1 (H.out.below B.out (Nat.le_refl _)) HMT.out (fun k hk => rowNames_few HMT.out hk) (mayB_size HMT.out.m).2.2.2.2).mono ?_
    rintro e V2 ⟨v, rfl, ho, hb⟩
    replace B := Hid.of (B.out.trans (hb.mono B.out.size))
    clear hb K
    have HJ := Hid.of (join_text p)
    have HLT := Hid.of (text_len HMT.out)
    have HXL : Hid (∀ x ∈ (toksP p).map (·.2), x.length ≤ 4096) := fun x hx => by
      obtain ⟨t, ht, rfl⟩ := List.mem_map.1 hx
      have := tok_short (toks_ok HMT.out t ht)
      omega
    have hwl : ((toksP p).map (·.2)).length ≤ 50000 := by rw [List.length_map]; exact toks_few HMT.out
    have HNE := Hid.of (toks_some p)
    revert ho HA HJ HXL hwl HNE
    generalize (toksP p).map (·.2) = ws
    intro HA ho HJ HXL hwl HNE
    obtain ⟨a, c, hv, hat, hc1, -, -⟩ := OwnSr.at ho
    subst hv
    rcases hat with h | ⟨bk, o, rfl, hbk, hcc⟩
    · exact absurd h HNE.out
    have HAT : Hid (AtS V2 (some ⟨bk, o, none⟩) ws) := .inr ⟨bk, o, rfl, hbk, hcc⟩
    have HCC := Hid.of hcc
    have HBK := Hid.of hbk
    clear ho hcc hbk HNE
    go_wp2_with fail
    refine (shortest_any (some ⟨bk, o, none⟩) c ws V2 HAT.out (by omega) HXL.out).mono ?_
    rintro e w3 ⟨rfl, rfl⟩
    by_cases hs : 4000 < shAt ws ws.length
    · have ds : decide ((4000 : Int) < (shAt ws ws.length : Int)) = true := decide_eq_true (by omega)
      have dI : (4000 : Int) < (shAt ws ws.length : Int) := by omega
      rw [if_pos hs] at HA
      clear hs
      go_wp2_with fail
      exact bodyPost_ret (v := .tuple #[.string ⟨#[]⟩, .int .i64 2]) (by simp [results, go_sem]) rfl ⟨by rw [HA.out] <;> rfl, B.out⟩
    · have ds : decide ((4000 : Int) < (shAt ws ws.length : Int)) = false := decide_eq_false (by omega)
      have dI : (shAt ws ws.length : Int) ≤ 4000 := by omega
      rw [if_neg hs] at HA
      clear hs
      have hmap : ((ws.map fun x => (⟨x.toArray⟩ : ByteArray)).map (·.data.toList)) = ws := by
        rw [List.map_map]
        exact List.map_id ws
      have HMP := Hid.of hmap
      have hln : (ws.map fun x => (⟨x.toArray⟩ : ByteArray)).length = ws.length := List.length_map _
      have HLN := Hid.of hln
      clear hmap hln
      go_wp2_with fail
      have hJ := Any.strings_Join_48 Try.joinS Try.joinX bk o c (ws.map fun x => (⟨x.toArray⟩ : ByteArray)) ⟨#[32]⟩ w3
        (fun j x hx => by
          rw [List.getElem?_map] at hx
          cases hj : ws[j]? with
          | none => rw [hj] at hx; cases hx
          | some y =>
            rw [hj] at hx
            cases hx
            have hjl : j < ws.length := (List.getElem?_eq_some_iff.1 hj).1
            rw [HCC.out j hjl, hj]
            rfl)
        HBK.out (by rw [HLN.out]; omega) (by rw [HLN.out]; exact hc1)
        (by rw [HMP.out]; show (Lib.join ws [32]).length ≤ _; rw [HJ.out]; have := HLT.out; omega)
      rw [HLN.out, HMP.out] at hJ
      refine hJ.mono ?_
      clear hJ
      rintro e w4 ⟨rfl, hb⟩
      replace B := Hid.of (B.out.trans (hb.mono B.out.size))
      clear hb
      rw [show Lib.join ws (ByteArray.mk #[32]).data.toList = textL p from HJ.out]
      have hsz : (⟨(textL p).toArray⟩ : ByteArray).size = (textL p).length := by simp [ByteArray.size]
      obtain ⟨S, HS⟩ : ∃ S : ByteArray, Hid (S = ⟨(textL p).toArray⟩) := ⟨_, rfl⟩
      rw [← HS.out] at hsz ⊢
      clear HCC HBK HAT HXL HMP HLN HJ
      by_cases hl : 4000 < (textL p).length
      · have d1 : decide ((4000 : Int) < (S.size : Int)) = true := decide_eq_true (by omega)
        have d2 : (4000 : Int) < (S.size : Int) := by omega
        have d3 : 4000 < S.size := by omega
        rw [if_pos hl] at HA
        clear hl hsz
        go_wp2_with fail
        exact bodyPost_ret (v := .tuple #[.string ⟨#[]⟩, .int .i64 1]) (by simp [results, go_sem]) rfl ⟨by rw [HA.out] <;> rfl, B.out⟩
      · have d1 : decide ((4000 : Int) < (S.size : Int)) = false := decide_eq_false (by omega)
        have d2 : (S.size : Int) ≤ 4000 := by omega
        have d3 : S.size ≤ 4000 := by omega
        rw [if_neg hl] at HA
        clear hl hsz
        go_wp2_with fail
        exact bodyPost_ret (v := .tuple #[.string S, .int .i64 0]) (by simp [results, go_sem]) rfl ⟨by rw [HA.out, HS.out] <;> rfl, B.out⟩

end Go.Proofs.Ytbgiliophmofgaa
namespace Go.Proofs.Ytbgiliophmofgaa
open Go.RowKit
set_option linter.unusedVariables false

theorem sameB_selfJ : ∀ xs : List Int, sameB xs xs = true := by intro xs; simp [sameB]
end Go.Proofs.Ytbgiliophmofgaa
namespace Go.Proofs.Ytbgiliophmofgaa
open Go.RowKit
set_option linter.unusedVariables false

/-- What a Parse must leave. -/
def ParPost (w : World) (s : Str) (e : Ending) (w' : World) : Prop := ∃ L, e = .returned (.tuple #[pjval (parseL s).1 L, .agg #[.int .i64 (parseL s).2.1, .int .i64 ((parseL s).2.2 : Int)]]) ∧ PjAt w' (parseL s).1 L ∧ Below w.heap.size w w'

end Go.Proofs.Ytbgiliophmofgaa
namespace Go.Proofs.Ytbgiliophmofgaa
open Go.RowKit
set_option linter.unusedVariables false

/-- A project and a fault are stored. -/
abbrev setPJ (Z : World) (r2 r3 : Nat) (v0 v1 v2 v3 v4 v5 v6 v7 v8 v9 v10 e0 e1 : Value) : World := (((((((((((((Z.setCell ⟨r2, 0, none⟩ v0).setCell ⟨r2, 1, none⟩ v1).setCell ⟨r2, 2, none⟩ v2).setCell ⟨r2, 3, none⟩ v3).setCell ⟨r2, 4, none⟩ v4).setCell ⟨r2, 5, none⟩ v5).setCell ⟨r2, 6, none⟩ v6).setCell ⟨r2, 7, none⟩ v7).setCell ⟨r2, 8, none⟩ v8).setCell ⟨r2, 9, none⟩ v9).setCell ⟨r2, 10, none⟩ v10).setCell ⟨r3, 0, none⟩ e0).setCell ⟨r3, 1, none⟩ e1)
abbrev setPq (Z : World) (r2 : Nat) (v0 v1 v2 v3 v4 v5 v6 v7 v8 v9 v10 : Value) : World := (((((((((((Z.setCell ⟨r2, 0, none⟩ v0).setCell ⟨r2, 1, none⟩ v1).setCell ⟨r2, 2, none⟩ v2).setCell ⟨r2, 3, none⟩ v3).setCell ⟨r2, 4, none⟩ v4).setCell ⟨r2, 5, none⟩ v5).setCell ⟨r2, 6, none⟩ v6).setCell ⟨r2, 7, none⟩ v7).setCell ⟨r2, 8, none⟩ v8).setCell ⟨r2, 9, none⟩ v9).setCell ⟨r2, 10, none⟩ v10)
section
variable {Z : World} {r2 r3 : Nat}
theorem setP_heap (v0 v1 v2 v3 v4 v5 v6 v7 v8 v9 v10 : Value) {q : Nat} (h2 : q ≠ r2) : (setPq Z r2 v0 v1 v2 v3 v4 v5 v6 v7 v8 v9 v10).heap[q]? = Z.heap[q]? := by
  simp only [setPq]
  rw [Below.heap_setCell _ _ _ _ (show q ≠ r2 from h2), Below.heap_setCell _ _ _ _ (show q ≠ r2 from h2), Below.heap_setCell _ _ _ _ (show q ≠ r2 from h2), Below.heap_setCell _ _ _ _ (show q ≠ r2 from h2), Below.heap_setCell _ _ _ _ (show q ≠ r2 from h2), Below.heap_setCell _ _ _ _ (show q ≠ r2 from h2), Below.heap_setCell _ _ _ _ (show q ≠ r2 from h2), Below.heap_setCell _ _ _ _ (show q ≠ r2 from h2), Below.heap_setCell _ _ _ _ (show q ≠ r2 from h2), Below.heap_setCell _ _ _ _ (show q ≠ r2 from h2), Below.heap_setCell _ _ _ _ (show q ≠ r2 from h2)]
theorem setPJ_heap (v0 v1 v2 v3 v4 v5 v6 v7 v8 v9 v10 e0 e1 : Value) {q : Nat} (h2 : q ≠ r2) (h3 : q ≠ r3) : (setPJ Z r2 r3 v0 v1 v2 v3 v4 v5 v6 v7 v8 v9 v10 e0 e1).heap[q]? = Z.heap[q]? := by
  simp only [setPJ]
  rw [Below.heap_setCell _ _ _ _ (show q ≠ r3 from h3), Below.heap_setCell _ _ _ _ (show q ≠ r3 from h3), Below.heap_setCell _ _ _ _ (show q ≠ r2 from h2), Below.heap_setCell _ _ _ _ (show q ≠ r2 from h2), Below.heap_setCell _ _ _ _ (show q ≠ r2 from h2), Below.heap_setCell _ _ _ _ (show q ≠ r2 from h2), Below.heap_setCell _ _ _ _ (show q ≠ r2 from h2), Below.heap_setCell _ _ _ _ (show q ≠ r2 from h2), Below.heap_setCell _ _ _ _ (show q ≠ r2 from h2), Below.heap_setCell _ _ _ _ (show q ≠ r2 from h2), Below.heap_setCell _ _ _ _ (show q ≠ r2 from h2), Below.heap_setCell _ _ _ _ (show q ≠ r2 from h2), Below.heap_setCell _ _ _ _ (show q ≠ r2 from h2)]
theorem setPJ_two (v0 v1 v2 v3 v4 v5 v6 v7 v8 v9 v10 e0 e1 : Value) (h2 : Blk Z r2 28 #[.slice none 0 0, .slice none 0 0, .int .i64 0, .int .i64 0, .slice none 0 0, .slice none 0 0, .slice none 0 0, .slice none 0 0, .slice none 0 0, .slice none 0 0, .slice none 0 0]) (hne : r2 ≠ r3) : Blk (setPJ Z r2 r3 v0 v1 v2 v3 v4 v5 v6 v7 v8 v9 v10 e0 e1) r2 28 #[v0, v1, v2, v3, v4, v5, v6, v7, v8, v9, v10] := by
  have h := ((((((((((((h2.set 0 v0).set 1 v1).set 2 v2).set 3 v3).set 4 v4).set 5 v5).set 6 v6).set 7 v7).set 8 v8).set 9 v9).set 10 v10).other (j := 0) hne e0).other (j := 1) hne e1
  simp only [List.setIfInBounds_toArray, List.set_cons_zero, List.set_cons_succ] at h
  exact h
theorem setPJ_three (v0 v1 v2 v3 v4 v5 v6 v7 v8 v9 v10 e0 e1 : Value) (h3 : Blk Z r3 31 #[.int .i64 0, .int .i64 0]) (hne : r3 ≠ r2) : Blk (setPJ Z r2 r3 v0 v1 v2 v3 v4 v5 v6 v7 v8 v9 v10 e0 e1) r3 31 #[e0, e1] := by
  have h0 : Blk (((((((((((Z.setCell ⟨r2, 0, none⟩ v0).setCell ⟨r2, 1, none⟩ v1).setCell ⟨r2, 2, none⟩ v2).setCell ⟨r2, 3, none⟩ v3).setCell ⟨r2, 4, none⟩ v4).setCell ⟨r2, 5, none⟩ v5).setCell ⟨r2, 6, none⟩ v6).setCell ⟨r2, 7, none⟩ v7).setCell ⟨r2, 8, none⟩ v8).setCell ⟨r2, 9, none⟩ v9).setCell ⟨r2, 10, none⟩ v10) r3 31 #[.int .i64 0, .int .i64 0] := by
    have h : ((((((((((((Z.setCell ⟨r2, 0, none⟩ v0).setCell ⟨r2, 1, none⟩ v1).setCell ⟨r2, 2, none⟩ v2).setCell ⟨r2, 3, none⟩ v3).setCell ⟨r2, 4, none⟩ v4).setCell ⟨r2, 5, none⟩ v5).setCell ⟨r2, 6, none⟩ v6).setCell ⟨r2, 7, none⟩ v7).setCell ⟨r2, 8, none⟩ v8).setCell ⟨r2, 9, none⟩ v9).setCell ⟨r2, 10, none⟩ v10)).heap[r3]? = Z.heap[r3]? := by
      rw [Below.heap_setCell _ _ _ _ (show r3 ≠ r2 from hne), Below.heap_setCell _ _ _ _ (show r3 ≠ r2 from hne), Below.heap_setCell _ _ _ _ (show r3 ≠ r2 from hne), Below.heap_setCell _ _ _ _ (show r3 ≠ r2 from hne), Below.heap_setCell _ _ _ _ (show r3 ≠ r2 from hne), Below.heap_setCell _ _ _ _ (show r3 ≠ r2 from hne), Below.heap_setCell _ _ _ _ (show r3 ≠ r2 from hne), Below.heap_setCell _ _ _ _ (show r3 ≠ r2 from hne), Below.heap_setCell _ _ _ _ (show r3 ≠ r2 from hne), Below.heap_setCell _ _ _ _ (show r3 ≠ r2 from hne), Below.heap_setCell _ _ _ _ (show r3 ≠ r2 from hne)]
    exact h.trans h3
  exact (h0.set 0 e0).set 1 e1
theorem setPJ_below {B : Nat} {U : World} (v0 v1 v2 v3 v4 v5 v6 v7 v8 v9 v10 e0 e1 : Value) (h : Below B U Z) (h2 : B ≤ r2) (h3 : B ≤ r3) : Below B U (setPJ Z r2 r3 v0 v1 v2 v3 v4 v5 v6 v7 v8 v9 v10 e0 e1) :=
  (((((((((((((h.setCell (p := ⟨r2, 0, none⟩) h2 v0).setCell (p := ⟨r2, 1, none⟩) h2 v1).setCell (p := ⟨r2, 2, none⟩) h2 v2).setCell (p := ⟨r2, 3, none⟩) h2 v3).setCell (p := ⟨r2, 4, none⟩) h2 v4).setCell (p := ⟨r2, 5, none⟩) h2 v5).setCell (p := ⟨r2, 6, none⟩) h2 v6).setCell (p := ⟨r2, 7, none⟩) h2 v7).setCell (p := ⟨r2, 8, none⟩) h2 v8).setCell (p := ⟨r2, 9, none⟩) h2 v9).setCell (p := ⟨r2, 10, none⟩) h2 v10).setCell (p := ⟨r3, 0, none⟩) h3 e0).setCell (p := ⟨r3, 1, none⟩) h3 e1)
end
set_option maxRecDepth 100000 in
set_option maxHeartbeats 4000000 in
theorem results_pj {fn : Func} {p u : Tmp} (h : fn.results = #[.cell p 28, .cell u 31]) (tmps : Array Value) (w : World) (g k : Nat) (p0 p1 p4 p5 p6 p7 p8 p9 p10 : Option Addr) (n0 n1 n4 n5 n6 n7 n8 n9 n10 c0 c1 c4 c5 c6 c7 c8 c9 c10 : Nat) (i2 i3 f0 f1 : Int) (hp : tmps.getD p undef = .pointer (some ⟨g, 0, none⟩)) (hu : tmps.getD u undef = .pointer (some ⟨k, 0, none⟩)) (hB : Blk w g 28 #[.slice p0 n0 c0, .slice p1 n1 c1, .int .i64 i2, .int .i64 i3, .slice p4 n4 c4, .slice p5 n5 c5, .slice p6 n6 c6, .slice p7 n7 c7, .slice p8 n8 c8, .slice p9 n9 c9, .slice p10 n10 c10]) (hF : Blk w k 31 #[.int .i64 f0, .int .i64 f1]) :
    (results fn tmps).run Try.prog w = .ok (.tuple #[.agg #[.slice p0 n0 c0, .slice p1 n1 c1, .int .i64 i2, .int .i64 i3, .slice p4 n4 c4, .slice p5 n5 c5, .slice p6 n6 c6, .slice p7 n7 c7, .slice p8 n8 c8, .slice p9 n9 c9, .slice p10 n10 c10], .agg #[.int .i64 f0, .int .i64 f1]]) w := by
  have x0 := hB.cell 0 rfl
  have x1 := hB.cell 1 rfl
  have x2 := hB.cell 2 rfl
  have x3 := hB.cell 3 rfl
  have x4 := hB.cell 4 rfl
  have x5 := hB.cell 5 rfl
  have x6 := hB.cell 6 rfl
  have x7 := hB.cell 7 rfl
  have x8 := hB.cell 8 rfl
  have x9 := hB.cell 9 rfl
  have x10 := hB.cell 10 rfl
  have y0 := hF.cell 0 rfl
  have y1 := hF.cell 1 rfl
  have e : (results fn tmps).run Try.prog w = ((asAddr (tmps.getD p undef)).run Try.prog w).andThen fun a w₁ => ((loadVar 28 a).run Try.prog w₁).andThen fun r w₂ => ((asAddr (tmps.getD u undef)).run Try.prog w₂).andThen fun b w₃ => ((loadVar 31 b).run Try.prog w₃).andThen fun t w₄ => .ok (.tuple #[r, t]) w₄ := by
    simp only [results, h]
    simp [Sem.run_bind, Result.andThen]
  rw [e, hp, hu]
  go_simp
theorem pj11 {W : World} {b : Nat} {a0 : Value} {a1 : Value} {a2 : Value} {a3 : Value} {a4 : Value} {a5 : Value} {a6 : Value} {a7 : Value} {a8 : Value} {a9 : Value} {a10 : Value} (h : Blk W b 28 #[a0, a1, a2, a3, a4, a5, a6, a7, a8, a9, a10]) : W.cell? ⟨b, 0, none⟩ = some a0 ∧ W.cell? ⟨b, 1, none⟩ = some a1 ∧ W.cell? ⟨b, 2, none⟩ = some a2 ∧ W.cell? ⟨b, 3, none⟩ = some a3 ∧ W.cell? ⟨b, 4, none⟩ = some a4 ∧ W.cell? ⟨b, 5, none⟩ = some a5 ∧ W.cell? ⟨b, 6, none⟩ = some a6 ∧ W.cell? ⟨b, 7, none⟩ = some a7 ∧ W.cell? ⟨b, 8, none⟩ = some a8 ∧ W.cell? ⟨b, 9, none⟩ = some a9 ∧ W.cell? ⟨b, 10, none⟩ = some a10 :=
  ⟨h.cell 0 rfl, h.cell 1 rfl, h.cell 2 rfl, h.cell 3 rfl, h.cell 4 rfl, h.cell 5 rfl, h.cell 6 rfl, h.cell 7 rfl, h.cell 8 rfl, h.cell 9 rfl, h.cell 10 rfl⟩
/-- Nothing is told but what is wrong. -/
theorem par_err {w w' : World} {s : Str} {er : Int} {pos : Nat} (h : parseL s = (proj0, er, pos)) (hB : Below w.heap.size w w') : ParPost w s (.returned (.tuple #[.agg #[.slice none 0 0, .slice none 0 0, .int .i64 0, .int .i64 0, .slice none 0 0, .slice none 0 0, .slice none 0 0, .slice none 0 0, .slice none 0 0, .slice none 0 0, .slice none 0 0], .agg #[.int .i64 er, .int .i64 (pos : Int)]])) w' := by
  refine ⟨⟨none, 0, none, 0, ⟨none, 0, none, 0, none, 0⟩, none, 0, none, 0, none, 0, none, 0⟩, ?_, ?_, hB⟩
  · rw [h]; rfl
  · rw [h]
    have sl : ∀ W : World, Sl W none 0 [] := fun W => ⟨.inl rfl, Nat.le_refl _, Nat.zero_le _, fun _ => rfl⟩
    have ss : ∀ W : World, SlS W none 0 [] := fun W => ⟨.inl rfl, Nat.le_refl _, Nat.zero_le _, fun _ => rfl⟩
    exact ⟨ss _, ss _, ⟨.inl rfl, .inl rfl, .inl rfl, Nat.le_refl _, Nat.zero_le _, fun _ => rfl, Nat.le_refl _, Nat.zero_le _, fun _ => rfl, Nat.le_refl _, Nat.zero_le _, fun _ => rfl⟩, sl _, sl _, sl _, sl _⟩

end Go.Proofs.Ytbgiliophmofgaa
namespace Go.Proofs.Ytbgiliophmofgaa
open Go.RowKit
set_option linter.unusedVariables false

/-- What text.Print must leave. -/
def PrnPosP (w : World) (p : Proj) (e : Ending) (w' : World) : Prop := e = .returned (.tuple #[strV (prnP p).1, .int .i64 (prnP p).2]) ∧ Below w.heap.size w w'
theorem prnP_cases (p : Proj) : ((prnP p).2 ≠ 0 ∧ (prnP p).1 = []) ∨ ((prnP p).2 = 0 ∧ parseL (prnP p).1 = (p, 0, 0) ∧ (prnP p).1 ≠ []) := by
  unfold prnP
  by_cases h1 : mayTB p = true
  · rw [if_pos h1]
    split
    · exact .inl ⟨by decide, rfl⟩
    · by_cases h2 : 4000 < (textL p).length
      · rw [if_pos h2]; exact .inl ⟨by decide, rfl⟩
      · rw [if_neg h2]
        exact .inr ⟨rfl, text_back ((mayTB_iff p).1 h1) (by omega), by rw [text_prt]; simp [prtS, sTx]⟩
  · rw [if_neg h1]; exact .inl ⟨by decide, rfl⟩

set_option maxRecDepth 100000 in
set_option maxHeartbeats 8000000 in
theorem tback_any (p : Proj) (L : PJL) (w : World) (h0 : PjAt w p L)
    (HC : Hid (∀ (u : World) (L' : PJL), PjAt u p L' → Calls Try.prog 10 #[pjval p L'] u fun e w' => PrnPosP u p e w'))
    (HR : Hid (∀ (u : World) (s : Str), Calls Try.prog 7 #[strV s] u fun e w' => ParPost u s e w')) :
    Calls Try.prog 5 #[pjval p L] w fun e w' => e = .returned (.bool true) ∧ Below w.heap.size w w' := by
  have h := Hid.of h0
  clear h0
  have B : Hid (Below w.heap.size w (w.alloc (.cells (pjcells p L) 28))) := (Below.refl _ _).alloc (Nat.le_refl _) _
  have K1 : Hid (Blk (w.alloc (.cells (pjcells p L) 28)) w.heap.size 28 (pjcells p L)) := Blk.new w _ _
  obtain ⟨S, HS⟩ : ∃ S : Str, Hid (S = (prnP p).1) := ⟨_, rfl⟩
  obtain ⟨er, HE⟩ : ∃ er : Int, Hid (er = (prnP p).2) := ⟨_, rfl⟩
  have HP : Hid (∀ (w : World) (e : Ending) (w' : World), PrnPosP w p e w' → e = .returned (.tuple #[strV S, .int .i64 er]) ∧ Below w.heap.size w w') := fun w e w' hh => by
    rw [HS.out, HE.out]; exact hh
  go_enter Try.func5, Try.ntmps5
  obtain ⟨x0, x1, x2, x3, x4, x5, x6, x7, x8, x9, x10⟩ := pjcell_at K1.out
  go_wp2_with fail
  clear x0 x1 x2 x3 x4 x5 x6 x7 x8 x9 x10
  revert B K1
  generalize w.alloc (.cells (pjcells p L) 28) = V0
  intro B K1
  refine (HC.out V0 L (h.out.below B.out (Nat.le_refl _))).mono ?_
  rintro e1 V hq
  obtain ⟨rfl, hb⟩ := HP.out _ _ _ hq
  replace B := Hid.of (B.out.trans (hb.mono B.out.size))
  replace K1 := Hid.of (K1.out.below hb K1.out.lt)
  clear hb hq
  rcases prnP_cases p with ⟨k1, k2⟩ | ⟨k1, k2, k3⟩
  · have g1 : (er == 0) = false := by rw [HE.out]; simpa using k1
    have hS : S = [] := by rw [HS.out]; exact k2
    subst hS
    clear k1 k2
    go_wp2_with fail
    exact bodyPost_ret (v := .bool true) (by simp [results, go_sem]) rfl ⟨rfl, B.out⟩
  · have hE : er = 0 := by rw [HE.out]; exact k1
    subst hE
    rw [← HS.out] at k2 k3
    have HK2 := Hid.of k2
    have HK3 := Hid.of k3
    clear k1 k2 k3 HE HS
    go_wp2_with fail
    refine (HR.out V S).mono ?_
    rintro e2 V1 hq
    obtain ⟨L2, hq1, hA, hb⟩ := hq
    rw [HK2.out] at hq1 hA
    subst hq1
    have A2 := Hid.of hA
    replace B := Hid.of (B.out.trans (hb.mono B.out.size))
    replace K1 := Hid.of (K1.out.below hb K1.out.lt)
    clear hb hA
    have hb2 : Below V1.heap.size V1 ((V1.alloc (.cells (pjcells p L2) 28)).alloc (.cells #[.int .i64 0, .int .i64 0] 31)) := ((Below.refl _ _).alloc (Nat.le_refl _) _).alloc (by simp) _
    have K2 : Hid (Blk ((V1.alloc (.cells (pjcells p L2) 28)).alloc (.cells #[.int .i64 0, .int .i64 0] 31)) V1.heap.size 28 (pjcells p L2)) := (Blk.new V1 _ _).alloc _
    have F2 : Hid (Blk ((V1.alloc (.cells (pjcells p L2) 28)).alloc (.cells #[.int .i64 0, .int .i64 0] 31)) (V1.heap.size + 1) 31 #[.int .i64 0, .int .i64 0]) := by
      have := Blk.new (V1.alloc (.cells (pjcells p L2) 28)) 31 #[.int .i64 0, .int .i64 0]
      rwa [World.size_alloc] at this
    replace A2 := Hid.of (A2.out.below hb2 (Nat.le_refl _))
    replace B := Hid.of (B.out.trans (hb2.mono B.out.size))
    replace K1 := Hid.of (K1.out.below hb2 K1.out.lt)
    clear hb2
    obtain ⟨y0, y1, y2, y3, y4, y5, y6, y7, y8, y9, y10⟩ := pjcell_at K2.out
    dsimp only
    go_wp2_with fail
    clear y0 y1 y2 y3 y4 y5 y6 y7 y8 y9 y10
    revert K2 F2 A2 B K1
    show Hid (Blk ((V1.alloc (.cells (pjcells p L2) 28)).alloc (.cells #[.int .i64 0, .int .i64 0] 31)) V1.heap.size 28 (pjcells p L2)) → _
    generalize ((V1.alloc (.cells (pjcells p L2) 28)).alloc (.cells #[.int .i64 0, .int .i64 0] 31)) = W2
    generalize V1.heap.size = p2
    intro K2 F2 A2 B K1
    refine (HC.out W2 L2 A2.out).mono ?_
    rintro e1 W3 hq
    obtain ⟨rfl, hb⟩ := HP.out _ _ _ hq
    replace B := Hid.of (B.out.trans (hb.mono B.out.size))
    replace K1 := Hid.of (K1.out.below hb K1.out.lt)
    replace K2 := Hid.of (K2.out.below hb K2.out.lt)
    replace F2 := Hid.of (F2.out.below hb F2.out.lt)
    replace A2 := Hid.of (A2.out.below hb (Nat.le_refl _))
    clear hb hq
    obtain ⟨a0, a1, a2, a3, a4, a5, a6, a7, a8, a9, a10⟩ := pjcell_at K1.out
    have hb4 : Below W3.heap.size W3 (W3.alloc (.cells (mcells p.m L.l) 26)) := (Below.refl _ _).alloc (Nat.le_refl _) _
    obtain ⟨b0, b1, b2, b3, b4, b5, b6, b7, b8, b9, b10⟩ := pjcell_at (K2.out.below hb4 K2.out.lt)
    have hb5 : Below W3.heap.size W3 ((W3.alloc (.cells (mcells p.m L.l) 26)).alloc (.cells (mcells p.m L2.l) 26)) := hb4.alloc (by simp) _
    have Z1 : Hid (Blk ((W3.alloc (.cells (mcells p.m L.l) 26)).alloc (.cells (mcells p.m L2.l) 26)) W3.heap.size 26 (mcells p.m L.l)) := (Blk.new W3 _ _).alloc _
    have Z2 : Hid (Blk ((W3.alloc (.cells (mcells p.m L.l) 26)).alloc (.cells (mcells p.m L2.l) 26)) (W3.heap.size + 1) 26 (mcells p.m L2.l)) := by
      have := Blk.new (W3.alloc (.cells (mcells p.m L.l) 26)) 26 (mcells p.m L2.l)
      rwa [World.size_alloc] at this
    replace B := Hid.of (B.out.trans (hb5.mono B.out.size))
    replace K1 := Hid.of (K1.out.below hb5 K1.out.lt)
    replace K2 := Hid.of (K2.out.below hb5 K2.out.lt)
    replace F2 := Hid.of (F2.out.below hb5 F2.out.lt)
    replace A2 := Hid.of (A2.out.below hb5 (Nat.le_refl _))
    clear hb4 hb5
    obtain ⟨x0, x1, x2, x3, x4, x5, x6, x7, x8, x9, x10⟩ := pjcell_at K1.out
    obtain ⟨y0, y1, y2, y3, y4, y5, y6, y7, y8, y9, y10⟩ := pjcell_at K2.out
    obtain ⟨z0, z1, z2, z3, z4⟩ := mcellJ_at Z1.out
    obtain ⟨v0, v1, v2, v3, v4⟩ := mcellJ_at Z2.out
    have f0 := F2.out.cell 0 rfl
    have s1 : (S == S) = true := by simp
    have s2 : (S == []) = false := by have := HK3.out; simpa using this
    go_wp2_with fail
    clear a0 a1 a2 a3 a4 a5 a6 a7 a8 a9 a10 b0 b1 b2 b3 b4 b5 b6 b7 b8 b9 b10 x0 x1 x2 x3 x4 x5 x6 x7 x8 x9 x10 y0 y1 y2 y3 y4 y5 y6 y7 y8 y9 y10 z0 z1 z2 z3 z4 v0 v1 v2 v3 v4 f0 s1 s2
    revert Z1 Z2 B K1 K2 F2 A2
    show Hid (Blk ((W3.alloc (.cells (mcells p.m L.l) 26)).alloc (.cells (mcells p.m L2.l) 26)) W3.heap.size 26 (mcells p.m L.l)) → _
    generalize ((W3.alloc (.cells (mcells p.m L.l) 26)).alloc (.cells (mcells p.m L2.l) 26)) = U0
    generalize W3.heap.size = pm
    intro Z1 Z2 B K1 K2 F2 A2
    refine (ksame_any L.na L2.na L.nc L2.nc p.seen p.seen U0 (h.out.n.at_.below B.out (Nat.le_refl _)) A2.out.n.at_ h.out.n.len h.out.n.len).mono ?_
    rintro e1 U ⟨rfl, q, rfl⟩
    rw [sameB_selfJ]
    replace Z1 : Hid (Blk (U0.drewN q) pm 26 (mcells p.m L.l)) := Z1.out
    replace Z2 : Hid (Blk (U0.drewN q) (pm + 1) 26 (mcells p.m L2.l)) := Z2.out
    replace K1 : Hid (Blk (U0.drewN q) w.heap.size 28 (pjcells p L)) := K1.out
    replace K2 : Hid (Blk (U0.drewN q) p2 28 (pjcells p L2)) := K2.out
    replace B : Hid (Below w.heap.size w (U0.drewN q)) := below_drewN B.out q
    replace A2 := Hid.of (A2.out.below (below_drewN (Below.refl _ _) q) (Nat.le_refl _))
    try clear F2
    revert Z1 Z2 K1 K2 B A2
    generalize U0.drewN q = U1
    intro Z1 Z2 K1 K2 B A2
    obtain ⟨x0, x1, x2, x3, x4, x5, x6, x7, x8, x9, x10⟩ := pjcell_at K1.out
    obtain ⟨y0, y1, y2, y3, y4, y5, y6, y7, y8, y9, y10⟩ := pjcell_at K2.out
    obtain ⟨z0, z1, z2, z3, z4⟩ := mcellJ_at Z1.out
    obtain ⟨v0, v1, v2, v3, v4⟩ := mcellJ_at Z2.out
    go_wp2_with fail
    clear x0 x1 x2 x3 x4 x5 x6 x7 x8 x9 x10 y0 y1 y2 y3 y4 y5 y6 y7 y8 y9 y10 z0 z1 z2 z3 z4 v0 v1 v2 v3 v4
    refine (ksame_any L.fa L2.fa L.fc L2.fc p.free p.free U1 (h.out.f.at_.below B.out (Nat.le_refl _)) A2.out.f.at_ h.out.f.len h.out.f.len).mono ?_
    rintro e1 U ⟨rfl, q, rfl⟩
    rw [sameB_selfJ]
    replace Z1 : Hid (Blk (U1.drewN q) pm 26 (mcells p.m L.l)) := Z1.out
    replace Z2 : Hid (Blk (U1.drewN q) (pm + 1) 26 (mcells p.m L2.l)) := Z2.out
    replace K1 : Hid (Blk (U1.drewN q) w.heap.size 28 (pjcells p L)) := K1.out
    replace K2 : Hid (Blk (U1.drewN q) p2 28 (pjcells p L2)) := K2.out
    replace B : Hid (Below w.heap.size w (U1.drewN q)) := below_drewN B.out q
    replace A2 := Hid.of (A2.out.below (below_drewN (Below.refl _ _) q) (Nat.le_refl _))
    try clear F2
    revert Z1 Z2 K1 K2 B A2
    generalize U1.drewN q = U2
    intro Z1 Z2 K1 K2 B A2
    obtain ⟨x0, x1, x2, x3, x4, x5, x6, x7, x8, x9, x10⟩ := pjcell_at K1.out
    obtain ⟨y0, y1, y2, y3, y4, y5, y6, y7, y8, y9, y10⟩ := pjcell_at K2.out
    obtain ⟨z0, z1, z2, z3, z4⟩ := mcellJ_at Z1.out
    obtain ⟨v0, v1, v2, v3, v4⟩ := mcellJ_at Z2.out
    go_wp2_with fail
    clear x0 x1 x2 x3 x4 x5 x6 x7 x8 x9 x10 y0 y1 y2 y3 y4 y5 y6 y7 y8 y9 y10 z0 z1 z2 z3 z4 v0 v1 v2 v3 v4
    refine (ksame_any L.ta L2.ta L.tc L2.tc p.faults p.faults U2 (h.out.t.at_.below B.out (Nat.le_refl _)) A2.out.t.at_ h.out.t.len h.out.t.len).mono ?_
    rintro e1 U ⟨rfl, q, rfl⟩
    rw [sameB_selfJ]
    replace Z1 : Hid (Blk (U2.drewN q) pm 26 (mcells p.m L.l)) := Z1.out
    replace Z2 : Hid (Blk (U2.drewN q) (pm + 1) 26 (mcells p.m L2.l)) := Z2.out
    replace K1 : Hid (Blk (U2.drewN q) w.heap.size 28 (pjcells p L)) := K1.out
    replace K2 : Hid (Blk (U2.drewN q) p2 28 (pjcells p L2)) := K2.out
    replace B : Hid (Below w.heap.size w (U2.drewN q)) := below_drewN B.out q
    replace A2 := Hid.of (A2.out.below (below_drewN (Below.refl _ _) q) (Nat.le_refl _))
    try clear F2
    revert Z1 Z2 K1 K2 B A2
    generalize U2.drewN q = U3
    intro Z1 Z2 K1 K2 B A2
    obtain ⟨x0, x1, x2, x3, x4, x5, x6, x7, x8, x9, x10⟩ := pjcell_at K1.out
    obtain ⟨y0, y1, y2, y3, y4, y5, y6, y7, y8, y9, y10⟩ := pjcell_at K2.out
    obtain ⟨z0, z1, z2, z3, z4⟩ := mcellJ_at Z1.out
    obtain ⟨v0, v1, v2, v3, v4⟩ := mcellJ_at Z2.out
    go_wp2_with fail
    clear x0 x1 x2 x3 x4 x5 x6 x7 x8 x9 x10 y0 y1 y2 y3 y4 y5 y6 y7 y8 y9 y10 z0 z1 z2 z3 z4 v0 v1 v2 v3 v4
    refine (ksame_any L.ca L2.ca L.cc L2.cc p.secret p.secret U3 (h.out.c.at_.below B.out (Nat.le_refl _)) A2.out.c.at_ h.out.c.len h.out.c.len).mono ?_
    rintro e1 U ⟨rfl, q, rfl⟩
    rw [sameB_selfJ]
    replace Z1 : Hid (Blk (U3.drewN q) pm 26 (mcells p.m L.l)) := Z1.out
    replace Z2 : Hid (Blk (U3.drewN q) (pm + 1) 26 (mcells p.m L2.l)) := Z2.out
    replace K1 : Hid (Blk (U3.drewN q) w.heap.size 28 (pjcells p L)) := K1.out
    replace K2 : Hid (Blk (U3.drewN q) p2 28 (pjcells p L2)) := K2.out
    replace B : Hid (Below w.heap.size w (U3.drewN q)) := below_drewN B.out q
    replace A2 := Hid.of (A2.out.below (below_drewN (Below.refl _ _) q) (Nat.le_refl _))
    try clear F2
    revert Z1 Z2 K1 K2 B A2
    generalize U3.drewN q = U4
    intro Z1 Z2 K1 K2 B A2
    obtain ⟨x0, x1, x2, x3, x4, x5, x6, x7, x8, x9, x10⟩ := pjcell_at K1.out
    obtain ⟨y0, y1, y2, y3, y4, y5, y6, y7, y8, y9, y10⟩ := pjcell_at K2.out
    obtain ⟨z0, z1, z2, z3, z4⟩ := mcellJ_at Z1.out
    obtain ⟨v0, v1, v2, v3, v4⟩ := mcellJ_at Z2.out
    go_wp2_with fail
    clear x0 x1 x2 x3 x4 x5 x6 x7 x8 x9 x10 y0 y1 y2 y3 y4 y5 y6 y7 y8 y9 y10 z0 z1 z2 z3 z4 v0 v1 v2 v3 v4
    refine (ksame_any L.l.a1 L2.l.a1 L.l.c1 L2.l.c1 p.m.starts p.m.starts U4 (h.out.m.s.below B.out (Nat.le_refl _)) A2.out.m.s (Nat.le_trans h.out.m.s1 h.out.m.s2) (Nat.le_trans h.out.m.s1 h.out.m.s2)).mono ?_
    rintro e1 U ⟨rfl, q, rfl⟩
    rw [sameB_selfJ]
    replace Z1 : Hid (Blk (U4.drewN q) pm 26 (mcells p.m L.l)) := Z1.out
    replace Z2 : Hid (Blk (U4.drewN q) (pm + 1) 26 (mcells p.m L2.l)) := Z2.out
    replace K1 : Hid (Blk (U4.drewN q) w.heap.size 28 (pjcells p L)) := K1.out
    replace K2 : Hid (Blk (U4.drewN q) p2 28 (pjcells p L2)) := K2.out
    replace B : Hid (Below w.heap.size w (U4.drewN q)) := below_drewN B.out q
    replace A2 := Hid.of (A2.out.below (below_drewN (Below.refl _ _) q) (Nat.le_refl _))
    try clear F2
    revert Z1 Z2 K1 K2 B A2
    generalize U4.drewN q = U5
    intro Z1 Z2 K1 K2 B A2
    obtain ⟨x0, x1, x2, x3, x4, x5, x6, x7, x8, x9, x10⟩ := pjcell_at K1.out
    obtain ⟨y0, y1, y2, y3, y4, y5, y6, y7, y8, y9, y10⟩ := pjcell_at K2.out
    obtain ⟨z0, z1, z2, z3, z4⟩ := mcellJ_at Z1.out
    obtain ⟨v0, v1, v2, v3, v4⟩ := mcellJ_at Z2.out
    go_wp2_with fail
    clear x0 x1 x2 x3 x4 x5 x6 x7 x8 x9 x10 y0 y1 y2 y3 y4 y5 y6 y7 y8 y9 y10 z0 z1 z2 z3 z4 v0 v1 v2 v3 v4
    refine (ksame_any L.l.a3 L2.l.a3 L.l.c3 L2.l.c3 p.m.ends p.m.ends U5 (h.out.m.e.below B.out (Nat.le_refl _)) A2.out.m.e (Nat.le_trans h.out.m.e1 h.out.m.e2) (Nat.le_trans h.out.m.e1 h.out.m.e2)).mono ?_
    rintro e1 U ⟨rfl, q, rfl⟩
    rw [sameB_selfJ]
    replace Z1 : Hid (Blk (U5.drewN q) pm 26 (mcells p.m L.l)) := Z1.out
    replace Z2 : Hid (Blk (U5.drewN q) (pm + 1) 26 (mcells p.m L2.l)) := Z2.out
    replace K1 : Hid (Blk (U5.drewN q) w.heap.size 28 (pjcells p L)) := K1.out
    replace K2 : Hid (Blk (U5.drewN q) p2 28 (pjcells p L2)) := K2.out
    replace B : Hid (Below w.heap.size w (U5.drewN q)) := below_drewN B.out q
    replace A2 := Hid.of (A2.out.below (below_drewN (Below.refl _ _) q) (Nat.le_refl _))
    try clear F2
    revert Z1 Z2 K1 K2 B A2
    generalize U5.drewN q = U6
    intro Z1 Z2 K1 K2 B A2
    go_wp2_with fail
    exact bodyPost_ret (v := .bool true) (by simp [results, go_sem]) rfl ⟨rfl, B.out⟩

end Go.Proofs.Ytbgiliophmofgaa
