/-
  hide.Hide, whatever comes in.
  What is hidden of a small machine fits; hide.Hide, where nothing is wrong.
  Plain: the places where two machines may be at once, and the least word that one accepts and the other one doesn't. No program, no model.
  Plain: a plant, and what may be known of where it is. No program, no model.
  Plain: the estimates of a plant, by the machine of what is seen of it and its sets; the search for the least list that leaks. No program, no model.
  A map keyed by sets of states, and rows of places of package current, as the model runs them.
  Rows of places, to be read; what slices.IndexFunc answers of them.
-/
import Derived.Test.YtmimjpkllgjdkaaDoorCHHide
import Derived.Test.YtmimjpkllgjdkaaDoorG21
import Derived.Test.YtmimjpkllgjdkaaDoorG03
import Derived.Test.YtmimjpkllgjdkaaDoorG15
import Derived.Test.YtmimjpkllgjdkaaDoorG04
import Derived.Test.YtmimjpkllgjdkaaDoorG20
import Derived.Test.YtmimjpkllgjdkaaDoorG16
import Derived.Test.YtmimjpkllgjdkaaDoorG06
namespace Go.Proofs.YtmimjpkllgjdkaaDoor
open Go.RowKit
set_option linter.unusedVariables false

theorem pHide_any (m : Mach) (l : ML) (sa : Option Addr) (sc : Nat) (seen : List Int) (w : World) (h : MAt w m l) (hs : At w sa seen) (hsl : seen.length ≤ maxLen) (hT : Tab w) :
    Calls Tryd.prog 27 #[mval m l, .slice sa seen.length sc] w fun e w' => HidePost w m seen e w' := by
  by_cases hbad : mayB m = false ∨ rowB m.ev seen = false
  · refine (hide_err m l sa sc seen w (Hid.of h) (Hid.of hs) (Hid.of hsl) (Hid.of hbad)).mono fun e w' h => ?_
    unfold HidePost; rw [if_pos hbad]; exact h
  · have hm : mayB m = true := by cases e : mayB m with
      | true => rfl
      | false => exact absurd (.inl e) hbad
    have hr : rowB m.ev seen = true := by cases e : rowB m.ev seen with
      | true => rfl
      | false => exact absurd (.inr e) hbad
    obtain ⟨mst, ev, starts, ars, ends⟩ := m
    obtain ⟨a1, c1, a2, c2, a3, c3⟩ := l
    obtain ⟨st, rfl⟩ : ∃ st : Nat, mst = (st : Int) := by
      have := mayB_size hm
      unfold sizeOk at this
      exact ⟨mst.toNat, by dsimp only at this; omega⟩
    refine (hide_ok st ev starts ars ends a1 c1 a2 c2 a3 c3 sa sc seen w (Hid.of h) (Hid.of hs) (Hid.of hsl) (Hid.of hm) (Hid.of hr) (Hid.of hT)).mono fun e w' h => ?_
    unfold HidePost; rw [if_neg hbad]; exact h

end Go.Proofs.YtmimjpkllgjdkaaDoor
namespace Go.Proofs.YtmimjpkllgjdkaaDoor
open Go.RowKit
set_option linter.unusedVariables false

theorem wide_small {m : Mach} (hm : mayB m = true) (z : m.st ≤ 6) {seen ss : List Int} (hs : ∀ x ∈ ss, 0 ≤ x ∧ x < m.st) : (wideL m.arrows seen ss).length ≤ 6 := by
  refine nodup_len 6 _ (inc_nodup (inc_wide _ _ _)) (fun x hx => ?_)
  have := wide_bd hm hs x hx
  omega
theorem hFrom_small {m : Mach} (hm : mayB m = true) (z : m.st ≤ 6) (seen : List Int) (f : Nat) : ∀ k, (hFrom m seen f k).length ≤ k * 6
  | 0 => by simp [hFrom]
  | k + 1 => by
    have h1 := hFrom_small hm z seen f k
    have h2 : (hRow m seen f k).length ≤ 6 := by unfold hRow; rw [List.length_map]; exact wide_small hm z (step_bd hm)
    rw [hFrom_succ, List.length_append]; omega
theorem hAll_small {m : Mach} (hm : mayB m = true) (z : m.st ≤ 6) (seen : List Int) (h8 : seen.length ≤ 8) : ∀ f, (hAll m seen f).length ≤ f * 48
  | 0 => by simp [hAll]
  | f + 1 => by
    have h1 := hAll_small hm z seen h8 f
    have h2 := hFrom_small hm z seen f seen.length
    rw [hAll_succ, List.length_append]; omega
theorem hide_small {m : Mach} (hm : mayB m = true) (z : m.st ≤ 6) {seen : List Int} (hr : rowB m.ev seen = true) : (hAll m seen m.st.toNat).length ≤ 4096 := by
  have hz := mayB_size hm
  unfold sizeOk at hz
  have h8 := row_short (by omega) (by omega) hr
  have := hAll_small hm z seen (by omega) m.st.toNat
  omega
/-- Hide, where nothing is wrong. -/
theorem hide_okp (m : Mach) (l : ML) (sa : Option Addr) (sc : Nat) (seen : List Int) (w : World) (h : MAt w m l) (hs : At w sa seen) (hsl : seen.length ≤ maxLen) (hT : Tab w) (hm : mayB m = true) (hr : rowB m.ev seen = true) (ha : (hAll m seen m.st.toNat).length ≤ 4096) :
    Calls Tryd.prog 27 #[mval m l, .slice sa seen.length sc] w fun e w' => ∃ L, e = .returned (.tuple #[mval (hideM m seen) L, .int .i64 0]) ∧ MAt w' (hideM m seen) L ∧ Below w.heap.size w w' := by
  refine (pHide_any m l sa sc seen w h hs hsl hT).mono ?_
  intro e w' hp
  unfold HidePost at hp
  rw [if_neg (by rw [hm, hr]; simp), if_pos ha] at hp
  exact hp

end Go.Proofs.YtmimjpkllgjdkaaDoor
namespace Go.Proofs.YtmimjpkllgjdkaaDoor
open Go.RowKit
set_option linter.unusedVariables false
set_option linter.unusedSectionVars false

/-! How many increasing lists there are. -/
theorem nodup_sub {α : Type} [DecidableEq α] : ∀ {l m : List α}, l.Nodup → (∀ x ∈ l, x ∈ m) → l.length ≤ m.length
  | [], m, _, _ => Nat.zero_le _
  | x :: r, m, hn, hs => by
    rw [List.nodup_cons] at hn
    have hx := hs x (by simp)
    have ih := nodup_sub (l := r) (m := m.erase x) hn.2 (fun y hy => by
      have hne : y ≠ x := fun e => hn.1 (e ▸ hy)
      exact (List.mem_erase_of_ne hne).2 (hs y (by simp [hy])))
    rw [List.length_erase_of_mem hx] at ih
    have := List.length_pos_of_mem hx
    rw [List.length_cons]; omega
def subs : Nat → List (List Int)
  | 0 => [[]]
  | n + 1 => subs n ++ (subs n).map (· ++ [(n : Int)])
theorem subs_len : ∀ n, (subs n).length = 2 ^ n
  | 0 => rfl
  | n + 1 => by rw [subs, List.length_append, List.length_map, subs_len n, Nat.pow_succ]; omega
theorem mem_subs : ∀ (n : Nat) (l : List Int), Inc l → (∀ x ∈ l, 0 ≤ x ∧ x < (n : Int)) → l ∈ subs n
  | 0, l, _, h => by
    have : l = [] := by
      cases l with
      | nil => rfl
      | cons x r => have := h x (by simp); omega
    subst this; simp [subs]
  | n + 1, l, hi, h => by
    rw [subs, List.mem_append, List.mem_map]
    by_cases hn : (n : Int) ∈ l
    · right
      have hne : l ≠ [] := fun e => by rw [e] at hn; simp at hn
      obtain ⟨v, z, e⟩ : ∃ v z, l = v ++ [z] := ⟨_, _, (List.dropLast_concat_getLast hne).symm⟩
      subst e
      unfold Inc at hi
      rw [List.pairwise_append] at hi
      have hz := h z (by simp)
      have hzn : z = (n : Int) := by
        rcases List.mem_append.1 hn with h1 | h1
        · have := hi.2.2 _ h1 z (by simp); omega
        · have : (n : Int) = z := by simpa using h1
          exact this.symm
      subst hzn
      refine ⟨v, mem_subs n v hi.1 (fun x hx => ?_), rfl⟩
      have h1 := hi.2.2 x hx _ (by simp : (n : Int) ∈ [(n : Int)])
      have h2 := h x (by simp [hx])
      omega
    · left
      refine mem_subs n l hi (fun x hx => ?_)
      have h1 := h x hx
      have : x ≠ (n : Int) := fun e => hn (e ▸ hx)
      omega
/-! The search ends. -/
section
variable {σ : Type} [DecidableEq σ] {δ : σ → Nat → σ}
theorem bi_wlen {s0 : σ} {ev k n : Nat} {l : List (σ × List Int)} (h : BI δ s0 ev k n l) : ∀ (j : Nat) (p : σ × List Int), l[j]? = some p → p.2.length ≤ j := by
  intro j
  induction j using Nat.strongRecOn with
  | _ j ih =>
    intro p hp
    rcases h.top p (List.mem_of_getElem? hp) with h0 | ⟨i, x, e, hx, h1, -⟩
    · rw [h0]; simp
    · have hl : p.2.length = x.2.length + 1 := by rw [h1]; simp
      have hlt := (List.getElem?_eq_some_iff.1 hp).1
      have hlx := (List.getElem?_eq_some_iff.1 hx).1
      have hij : i < j := by
        rcases Nat.lt_trichotomy i j with h2 | h2 | h2
        · exact h2
        · subst h2; rw [hx] at hp; have := Option.some.inj hp; subst this; omega
        · have := List.pairwise_iff_getElem.1 h.inc j i hlt hlx h2
          rw [(List.getElem?_eq_some_iff.1 hx).2, (List.getElem?_eq_some_iff.1 hp).2] at this
          have := lessB_len this; omega
      have := ih i hij x hx
      omega
theorem bi_end {s0 : σ} {ev N : Nat} (hN : ∀ (k n : Nat) (l : List (σ × List Int)), BI δ s0 ev k n l → l.length ≤ N) : ∀ (f k : Nat) (l : List (σ × List Int)), BI δ s0 ev k 0 l → k ≤ l.length → N < f + k → BI δ s0 ev (bfGo δ ev f k l).length 0 (bfGo δ ev f k l)
  | 0, k, l, h, hk, hf => by have := hN _ _ _ h; omega
  | f + 1, k, l, h, hk, hf => by
    cases hx : l[k]? with
    | none =>
      have e : bfGo δ ev (f + 1) k l = l := by unfold bfGo; rw [hx]
      have : k = l.length := by have := List.getElem?_eq_none_iff.1 hx; omega
      rw [e]; rw [this] at h; exact h
    | some x =>
      have e : bfGo δ ev (f + 1) k l = bfGo δ ev f (k + 1) (bfRow δ x l ev) := by rw [bfGo, hx]
      rw [e]
      have hlt := (List.getElem?_eq_some_iff.1 hx).1
      obtain ⟨t, ht⟩ := bfRow_pre δ x l ev
      exact bi_end hN f (k + 1) _ (bi_next δ h hx) (by rw [ht, List.length_append]; omega) (by omega)
end

/-! Two machines at once. -/
end Go.Proofs.YtmimjpkllgjdkaaDoor
namespace Go.Proofs.YtmimjpkllgjdkaaDoor
open Go.RowKit
set_option linter.unusedVariables false
set_option linter.unusedSectionVars false

/-! Words by the numbers of some events. -/
/-- The events of a word of numbers. -/
def wordS (seen u : List Int) : List Int := u.map fun k => seen[k.toNat]?.getD 0
/-- The numbers of the events of a word. -/
def idxS (seen word : List Int) : List Int := word.map fun e => placeI seen e
theorem wordS_snoc (seen u : List Int) (e : Nat) : wordS seen (u ++ [(e : Int)]) = wordS seen u ++ [seen[e]?.getD 0] := by simp [wordS]
theorem wordS_len (seen u : List Int) : (wordS seen u).length = u.length := by simp [wordS]
theorem idx_in {seen word : List Int} (h : ∀ e ∈ word, e ∈ seen) : ∀ k ∈ idxS seen word, 0 ≤ k ∧ k < (seen.length : Int) := by
  intro k hk
  obtain ⟨e, he, rfl⟩ := List.mem_map.1 hk
  obtain ⟨j, hj⟩ := placeN_mem (h e he)
  have h1 := placeI_of hj
  have h2 := (List.getElem?_eq_some_iff.1 (placeN_some hj)).1
  omega
theorem word_idx {seen : List Int} : ∀ {word : List Int}, (∀ e ∈ word, e ∈ seen) → wordS seen (idxS seen word) = word
  | [], _ => rfl
  | e :: r, h => by
    have ih := word_idx (word := r) (fun x hx => h x (by simp [hx]))
    obtain ⟨j, hj⟩ := placeN_mem (h e (by simp))
    have h1 := placeI_of hj
    have h2 := placeN_some hj
    simp only [idxS, wordS, List.map_cons] at ih ⊢
    rw [ih, h1, Int.toNat_natCast, h2, Option.getD_some]
theorem word_in {seen u : List Int} (h : ∀ k ∈ u, 0 ≤ k ∧ k < (seen.length : Int)) : ∀ e ∈ wordS seen u, e ∈ seen := by
  intro e he
  obtain ⟨k, hk, rfl⟩ := List.mem_map.1 he
  have := h k hk
  have hl : k.toNat < seen.length := by omega
  rw [List.getElem?_eq_getElem hl]
  exact List.getElem_mem hl
theorem seen_lt {seen : List Int} (hi : Inc seen) {j k : Int} (hj : 0 ≤ j ∧ j < (seen.length : Int)) (hk : 0 ≤ k ∧ k < (seen.length : Int)) : (seen[j.toNat]?.getD 0 < seen[k.toNat]?.getD 0 ↔ j < k) ∧ (seen[j.toNat]?.getD 0 = seen[k.toNat]?.getD 0 ↔ j = k) := by
  have l1 : j.toNat < seen.length := by omega
  have l2 : k.toNat < seen.length := by omega
  rw [List.getElem?_eq_getElem l1, List.getElem?_eq_getElem l2, Option.getD_some, Option.getD_some]
  rcases Int.lt_trichotomy j k with h | h | h
  · have := List.pairwise_iff_getElem.1 hi j.toNat k.toNat l1 l2 (by omega)
    constructor <;> constructor <;> omega
  · subst h
    constructor <;> constructor <;> omega
  · have := List.pairwise_iff_getElem.1 hi k.toNat j.toNat l2 l1 (by omega)
    constructor <;> constructor <;> omega
theorem lexB_word {seen : List Int} (hi : Inc seen) : ∀ {u v : List Int}, (∀ k ∈ u, 0 ≤ k ∧ k < (seen.length : Int)) → (∀ k ∈ v, 0 ≤ k ∧ k < (seen.length : Int)) → lexB (wordS seen u) (wordS seen v) = lexB u v
  | [], v, _, _ => by simp [wordS, lexB]
  | _ :: _, [], _, _ => by simp [wordS, lexB]
  | j :: u, k :: v, h, h' => by
    have ih := lexB_word hi (u := u) (v := v) (fun x hx => h x (by simp [hx])) (fun x hx => h' x (by simp [hx]))
    obtain ⟨q1, q2⟩ := seen_lt hi (h j (by simp)) (h' k (by simp))
    show lexB (seen[j.toNat]?.getD 0 :: wordS seen u) (seen[k.toNat]?.getD 0 :: wordS seen v) = _
    unfold lexB
    by_cases e : j = k
    · rw [if_pos (q2.2 e), if_pos e, ih]
    · rw [if_neg (fun h => e (q2.1 h)), if_neg e]
      exact decide_eq_decide.2 q1
theorem lessB_word {seen : List Int} (hi : Inc seen) {u v : List Int} (h : ∀ k ∈ u, 0 ≤ k ∧ k < (seen.length : Int)) (h' : ∀ k ∈ v, 0 ≤ k ∧ k < (seen.length : Int)) : lessB (wordS seen u) (wordS seen v) = lessB u v := by
  unfold lessB
  rw [wordS_len, wordS_len, lexB_word hi h h']

/-! The plant. -/
structure Plant where
  m : Mach
  seen : List Int
  secret : List Int
/-- May it be (I1)? -/
def mayP (p : Plant) : Bool := mayB p.m && (decide (p.m.st ≤ 6) && (rowB p.m.ev p.seen && rowB p.m.st p.secret))
theorem mayP_iff (p : Plant) : mayP p = true ↔ mayB p.m = true ∧ p.m.st ≤ 6 ∧ rowB p.m.ev p.seen = true ∧ rowB p.m.st p.secret = true := by
  unfold mayP; simp only [Bool.and_eq_true, decide_eq_true_eq]
/-- What is known when an event was seen. -/
def seeL (p : Plant) (s : List Int) (e : Int) : List Int := wideL p.m.arrows p.seen (stepL p.m.arrows s e)
/-- What is known behind a list of seen events, from some states on. -/
def fromL (p : Plant) (ss word : List Int) : List Int := word.foldl (seeL p) (wideL p.m.arrows p.seen ss)
/-- The estimate (I2). -/
def estL (p : Plant) (word : List Int) : List Int := fromL p p.m.starts word
/-- Is a row not empty, and all of it secret? -/
def leakB (secret row : List Int) : Bool := decide (0 < row.length) && decide ((row.filter fun n => hasB secret n == false).length = 0)
def seeD (p : Plant) (s : List Int) (k : Nat) : List Int := seeL p s (p.seen[k]?.getD 0)
theorem see_run (p : Plant) : ∀ (u : List Int) (s : List Int), runF (seeD p) s u = (wordS p.seen u).foldl (seeL p) s
  | [], s => rfl
  | k :: u, s => by
    show runF (seeD p) (seeD p s k.toNat) u = _
    rw [see_run p u]; rfl
/-- All estimates, each with the least list (of numbers) that has it, the lesser ones ahead. -/
def fwdL (p : Plant) : List (List Int × List Int) := bfGo (seeD p) p.seen.length 65 0 [(wideL p.m.arrows p.seen p.m.starts, [])]
/-- The least list that leaks. -/
def outC (p : Plant) : Option (List Int) := ((fwdL p).find? fun x => leakB p.secret x.1).map fun x => wordS p.seen x.2
theorem see_in {p : Plant} (hm : mayB p.m = true) (s : List Int) (e : Int) : Inc (seeL p s e) ∧ ∀ x ∈ seeL p s e, 0 ≤ x ∧ x < p.m.st := ⟨inc_wide _ _ _, wide_bd hm (step_bd hm)⟩
theorem from_in {p : Plant} (hm : mayB p.m = true) : ∀ (word s : List Int), (Inc s ∧ ∀ x ∈ s, 0 ≤ x ∧ x < p.m.st) → Inc (word.foldl (seeL p) s) ∧ ∀ x ∈ word.foldl (seeL p) s, 0 ≤ x ∧ x < p.m.st
  | [], s, h => h
  | e :: r, s, _ => from_in hm r (seeL p s e) (see_in hm s e)
theorem wide_in {p : Plant} (hm : mayB p.m = true) {ss : List Int} (hs : ∀ x ∈ ss, 0 ≤ x ∧ x < p.m.st) : Inc (wideL p.m.arrows p.seen ss) ∧ ∀ x ∈ wideL p.m.arrows p.seen ss, 0 ≤ x ∧ x < p.m.st := ⟨inc_wide _ _ _, wide_bd hm hs⟩
theorem est_in {p : Plant} (hm : mayB p.m = true) (word : List Int) : Inc (estL p word) ∧ ∀ x ∈ estL p word, 0 ≤ x ∧ x < p.m.st := from_in hm word _ (wide_in hm (may_starts hm).2)
theorem fwd_bound {p : Plant} (hm : mayB p.m = true) (z : p.m.st ≤ 6) {k n : Nat} {l : List (List Int × List Int)} (h : BI (seeD p) (wideL p.m.arrows p.seen p.m.starts) p.seen.length k n l) : l.length ≤ 64 := by
  have h1 := nodup_sub (m := subs 6) h.nd (fun s hs => by
    obtain ⟨x, hx, rfl⟩ := List.mem_map.1 hs
    obtain ⟨e1, e2⟩ := h.run x hx
    rw [see_run] at e1
    have i1 := from_in hm (wordS p.seen x.2) _ (wide_in hm (may_starts hm).2)
    rw [e1]
    exact mem_subs 6 _ i1.1 (fun y hy => by have := i1.2 y hy; omega))
  rw [List.length_map, subs_len] at h1
  exact h1
theorem fwd_all {p : Plant} (hm : mayB p.m = true) (z : p.m.st ≤ 6) : BI (seeD p) (wideL p.m.arrows p.seen p.m.starts) p.seen.length (fwdL p).length 0 (fwdL p) :=
  bi_end (N := 64) (fun k n l h => fwd_bound hm z h) 65 0 _ (bi_start _ _ _) (Nat.zero_le _) (by omega)
theorem fwd_est {p : Plant} {k n : Nat} {l : List (List Int × List Int)} (h : BI (seeD p) (wideL p.m.arrows p.seen p.m.starts) p.seen.length k n l) {x : List Int × List Int} (hx : x ∈ l) : x.1 = estL p (wordS p.seen x.2) := by
  rw [(h.run x hx).1, see_run]; rfl
theorem outC_none {p : Plant} (hp : mayP p = true) (h : outC p = none) (word : List Int) (hw : ∀ e ∈ word, e ∈ p.seen) : leakB p.secret (estL p word) = false := by
  obtain ⟨hm, z, hs, -⟩ := (mayP_iff p).1 hp
  have hI := fwd_all hm z
  obtain ⟨x, hx, e1, -⟩ := bi_all _ hI (idxS p.seen word) (idx_in hw)
  unfold outC at h
  rw [Option.map_eq_none_iff, List.find?_eq_none] at h
  have h1 := h x hx
  rw [e1, see_run, word_idx hw] at h1
  have h2 : leakB p.secret (estL p word) ≠ true := h1
  simpa using h2
theorem outC_some {p : Plant} (hp : mayP p = true) {v : List Int} (h : outC p = some v) : leakB p.secret (estL p v) = true ∧ (∀ e ∈ v, e ∈ p.seen) ∧ v.length ≤ 64 ∧ ∀ word : List Int, (∀ e ∈ word, e ∈ p.seen) → leakB p.secret (estL p word) = true → lessB word v = false := by
  obtain ⟨hm, z, hs, -⟩ := (mayP_iff p).1 hp
  have hz := mayB_size hm
  unfold sizeOk at hz
  have hi : Inc p.seen := ((rowB_iff _ (by omega) _).1 hs).1
  have hI := fwd_all hm z
  unfold outC at h
  rw [Option.map_eq_some_iff] at h
  obtain ⟨x, hx, rfl⟩ := h
  have hxo := List.find?_some hx
  rw [List.find?_eq_some_iff_getElem] at hx
  obtain ⟨-, i, hil, e0, hlow⟩ := hx
  have hxi : (fwdL p)[i]? = some x := by rw [List.getElem?_eq_getElem hil, e0]
  have hxm := List.mem_of_getElem? hxi
  have hr := hI.run x hxm
  have hbd := fwd_bound hm z hI
  refine ⟨?_, word_in hr.2, ?_, fun word hw hb' => ?_⟩
  · rw [← fwd_est hI hxm]; exact hxo
  · have := bi_wlen hI i x hxi; rw [wordS_len]; omega
  · obtain ⟨q, hq, e1, e2⟩ := bi_all _ hI (idxS p.seen word) (idx_in hw)
    have hqo : leakB p.secret q.1 = true := by
      rw [e1, see_run, word_idx hw]; exact hb'
    obtain ⟨j, hj⟩ := List.mem_iff_getElem?.1 hq
    have hjl := (List.getElem?_eq_some_iff.1 hj).1
    have hqe := (List.getElem?_eq_some_iff.1 hj).2
    have hij : i ≤ j := by
      rcases Nat.lt_or_ge j i with h1 | h1
      · have := hlow j h1
        rw [hqe, hqo] at this; simp at this
      · exact h1
    have hle : leW x.2 q.2 := by
      rcases Nat.lt_or_ge i j with h1 | h1
      · have := List.pairwise_iff_getElem.1 hI.inc i j hil hjl h1
        rw [hqe, e0] at this
        exact .inr this
      · have : i = j := by omega
        subst this
        rw [hxi] at hj
        have := Option.some.inj hj
        subst this
        exact leW_refl _
    have hn := leW_not (leW_trans hle e2)
    rw [← lessB_word hi (idx_in hw) hr.2, word_idx hw] at hn
    exact hn

end Go.Proofs.YtmimjpkllgjdkaaDoor
namespace Go.Proofs.YtmimjpkllgjdkaaDoor
open Go.RowKit
set_option linter.unusedVariables false

/-- A list of states that what is not seen does not leave. -/
def ClU (p : Plant) (s : List Int) : Prop := (∀ x ∈ s, 0 ≤ x ∧ x < p.m.st) ∧ ∀ a ∈ p.m.arrows, hasB p.seen a.e = false → a.f ∈ s → a.t ∈ s
theorem clU_wide {p : Plant} (hm : mayB p.m = true) {ss : List Int} (hs : ∀ x ∈ ss, 0 ≤ x ∧ x < p.m.st) : ClU p (wideL p.m.arrows p.seen ss) := ⟨wide_bd hm hs, fun a ha hu h => wide_cl (may_to hm) ha hu h⟩
theorem clU_see {p : Plant} (hm : mayB p.m = true) (s : List Int) (e : Int) : ClU p (seeL p s e) := clU_wide hm (step_bd hm)
theorem clU_fold {p : Plant} (hm : mayB p.m = true) : ∀ (word s : List Int), ClU p s → ClU p (word.foldl (seeL p) s)
  | [], s, h => h
  | e :: r, s, _ => clU_fold hm r (seeL p s e) (clU_see hm s e)
theorem clU_start {p : Plant} (hm : mayB p.m = true) : ClU p (wideL p.m.arrows p.seen p.m.starts) := clU_wide hm (may_starts hm).2
/-- In the machine of what is seen an estimate leads to the next one. -/
theorem hide_see {p : Plant} (hm : mayB p.m = true) {s : List Int} (hs : ClU p s) {k : Nat} (hk : k < p.seen.length) : stepL (hideM p.m p.seen).arrows s (k : Int) = seeD p s k := by
  refine inc_ext (inc_srt _) (inc_wide _ _ _) fun x => ?_
  rw [mem_stepL]
  unfold seeD seeL
  rw [mem_wide (may_to hm)]
  constructor
  · rintro ⟨a, ha, h1, h2, rfl⟩
    obtain ⟨f, j, hf, hj, hr⟩ := (mem_hAll _ _ _ _).1 (show a ∈ hAll p.m p.seen p.m.st.toNat from ha)
    obtain ⟨t, ht, rfl⟩ := (mem_hRow _ _ _ _ _).1 hr
    dsimp only at h1 h2 ⊢
    have : j = k := by omega
    subst this
    have h3 := (mem_wide (may_to hm) t).1 ht
    refine rch_trans (fun y hy => rch_start ?_) h3
    obtain ⟨b, hb, e1, e2, e3⟩ := (mem_stepL _ _ _ _).1 hy
    refine (mem_stepL _ _ _ _).2 ⟨b, hb, e1, ?_, e3⟩
    exact (mem_wide (may_to hm) b.f).1 e2 (· ∈ s) ⟨fun y hy => by
      have : y = (f : Int) := by simpa using hy
      rw [this]; exact h2, fun c hc hcs => hs.2 c ((mem_unseen _ _ _).1 hc).1 ((mem_unseen _ _ _).1 hc).2 hcs⟩
  · intro hx
    obtain ⟨y, hy, hyx⟩ := rch_one.1 hx
    obtain ⟨a, ha, e1, e2, rfl⟩ := (mem_stepL _ _ _ _).1 hy
    have bd := hs.1 _ e2
    refine ⟨⟨a.f, (k : Int), x⟩, ?_, rfl, e2, rfl⟩
    refine (mem_hAll _ _ _ _).2 ⟨a.f.toNat, k, by omega, hk, (mem_hRow _ _ _ _ _).2 ⟨x, ?_, by rw [Int.toNat_of_nonneg bd.1]⟩⟩
    rw [mem_wide (may_to hm)]
    refine rch_trans (fun z hz => rch_start ?_) hyx
    have : z = a.t := by simpa using hz
    subst this
    exact (mem_stepL _ _ _ _).2 ⟨a, ha, e1, wide_sub (may_to hm) _ (by simp [Int.toNat_of_nonneg bd.1]), rfl⟩
theorem see_nil {p : Plant} (hm : mayB p.m = true) (e : Int) : seeL p [] e = [] := by
  rw [List.eq_nil_iff_forall_not_mem]
  intro x hx
  unfold seeL at hx
  rw [mem_wide (may_to hm)] at hx
  obtain ⟨y, hy, -⟩ := rch_one.1 hx
  obtain ⟨a, -, -, h, -⟩ := (mem_stepL _ _ _ _).1 hy
  cases h
theorem fold_nil {p : Plant} (hm : mayB p.m = true) : ∀ word : List Int, word.foldl (seeL p) [] = []
  | [] => rfl
  | e :: r => by rw [List.foldl_cons, see_nil hm, fold_nil hm r]
/-! The search. -/
/-- What is found is what is known behind a list, and closed. -/
theorem fwd_cl {p : Plant} (hm : mayB p.m = true) {k n : Nat} {l : List (List Int × List Int)} (h : BI (seeD p) (wideL p.m.arrows p.seen p.m.starts) p.seen.length k n l) {x : List Int × List Int} (hx : x ∈ l) : ClU p x.1 ∧ Inc x.1 := by
  have e := (h.run x hx).1
  rw [see_run] at e
  rw [e]
  exact ⟨clU_fold hm _ _ (clU_start hm), (from_in hm _ _ (wide_in hm (may_starts hm).2)).1⟩

end Go.Proofs.YtmimjpkllgjdkaaDoor
namespace Go.Proofs.YtmimjpkllgjdkaaDoor
open Go.RowKit
set_option linter.unusedVariables false

/-- A place: its set, its list as a value, and what that reads as. -/
structure PlC where
  s : Nat → Nat
  v : Value
  word : List Int
/-- The set stands for a list, which rises. -/
def RepI (S : Nat → Nat) (s : List Int) : Prop := Rep S s ∧ Inc s
def entC (k : Nat) (p : PlC) : MapEntry := { key := sval p.s, val := .agg #[], born := k }
def entsC (L : List PlC) : Array MapEntry := (L.mapIdx entC).toArray
theorem entsC_snoc (L : List PlC) (p : PlC) : entsC (L ++ [p]) = (entsC L).push (entC L.length p) := by
  unfold entsC; rw [List.mapIdx_concat]; simp
/-- The places stand for what has been found, one by one. -/
structure RepCL (L : List PlC) (l : List (List Int × List Int)) : Prop where
  len : L.length = l.length
  rep : ∀ (k : Nat) (p : PlC), L[k]? = some p → ∃ x, l[k]? = some x ∧ RepI p.s x.1
theorem RepCL.at {L : List PlC} {l : List (List Int × List Int)} (h : RepCL L l) {k : Nat} {x : List Int × List Int} (hk : l[k]? = some x) : ∃ p, L[k]? = some p ∧ RepI p.s x.1 := by
  have hlt := (List.getElem?_eq_some_iff.1 hk).1
  have hlt' : k < L.length := by rw [h.len]; exact hlt
  obtain ⟨y, h1, h2⟩ := h.rep k _ (List.getElem?_eq_getElem hlt')
  rw [hk] at h1
  have h1 := Option.some.inj h1
  subst h1
  exact ⟨_, List.getElem?_eq_getElem hlt', h2⟩
theorem RepCL.snoc {L : List PlC} {l : List (List Int × List Int)} (h : RepCL L l) {p : PlC} {x : List Int × List Int} (hr : RepI p.s x.1) : RepCL (L ++ [p]) (l ++ [x]) := by
  refine ⟨by simp [h.len], fun k q hk => ?_⟩
  by_cases hlt : k < L.length
  · rw [List.getElem?_append_left hlt] at hk
    obtain ⟨y, h1, h2⟩ := h.rep k q hk
    exact ⟨y, by rw [List.getElem?_append_left (by rw [← h.len]; exact hlt)]; exact h1, h2⟩
  · have hk' := (List.getElem?_eq_some_iff.1 hk).1
    simp at hk'
    have e : k = L.length := by omega
    subst e
    rw [List.getElem?_append_right (Nat.le_refl _)] at hk
    have : p = q := by simpa using hk
    subst this
    exact ⟨x, by rw [h.len, List.getElem?_append_right (Nat.le_refl _)]; simp, hr⟩
theorem RepCL.one {p : PlC} {x : List Int × List Int} (hr : RepI p.s x.1) : RepCL [p] [x] := RepCL.snoc (L := []) (l := []) ⟨rfl, fun k S h => by simp at h⟩ hr
theorem find_sc {L : List PlC} {l : List (List Int × List Int)} (hR : RepCL L l) {S : Nat → Nat} {s : List Int} (hr : RepI S s) (w : World) :
    (knownB l s = true ∧ ∃ j, (Instr.findKey 69 (sval S) (entsC L).toList).run Tryd.prog w = .ok (some (j, .agg #[])) w) ∨ (knownB l s = false ∧ (Instr.findKey 69 (sval S) (entsC L).toList).run Tryd.prog w = .ok none w) := by
  obtain ⟨kl, hl⟩ := keySet hr.1.ok
  have hget : ∀ (j : Nat) e, (entsC L).toList[j]? = some e → ∃ p, L[j]? = some p ∧ e = entC j p := by
    intro j e h
    simp only [entsC] at h
    rw [List.getElem?_mapIdx] at h
    cases hq : L[j]? with
    | none => rw [hq] at h; cases h
    | some q => rw [hq] at h; exact ⟨q, rfl, (Option.some.inj h).symm⟩
  have hes : ∀ e ∈ (entsC L).toList, ∃ l, keyOf Tryd.prog 69 e.key = some l := by
    intro e he
    obtain ⟨j, hj⟩ := List.mem_iff_getElem?.1 he
    obtain ⟨p, hp, rfl⟩ := hget j e hj
    obtain ⟨x, -, h2⟩ := hR.rep j p hp
    exact keySet h2.1.ok
  rcases lawSet.find w hl (entsC L).toList hes with ⟨h1, h2⟩ | ⟨j, e, h1, h2, h3⟩
  · refine .inr ⟨?_, h1⟩
    cases hk : knownB l s with
    | false => rfl
    | true =>
      obtain ⟨x, hx, e1⟩ := (knownB_iff _ _).1 hk
      obtain ⟨j, hj⟩ := List.mem_iff_getElem?.1 hx
      obtain ⟨p, hp, hrp⟩ := hR.at hj
      refine absurd (eqS_sval ((eqS_iff hrp.1 hr.1 hrp.2 hr.2).2 e1)) (h2 (entC j p) (List.mem_of_getElem? (i := j) ?_))
      simp only [entsC]
      rw [List.getElem?_mapIdx, hp]; rfl
  · obtain ⟨p, hp, rfl⟩ := hget j e h2
    obtain ⟨x, hx, hrx⟩ := hR.rep j p hp
    exact .inl ⟨(knownB_iff _ _).2 ⟨x, List.mem_of_getElem? hx, (eqS_iff hrx.1 hr.1 hrx.2 hr.2).1 (sval_eq h3)⟩, j, h1⟩
theorem mapSC : Tryd.prog.underlying 135 = some (.map 69 134) := by kernel_rfl
theorem lookC_known {L : List PlC} {l : List (List Int × List Int)} (hR : RepCL L l) {S : Nat → Nat} {s : List Int} (hr : RepI S s) {w : World} {r c : Nat} (hm : w.heap[r]? = some (.map (entsC L) c)) (h : knownB l s = true) :
    (Instr.lookup 135 (.map (some r)) (sval S) true).run Tryd.prog w = .ok (.tuple #[.agg #[], .bool true]) w := by
  obtain ⟨kl, hl⟩ := keySet hr.1.ok
  rcases find_sc hR hr w with ⟨-, j, h1⟩ | ⟨h1, -⟩
  · simp [Instr.lookup, run_underlying mapSC, MapKept.run_getObj_map hm, lawSet.check w _ hl, h1, Result.andThen]
  · rw [h] at h1; cases h1
theorem lookC_new {L : List PlC} {l : List (List Int × List Int)} (hR : RepCL L l) {S : Nat → Nat} {s : List Int} (hr : RepI S s) {w : World} {r c : Nat} (hm : w.heap[r]? = some (.map (entsC L) c)) (h : knownB l s = false) :
    (Instr.lookup 135 (.map (some r)) (sval S) true).run Tryd.prog w = .ok (.tuple #[.agg #[], .bool false]) w := by
  obtain ⟨kl, hl⟩ := keySet hr.1.ok
  rcases find_sc hR hr w with ⟨h1, -⟩ | ⟨-, h1⟩
  · rw [h] at h1; cases h1
  · simp [Instr.lookup, run_underlying mapSC, MapKept.run_getObj_map hm, lawSet.check w _ hl, h1, Result.andThen]
theorem updC_new {L : List PlC} {l : List (List Int × List Int)} (hR : RepCL L l) {p : PlC} {s : List Int} (hr : RepI p.s s) {w : World} {r : Nat} (hm : w.heap[r]? = some (.map (entsC L) L.length)) (h : knownB l s = false) :
    (Instr.mapUpdate 135 (.map (some r)) (sval p.s) (.agg #[])).run Tryd.prog w = .ok () (setMap w r (.map (entsC (L ++ [p])) (L.length + 1))) := by
  obtain ⟨kl, hl⟩ := keySet hr.1.ok
  rcases find_sc hR hr w with ⟨h1, -⟩ | ⟨-, h1⟩
  · rw [h] at h1; cases h1
  · simp [Instr.mapUpdate, run_underlying mapSC, MapKept.run_getObj_map hm, lawSet.check w _ hl, h1, MapKept.run_setObj_map _ hm, Result.andThen, setMap, entsC_snoc, entC]
theorem updC_first {p : PlC} {s : List Int} (hr : RepI p.s s) {w : World} {r : Nat} (hm : w.heap[r]? = some (.map #[] 0)) :
    (Instr.mapUpdate 135 (.map (some r)) (sval p.s) (.agg #[])).run Tryd.prog w = .ok () (setMap w r (.map (entsC [p]) 1)) := by
  have := updC_new (L := []) (l := []) ⟨rfl, fun k S h => by simp at h⟩ hr (w := w) (r := r) hm rfl
  simpa using this

/-! Rows of places. -/
def pccells (p : PlC) : List Value := [.int .u64 (p.s 0), .int .u64 (p.s 1), .int .u64 (p.s 2), .int .u64 (p.s 3), p.v]
def pcflat : List PlC → List Value
  | [] => []
  | p :: r => pccells p ++ pcflat r
theorem pcflat_append : ∀ L M : List PlC, pcflat (L ++ M) = pcflat L ++ pcflat M
  | [], M => rfl
  | a :: r, M => by simp only [List.cons_append, pcflat, pcflat_append r M, List.append_assoc]
theorem pcflat_at : ∀ {L : List PlC} {k : Nat} {p : PlC}, L[k]? = some p → ∀ j, j < 5 → (pcflat L)[k * 5 + j]? = (pccells p)[j]?
  | [], k, p, h => by simp at h
  | a :: r, 0, p, h => by
    have e : a = p := by simpa using h
    subst e
    intro j hj
    rw [pcflat, Nat.zero_mul, Nat.zero_add, List.getElem?_append_left (by simp [pccells]; omega)]
  | a :: r, k + 1, p, h => by
    intro j hj
    have := pcflat_at (L := r) (k := k) (p := p) (by simpa using h) j hj
    rw [pcflat, List.getElem?_append_right (by simp [pccells]; omega)]
    have e : (k + 1) * 5 + j - (pccells a).length = k * 5 + j := by simp [pccells]; omega
    rw [e]; exact this
abbrev OwnC (W : World) (B : Nat) (v : Value) (L : List PlC) : Prop := W.ownsRow B 99 5 v L.length (pcflat L)
theorem OwnC.cell {W : World} {B : Nat} {v : Value} {L : List PlC} (h : OwnC W B v L) {k : Nat} {p : PlC} (hk : L[k]? = some p) : ∃ g cap, v = .slice (some ⟨g, 0, none⟩) L.length cap ∧ B ≤ g ∧ g < W.heap.size ∧ ∀ j u, (pccells p)[j]? = some u → W.cell? ⟨g, k * 5 + j, none⟩ = some u := by
  rcases h.2 with ⟨rfl, hn⟩ | ⟨g, cap, cur, rfl, hg, hh, hnc, hcm, hcs, ht⟩
  · have := (List.getElem?_eq_some_iff.1 hk).1; omega
  · refine ⟨g, cap, rfl, hg, (Array.getElem?_eq_some_iff.1 hh).1, fun j u hu => ?_⟩
    have hj : j < 5 := by have := (List.getElem?_eq_some_iff.1 hu).1; simpa [pccells] using this
    have c1 := h.cells (g := g) rfl _ _ ((pcflat_at hk j hj).trans hu)
    rwa [addr0_add, Nat.zero_add] at c1
theorem own_plcC {W : World} {B : Nat} {v : Value} {L : List PlC} {p : PlC} (h : W.ownsRow B 99 5 v (L.length + 1) (pcflat L ++ pccells p)) : OwnC W B v (L ++ [p]) := by
  show W.ownsRow B 99 5 v (L ++ [p]).length (pcflat (L ++ [p]))
  rw [List.length_append, pcflat_append]
  have e : pcflat [p] = pccells p := by simp [pcflat]
  rw [e]; exact h
theorem ownC_one (W : World) (p : PlC) (B : Nat) (hB : B ≤ W.heap.size) : OwnC (W.alloc (.cells (pccells p).toArray 99)) B (.slice (some ⟨W.heap.size, 0, none⟩) 1 1) [p] := by
  have : World.ownsRow (W.alloc (.cells (pccells p).toArray 99)) B 99 5 (.slice (some ⟨W.heap.size, 0, none⟩) 1 1) 1 (pccells p) := World.ownsRow_lit W (pccells p).toArray 1 hB (by decide) rfl
  have e : pcflat [p] = pccells p := by simp [pcflat]
  show World.ownsRow _ B 99 5 _ 1 (pcflat [p])
  rw [e]; exact this

/-- Words that lie in memory stay where they are. -/
theorem innW_map {W : World} {br : Nat} {m : Array MapEntry} {c : Nat} (hm : W.heap[br]? = some (.map m c)) (o : Obj) {x : Value} {xs : List Int} (h : InnW 0 W x xs) : InnW 0 (setMap W br o) x xs :=
  h.kept (by rw [size_setMap]; exact Nat.le_refl _) (fun j hj => absurd hj (Nat.not_lt_zero _)) (fun g cs hg => heap_setMap_ne _ _ _ (fun e => by rw [e, hm] at hg; cases hg))
theorem innW_grown {W W2 : World} {B n : Nat} {v : Value} {vs : List Value} (ho : W.ownsRow B 99 5 v n vs) (g : W.grownBy W2 v.ownBlock) {x : Value} {xs : List Int} (h : InnW 0 W x xs) : InnW 0 W2 x xs :=
  h.kept g.size (fun j hj => absurd hj (Nat.not_lt_zero _)) (fun q cs hq => g.block q (Array.getElem?_eq_some_iff.1 hq).1 (fun e => by
    obtain ⟨c2, h2⟩ := own_type ho e.symm
    rw [hq] at h2; cases h2))

/-- What a search knows: its row of places, made from block B on, and its map. -/
structure LCI (B : Nat) (W : World) (br : Nat) (vs : Value) (L : List PlC) : Prop where
  ss : OwnC W B vs L
  inn : ∀ q ∈ L, InnW 0 W q.v q.word
  mp : W.heap[br]? = some (.map (entsC L) L.length)
  lr : B ≤ br
section
variable {B : Nat} {W : World} {br : Nat} {vs : Value} {L : List PlC}
theorem LCI.below {W' : World} (h : LCI B W br vs L) (hb : Below W.heap.size W W') : LCI B W' br vs L :=
  ⟨own_same h.ss (fun k hk => hb.block k (World.ownsRow.lt h.ss k hk).2), fun q hq => (h.inn q hq).below hb (Nat.zero_le _), (hb.block br (Array.getElem?_eq_some_iff.1 h.mp).1).trans h.mp, h.lr⟩
theorem LCI.apart (h : LCI B W br vs L) : vs.ownBlock ≠ some br := by
  have hm := h.mp
  exact fun e => (by obtain ⟨cs, hc⟩ := own_type h.ss e; rw [hm] at hc; cases hc)
theorem LCI.mapped (h : LCI B W br vs L) (o : Obj) : OwnC (setMap W br o) B vs L := own_same h.ss (fun j hj => heap_setMap_ne _ _ _ (fun e => h.apart (by rw [hj, e])))
theorem LCI.push {w0 : World} {W2 W3 : World} {vs' : Value} {p : PlC} (h : LCI B W br vs L) (h0 : Below B w0 W) (hW3 : Below (setMap W br (.map (entsC (L ++ [p])) (L.length + 1))).heap.size (setMap W br (.map (entsC (L ++ [p])) (L.length + 1))) W3) (hi : InnW 0 W3 p.v p.word) (o1 : OwnC W2 B vs' (L ++ [p])) (g : W3.grownBy W2 vs.ownBlock) (hBW : B ≤ W.heap.size) :
    LCI B W2 br vs' (L ++ [p]) ∧ Below B w0 W2 := by
  have a1 := h.apart
  have hbr := (Array.getElem?_eq_some_iff.1 h.mp).1
  have hz : W.heap.size ≤ W3.heap.size := by have := hW3.size; rwa [size_setMap] at this
  have k3 : ∀ j, j < W.heap.size → W3.heap[j]? = (setMap W br (.map (entsC (L ++ [p])) (L.length + 1))).heap[j]? := fun j hj => hW3.block j (by rw [size_setMap]; exact hj)
  have k2 : ∀ j, j < W.heap.size → vs.ownBlock ≠ some j → W2.heap[j]? = (setMap W br (.map (entsC (L ++ [p])) (L.length + 1))).heap[j]? := fun j hj hne => (g.block j (Nat.lt_of_lt_of_le hj hz) (fun e => hne e.symm)).trans (k3 j hj)
  have o3 : OwnC W3 B vs L := own_same (h.mapped (.map (entsC (L ++ [p])) (L.length + 1))) (fun j hj => hW3.block j (World.ownsRow.lt (h.mapped _) j hj).2)
  refine ⟨⟨o1, fun q hq => ?_, ?_, h.lr⟩, ?_⟩
  · rcases List.mem_append.1 hq with hq | hq
    · exact innW_grown o3 g ((innW_map h.mp _ (h.inn q hq)).below hW3 (Nat.zero_le _))
    · have : q = p := by simpa using hq
      subst this
      exact innW_grown o3 g hi
  · rw [k2 br hbr a1, heap_setMap _ _ hbr, List.length_append]; rfl
  · have b1 : Below B w0 (setMap W br (.map (entsC (L ++ [p])) (L.length + 1))) :=
      h0.trans ⟨rfl, rfl, rfl, by rw [size_setMap]; exact Nat.le_refl _, fun j hj => heap_setMap_ne _ _ _ (by have := h.lr; omega)⟩
    exact (b1.trans (hW3.mono (by rw [size_setMap]; exact hBW))).grown g (Nat.le_trans hBW hz) (fun j hj => (World.ownsRow.lt h.ss j hj).1)
end
theorem lci_first {B : Nat} {W : World} {br : Nat} {v : Value} {p : PlC} (ho : OwnC W B v [p]) (hi : InnW 0 W p.v p.word) (hm : W.heap[br]? = some (.map #[] 0)) (hb : B ≤ br) : LCI B (setMap W br (.map (entsC [p]) 1)) br v [p] := by
  have hbr := (Array.getElem?_eq_some_iff.1 hm).1
  refine ⟨own_same ho (fun k hk => heap_setMap_ne _ _ _ (fun e => ?_)), fun q hq => ?_, heap_setMap _ _ hbr, hb⟩
  · obtain ⟨cs, hc⟩ := own_type ho hk
    rw [e, hm] at hc; cases hc
  · have : q = p := by simpa using hq
    subst this
    exact innW_map hm _ hi
theorem lci_first2 {B : Nat} {W : World} {br : Nat} {p : PlC} (hi : InnW 0 W p.v p.word) (hm : W.heap[br]? = some (.map (entsC [p]) 1)) (hb : B ≤ br) (hB : B ≤ W.heap.size) : LCI B (W.alloc (.cells (pccells p).toArray 99)) br (.slice (some ⟨W.heap.size, 0, none⟩) 1 1) [p] :=
  ⟨ownC_one W p B hB, fun q hq => (by
    have : q = p := by simpa using hq
    subst this
    exact hi.below ((Below.refl _ _).alloc (Nat.le_refl _) _) (Nat.zero_le _)), (Below.heap_alloc W _ br (Array.getElem?_eq_some_iff.1 hm).1).trans hm, hb⟩
/-- A row that lies elsewhere, appended to, lies elsewhere still. -/
theorem ne_append {v v' : Value} {n hp : Nat} (h : v.ownBlock ≠ some hp) (hl : hp < n) (hn : v'.ownBlock = v.ownBlock ∨ v'.ownBlock = some n) : v'.ownBlock ≠ some hp := by
  rcases hn with e | e
  · rw [e]; exact h
  · rw [e]; intro h'; have := Option.some.inj h'; omega

/-- The places bear the lists of what has been found. -/
def WdC (seen : List Int) (L : List PlC) (l : List (List Int × List Int)) : Prop := ∀ (j : Nat) (p : PlC) (x : List Int × List Int), L[j]? = some p → l[j]? = some x → p.word = wordS seen x.2
theorem WdC.snoc {seen : List Int} {L : List PlC} {l : List (List Int × List Int)} (h : WdC seen L l) (hl : L.length = l.length) {p : PlC} {x : List Int × List Int} (hw : p.word = wordS seen x.2) : WdC seen (L ++ [p]) (l ++ [x]) := by
  intro j q y hq hy
  by_cases hlt : j < L.length
  · rw [List.getElem?_append_left hlt] at hq
    rw [List.getElem?_append_left (by omega)] at hy
    exact h j q y hq hy
  · have hk' := (List.getElem?_eq_some_iff.1 hq).1
    simp at hk'
    have e1 : j = L.length := by omega
    subst e1
    rw [List.getElem?_append_right (Nat.le_refl _)] at hq
    rw [hl, List.getElem?_append_right (Nat.le_refl _)] at hy
    have e2 : p = q := by simpa using hq
    have e3 : x = y := by simpa using hy
    subst e2
    subst e3
    exact hw
theorem WdC.one {seen : List Int} {p : PlC} {x : List Int × List Int} (hw : p.word = wordS seen x.2) : WdC seen [p] [x] := WdC.snoc (L := []) (l := []) (fun j q y h => by simp at h) rfl hw
/-- A row of places that a call hands back: sets and lists of what has been found. -/
structure Pls (W : World) (B : Nat) (v : Value) (seen : List Int) (L : List PlC) (l : List (List Int × List Int)) : Prop where
  ow : OwnC W B v L
  inn : ∀ q ∈ L, InnW 0 W q.v q.word
  rep : RepCL L l
  wd : WdC seen L l
/-- What Estimates and Origins leave, where the plant may be. -/
def PlsPost (w : World) (seen : List Int) (l : List (List Int × List Int)) (e : Ending) (w' : World) : Prop := ∃ (v : Value) (L : List PlC), e = .returned (.tuple #[v, .int .i64 0]) ∧ Pls w' w.heap.size v seen L l ∧ Below w.heap.size w w'
abbrev pcarr (p : PlC) : Array Value := #[.int .u64 (p.s 0), .int .u64 (p.s 1), .int .u64 (p.s 2), .int .u64 (p.s 3), p.v]
abbrev pcval (p : PlC) : Value := .agg (pcarr p)
theorem PCk.cells {W : World} {b : Nat} {p : PlC} (h : Blk W b 99 (pcarr p)) : W.cell? ⟨b, 0, none⟩ = some (.int .u64 (p.s 0)) ∧ W.cell? ⟨b, 1, none⟩ = some (.int .u64 (p.s 1)) ∧ W.cell? ⟨b, 2, none⟩ = some (.int .u64 (p.s 2)) ∧ W.cell? ⟨b, 3, none⟩ = some (.int .u64 (p.s 3)) ∧ W.cell? ⟨b, 4, none⟩ = some p.v :=
  ⟨h.cell 0 rfl, h.cell 1 rfl, h.cell 2 rfl, h.cell 3 rfl, h.cell 4 rfl⟩

end Go.Proofs.YtmimjpkllgjdkaaDoor
namespace Go.Proofs.YtmimjpkllgjdkaaDoor
open Go.RowKit
set_option linter.unusedVariables false

/-- A list of places in memory. -/
def RdC (W : World) (a : Option Addr) (L : List PlC) : Prop := L = [] ∨ ∃ g o, a = some ⟨g, o, none⟩ ∧ g < W.heap.size ∧ ∀ (k : Nat) (q : PlC), L[k]? = some q → ∀ (j : Nat) (u : Value), (pccells q)[j]? = some u → W.cell? ⟨g, o + k * 5 + j, none⟩ = some u
theorem RdC.below {W W' : World} {a : Option Addr} {L : List PlC} (h : RdC W a L) (hb : Below W.heap.size W W') : RdC W' a L := by
  rcases h with h | ⟨g, o, e, hg, hc⟩
  · exact .inl h
  · exact .inr ⟨g, o, e, Nat.lt_of_lt_of_le hg hb.size, fun k q hq j u hu => (hb.cell (p := ⟨g, o + k * 5 + j, none⟩) hg).trans (hc k q hq j u hu)⟩
theorem RdC.take {W : World} {a : Option Addr} {L : List PlC} (h : RdC W a L) (n : Nat) : RdC W a (L.take n) := by
  rcases h with h | ⟨g, o, e, hg, hc⟩
  · exact .inl (by rw [h]; simp)
  · refine .inr ⟨g, o, e, hg, fun k q hq => hc k q ?_⟩
    have hk := (List.getElem?_eq_some_iff.1 hq).1
    rw [List.length_take] at hk
    rwa [List.getElem?_take_of_lt (by omega)] at hq
theorem OwnC.rd {W : World} {B : Nat} {v : Value} {L : List PlC} (h : OwnC W B v L) : ∃ a c, v = .slice a L.length c ∧ RdC W a L ∧ L.length ≤ maxLen ∧ (L.length ≤ c) := by
  rcases h.2 with ⟨rfl, hn⟩ | ⟨g, cap, cur, rfl, hg, hh, hnc, hcm, hcs, ht⟩
  · have : L = [] := List.eq_nil_of_length_eq_zero hn
    subst this
    exact ⟨none, 0, rfl, .inl rfl, Nat.zero_le _, Nat.le_refl _⟩
  · refine ⟨_, cap, rfl, .inr ⟨g, 0, rfl, (Array.getElem?_eq_some_iff.1 hh).1, fun k q hq j u hu => ?_⟩, Nat.le_trans hnc hcm, hnc⟩
    obtain ⟨g', cap', e, -, -, hc⟩ := h.cell hq
    cases e
    rw [Nat.zero_add]
    exact hc j u hu
/-- None of the first k is meant. -/
def noneP (f : PlC → Bool) (L : List PlC) (k : Nat) : Prop := ∀ (i : Nat) (z : PlC), i < k → L[i]? = some z → f z = false
theorem noneP_zero (f : PlC → Bool) (L : List PlC) : noneP f L 0 := fun i z h => absurd h (Nat.not_lt_zero _)
theorem noneP_succ {f : PlC → Bool} {L : List PlC} {k : Nat} {q : PlC} (h : noneP f L k) (hq : L[k]? = some q) (hf : f q = false) : noneP f L (k + 1) := fun i z hi hz => by
  by_cases e : i = k
  · subst e
    rw [hq] at hz
    have := Option.some.inj hz
    subst this; exact hf
  · exact h i z (by omega) hz
theorem noneP_all {f : PlC → Bool} {L : List PlC} {k : Nat} (h : noneP f L k) (hk : L.length ≤ k) : ∀ q ∈ L, f q = false := fun q hq => by
  obtain ⟨i, hi⟩ := List.mem_iff_getElem?.1 hq
  exact h i q (by have := (List.getElem?_eq_some_iff.1 hi).1; omega) hi
/-- What IndexFunc answers. -/
def IdxR (f : PlC → Bool) (L : List PlC) (r : Int) : Prop := (r = -1 ∧ ∀ q ∈ L, f q = false) ∨ ∃ (j : Nat) (q : PlC), r = (j : Int) ∧ L[j]? = some q ∧ f q = true ∧ noneP f L j
theorem rdc_cells {W : World} {g o : Nat} {q : PlC} {k : Nat} (h : ∀ (j : Nat) (u : Value), (pccells q)[j]? = some u → W.cell? ⟨g, o + k * 5 + j, none⟩ = some u) : W.cell? ⟨g, o + k * 5, none⟩ = some (.int .u64 (q.s 0)) ∧ W.cell? ⟨g, o + k * 5 + 1, none⟩ = some (.int .u64 (q.s 1)) ∧ W.cell? ⟨g, o + k * 5 + 2, none⟩ = some (.int .u64 (q.s 2)) ∧ W.cell? ⟨g, o + k * 5 + 3, none⟩ = some (.int .u64 (q.s 3)) ∧ W.cell? ⟨g, o + k * 5 + 4, none⟩ = some q.v :=
  ⟨h 0 _ rfl, h 1 _ rfl, h 2 _ rfl, h 3 _ rfl, h 4 _ rfl⟩

end Go.Proofs.YtmimjpkllgjdkaaDoor
