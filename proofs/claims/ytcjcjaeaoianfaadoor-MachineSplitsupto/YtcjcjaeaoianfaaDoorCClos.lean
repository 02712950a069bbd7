/-
  Plain mathematics of what can be come to along arrows: rounds over all arrows, till nothing comes more. No program, no model.
-/
import Derived.Test.YtcjcjaeaoianfaaDoorCMach
namespace Go.Proofs.YtcjcjaeaoianfaaDoor
open Go.RowKit
set_option linter.unusedVariables false

/-- One arrow gone along: what it leads to, if it leads from what is there and is not there yet. -/
def along (fr to : Arr → Int) (l : List Int) (a : Arr) : List Int := if (hasB l (fr a) && !hasB l (to a)) = true then l ++ [to a] else l
/-- One round over the arrows. -/
def sweep (fr to : Arr → Int) (ars : List Arr) (l : List Int) : List Int := ars.foldl (along fr to) l
/-- At most k rounds, till nothing comes more. -/
def closeN (fr to : Arr → Int) (ars : List Arr) : Nat → List Int → List Int
  | 0, l => l
  | k + 1, l => if (sweep fr to ars l).length = l.length then sweep fr to ars l else closeN fr to ars k (sweep fr to ars l)

/-- What can be come to. -/
structure Come (fr to : Arr → Int) (ars : List Arr) (l0 : List Int) (P : Int → Prop) : Prop where
  start : ∀ x ∈ l0, P x
  step : ∀ a ∈ ars, P (fr a) → P (to a)
/-- .. from l0: in whatever holds l0 and is closed. -/
def Rch (fr to : Arr → Int) (ars : List Arr) (l0 : List Int) (x : Int) : Prop := ∀ P : Int → Prop, Come fr to ars l0 P → P x

theorem rch_start {fr to : Arr → Int} {ars : List Arr} {l0 : List Int} {x : Int} (h : x ∈ l0) : Rch fr to ars l0 x := fun _ hP => hP.start x h
theorem rch_step {fr to : Arr → Int} {ars : List Arr} {l0 : List Int} {a : Arr} (ha : a ∈ ars) (h : Rch fr to ars l0 (fr a)) : Rch fr to ars l0 (to a) := fun P hP => hP.step a ha (h P hP)

theorem hasB_iff (l : List Int) (x : Int) : hasB l x = true ↔ x ∈ l := by simp [hasB]
theorem along_sub {fr to : Arr → Int} {l : List Int} {a : Arr} : ∀ x ∈ l, x ∈ along fr to l a := fun x hx => by
  unfold along; split
  · exact List.mem_append_left _ hx
  · exact hx
theorem along_len {fr to : Arr → Int} (l : List Int) (a : Arr) : l.length ≤ (along fr to l a).length ∧ (along fr to l a).length ≤ l.length + 1 := by
  unfold along; split
  · simp
  · simp
theorem sweep_sub {fr to : Arr → Int} : ∀ {ars : List Arr} {l : List Int}, ∀ x ∈ l, x ∈ sweep fr to ars l
  | [], _, _, h => h
  | a :: r, l, x, h => sweep_sub (ars := r) (l := along fr to l a) x (along_sub x h)
theorem sweep_le {fr to : Arr → Int} : ∀ (ars : List Arr) (l : List Int), l.length ≤ (sweep fr to ars l).length
  | [], _ => Nat.le_refl _
  | a :: r, l => Nat.le_trans (along_len l a).1 (sweep_le r _)
theorem sweep_le2 {fr to : Arr → Int} : ∀ (ars : List Arr) (l : List Int), (sweep fr to ars l).length ≤ l.length + ars.length
  | [], _ => Nat.le_refl _
  | a :: r, l => by
    have h1 := (along_len (fr := fr) (to := to) l a).2
    have h2 := sweep_le2 (fr := fr) (to := to) r (along fr to l a)
    show (sweep fr to r (along fr to l a)).length ≤ _
    simp only [List.length_cons]; omega
/-- If no round brings more, nothing can be gone along. -/
theorem sweep_closed {fr to : Arr → Int} : ∀ {ars : List Arr} {l : List Int}, (sweep fr to ars l).length = l.length → sweep fr to ars l = l ∧ ∀ a ∈ ars, fr a ∈ l → to a ∈ l
  | [], l, _ => ⟨rfl, by simp⟩
  | a :: r, l, h => by
    have h1 := (along_len (fr := fr) (to := to) l a).1
    have h2 := sweep_le (fr := fr) (to := to) r (along fr to l a)
    have h3 : (sweep fr to r (along fr to l a)).length = l.length := h
    have e : (along fr to l a).length = l.length := by omega
    have hn : ¬ (hasB l (fr a) && !hasB l (to a)) = true := fun hc => by
      unfold along at e; rw [if_pos hc] at e; simp at e
    have ea : along fr to l a = l := by unfold along; rw [if_neg hn]
    rw [ea] at h3
    obtain ⟨k1, k2⟩ := sweep_closed (ars := r) (l := l) h3
    refine ⟨by show sweep fr to r (along fr to l a) = l; rw [ea]; exact k1, fun b hb => ?_⟩
    rcases List.mem_cons.1 hb with rfl | hb
    · intro hf
      apply Classical.byContradiction
      intro ht
      apply hn
      rw [Bool.and_eq_true, hasB_iff]
      refine ⟨hf, ?_⟩
      cases h4 : hasB l (to b) with
      | false => rfl
      | true => exact absurd ((hasB_iff _ _).1 h4) ht
    · exact k2 b hb

theorem along_nodup {fr to : Arr → Int} {l : List Int} (h : l.Nodup) (a : Arr) : (along fr to l a).Nodup := by
  unfold along
  split
  · rename_i hc
    rw [Bool.and_eq_true] at hc
    have : to a ∉ l := fun hm => by have h1 := (hasB_iff l (to a)).2 hm; rw [h1] at hc; exact absurd hc.2 (by simp)
    rw [List.nodup_append]
    exact ⟨h, by simp, fun x hx y hy => by rw [List.mem_singleton.1 hy]; rintro rfl; exact this hx⟩
  · exact h
theorem sweep_nodup {fr to : Arr → Int} : ∀ {ars : List Arr} {l : List Int}, l.Nodup → (sweep fr to ars l).Nodup
  | [], _, h => h
  | a :: r, l, h => sweep_nodup (ars := r) (along_nodup h a)
theorem along_in {fr to : Arr → Int} {P : Int → Prop} {l : List Int} {a : Arr} (hl : ∀ x ∈ l, P x) (ha : P (fr a) → P (to a)) : ∀ x ∈ along fr to l a, P x := by
  unfold along
  split
  · rename_i hc
    rw [Bool.and_eq_true, hasB_iff] at hc
    intro x hx
    rcases List.mem_append.1 hx with hx | hx
    · exact hl x hx
    · rw [List.mem_singleton.1 hx]; exact ha (hl _ hc.1)
  · exact hl
theorem sweep_in {fr to : Arr → Int} {P : Int → Prop} : ∀ {ars : List Arr} {l : List Int}, (∀ x ∈ l, P x) → (∀ a ∈ ars, P (fr a) → P (to a)) → ∀ x ∈ sweep fr to ars l, P x
  | [], _, hl, _ => hl
  | a :: r, l, hl, ha => sweep_in (ars := r) (along_in hl (ha a (by simp))) (fun b hb => ha b (by simp [hb]))
theorem closeN_in {fr to : Arr → Int} {P : Int → Prop} {ars : List Arr} (ha : ∀ a ∈ ars, P (fr a) → P (to a)) : ∀ (k : Nat) {l : List Int}, (∀ x ∈ l, P x) → ∀ x ∈ closeN fr to ars k l, P x
  | 0, _, hl => hl
  | k + 1, l, hl => by
    unfold closeN
    split
    · exact sweep_in hl ha
    · exact closeN_in ha k (sweep_in hl ha)
theorem closeN_sub {fr to : Arr → Int} {ars : List Arr} : ∀ (k : Nat) {l : List Int}, ∀ x ∈ l, x ∈ closeN fr to ars k l
  | 0, _, _, h => h
  | k + 1, l, x, h => by
    unfold closeN
    split
    · exact sweep_sub x h
    · exact closeN_sub k x (sweep_sub x h)
theorem nodup_len : ∀ (n : Nat) (l : List Int), l.Nodup → (∀ x ∈ l, 0 ≤ x ∧ x < n) → l.length ≤ n := by
  intro n l hn hb
  have hs : srt l = (srt l) := rfl
  have hi := inc_srt l
  have hm : ∀ x ∈ srt l, 0 ≤ x ∧ x < n := fun x hx => hb x ((mem_srt x l).1 hx)
  have hlen : (srt l).length ≤ n := by
    have := goIs_len (n : Int) (srt l) (-1) (by omega) ((goIs_iff _ _ _).2 ⟨hi, fun x hx => by have := hm x hx; omega⟩)
    omega
  have hp : l.Perm (srt l) := (List.perm_ext_iff_of_nodup hn (hi.imp (fun h => by omega))).2 (fun x => (mem_srt x l).symm)
  rw [hp.length_eq]; exact hlen
/-- Enough rounds: what comes is closed. -/
theorem closeN_closed {fr to : Arr → Int} {ars : List Arr} {n : Nat} (hb : ∀ a ∈ ars, 0 ≤ to a ∧ to a < n) : ∀ (k : Nat) {l : List Int}, l.Nodup → (∀ x ∈ l, 0 ≤ x ∧ x < n) → (l = [] ∨ n < l.length + k) →
    ∀ a ∈ ars, fr a ∈ closeN fr to ars k l → to a ∈ closeN fr to ars k l
  | 0, l, hn, hl, hk => by
    intro a ha hf
    rcases hk with rfl | hk
    · simp [closeN] at hf
    · have := nodup_len n l hn hl; omega
  | k + 1, l, hn, hl, hk => by
    unfold closeN
    split
    · rename_i he
      obtain ⟨k1, k2⟩ := sweep_closed he
      rw [k1]; exact k2
    · rename_i he
      refine closeN_closed hb k (sweep_nodup hn) (sweep_in hl (fun a ha _ => hb a ha)) (.inr ?_)
      have h1 := sweep_le (fr := fr) (to := to) ars l
      rcases hk with rfl | hk
      · exfalso
        apply he
        have : ∀ (r : List Arr), sweep fr to r [] = [] := fun r => by
          induction r with
          | nil => rfl
          | cons a r ih => show sweep fr to r (along fr to [] a) = []; rw [show along fr to [] a = [] by simp [along, hasB]]; exact ih
        rw [this]
      · omega
theorem mem_close {fr to : Arr → Int} {ars : List Arr} {n : Nat} {l : List Int} (hb : ∀ a ∈ ars, 0 ≤ to a ∧ to a < n) (hn : l.Nodup) (hl : ∀ x ∈ l, 0 ≤ x ∧ x < n) (x : Int) : x ∈ closeN fr to ars n l ↔ Rch fr to ars l x := by
  constructor
  · exact fun h => closeN_in (fun a ha h => rch_step ha h) n (fun y hy => rch_start hy) x h
  · intro h
    refine h (fun y => y ∈ closeN fr to ars n l) ⟨fun y hy => closeN_sub n y hy, closeN_closed hb n hn hl ?_⟩
    cases l with
    | nil => exact .inl rfl
    | cons y r => right; simp only [List.length_cons]; omega

/-- Reach and Live, as the references answer them. -/
def reachL (m : Mach) : List Int := srt (closeN (·.f) (·.t) m.arrows m.st.toNat m.starts)
def liveL (m : Mach) : List Int := srt (closeN (·.t) (·.f) m.arrows m.st.toNat m.ends)

theorem inc_nodup {l : List Int} (h : Inc l) : l.Nodup := h.imp (fun h => by omega)

theorem sweep_take {fr to : Arr → Int} {ars : List Arr} {k : Nat} {a : Arr} {l : List Int} (h : k < ars.length) (ha : Hid (a = ars[k]?.getD arr0)) : sweep fr to (ars.take (k + 1)) l = along fr to (sweep fr to (ars.take k) l) a := by
  have ha := ha.out
  rw [List.getElem?_eq_getElem h, Option.getD_some] at ha
  unfold sweep
  rw [List.take_add_one, List.getElem?_eq_getElem h, List.foldl_append, ← ha]; rfl
theorem closeN_len {fr to : Arr → Int} {ars : List Arr} {c : Nat} (hc : ars.length ≤ c) : ∀ (k : Nat) (l : List Int), (closeN fr to ars k l).length ≤ l.length + k * c
  | 0, l => by simp [closeN]
  | k + 1, l => by
    unfold closeN
    have h1 := sweep_le2 (fr := fr) (to := to) ars l
    have h2 : (k + 1) * c = k * c + c := Nat.succ_mul k c
    split
    · omega
    · have := closeN_len (fr := fr) (to := to) hc k (sweep fr to ars l); omega

end Go.Proofs.YtcjcjaeaoianfaaDoor
