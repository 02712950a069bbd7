/-
  Plain mathematics of what can be come to along arrows: rounds over all arrows, till nothing comes more. No program, no model.
  Plain mathematics of places in a list. No program, no model.
  '==' and '!=' on two arrows, as the model runs them.
  Plain: arrows put in order one after the other.
  Plain mathematics of a machine trimmed: the states that are in both, numbered anew; it accepts the same words. No program, no model.
-/
import Derived.Test.YtcjcjaeaoianfaaDoorG03
import Derived.Laws.StructEq
import Derived.Test.YtcjcjaeaoianfaaDoorG04
namespace Go.Proofs.YtcjcjaeaoianfaaDoor
open Go.RowKit
set_option linter.unusedVariables false

/-- One arrow gone along: what it leads to, if it leads from what is there and is not there yet. -/
def along (fr to : Arr → Int) (l : List Int) (a : Arr) : List Int := if (hasB l (fr a) && !hasB l (to a)) = true then l ++ [to a] else l
/-- One round over the arrows. -/
def sweep (fr to : Arr → Int) (ars : List Arr) (l : List Int) : List Int := ars.foldl (along fr to) l
/-- At most k rounds, till nothing comes more. -/
def closeN (fr to : Arr → Int) (ars : List Arr) : Nat → List Int → List Int
  | 0, l => l
  | k + 1, l => if (sweep fr to ars l).length = l.length then sweep fr to ars l else closeN fr to ars k (sweep fr to ars l)

/-- What can be come to. -/
structure Come (fr to : Arr → Int) (ars : List Arr) (l0 : List Int) (P : Int → Prop) : Prop where
  start : ∀ x ∈ l0, P x
  step : ∀ a ∈ ars, P (fr a) → P (to a)
/-- .. from l0: in whatever holds l0 and is closed. -/
def Rch (fr to : Arr → Int) (ars : List Arr) (l0 : List Int) (x : Int) : Prop := ∀ P : Int → Prop, Come fr to ars l0 P → P x

theorem rch_start {fr to : Arr → Int} {ars : List Arr} {l0 : List Int} {x : Int} (h : x ∈ l0) : Rch fr to ars l0 x := fun _ hP => hP.start x h
theorem rch_step {fr to : Arr → Int} {ars : List Arr} {l0 : List Int} {a : Arr} (ha : a ∈ ars) (h : Rch fr to ars l0 (fr a)) : Rch fr to ars l0 (to a) := fun P hP => hP.step a ha (h P hP)

theorem hasB_iff (l : List Int) (x : Int) : hasB l x = true ↔ x ∈ l := by simp [hasB]
theorem along_sub {fr to : Arr → Int} {l : List Int} {a : Arr} : ∀ x ∈ l, x ∈ along fr to l a := fun x hx => by
  unfold along; split
  · exact List.mem_append_left _ hx
  · exact hx
theorem along_len {fr to : Arr → Int} (l : List Int) (a : Arr) : l.length ≤ (along fr to l a).length ∧ (along fr to l a).length ≤ l.length + 1 := by
  unfold along; split
  · simp
  · simp
theorem sweep_sub {fr to : Arr → Int} : ∀ {ars : List Arr} {l : List Int}, ∀ x ∈ l, x ∈ sweep fr to ars l
  | [], _, _, h => h
  | a :: r, l, x, h => sweep_sub (ars := r) (l := along fr to l a) x (along_sub x h)
theorem sweep_le {fr to : Arr → Int} : ∀ (ars : List Arr) (l : List Int), l.length ≤ (sweep fr to ars l).length
  | [], _ => Nat.le_refl _
  | a :: r, l => Nat.le_trans (along_len l a).1 (sweep_le r _)
theorem sweep_le2 {fr to : Arr → Int} : ∀ (ars : List Arr) (l : List Int), (sweep fr to ars l).length ≤ l.length + ars.length
  | [], _ => Nat.le_refl _
  | a :: r, l => by
    have h1 := (along_len (fr := fr) (to := to) l a).2
    have h2 := sweep_le2 (fr := fr) (to := to) r (along fr to l a)
    show (sweep fr to r (along fr to l a)).length ≤ _
    simp only [List.length_cons]; omega
/-- If no round brings more, nothing can be gone along. -/
theorem sweep_closed {fr to : Arr → Int} : ∀ {ars : List Arr} {l : List Int}, (sweep fr to ars l).length = l.length → sweep fr to ars l = l ∧ ∀ a ∈ ars, fr a ∈ l → to a ∈ l
  | [], l, _ => ⟨rfl, by simp⟩
  | a :: r, l, h => by
    have h1 := (along_len (fr := fr) (to := to) l a).1
    have h2 := sweep_le (fr := fr) (to := to) r (along fr to l a)
    have h3 : (sweep fr to r (along fr to l a)).length = l.length := h
    have e : (along fr to l a).length = l.length := by omega
    have hn : ¬ (hasB l (fr a) && !hasB l (to a)) = true := fun hc => by
      unfold along at e; rw [if_pos hc] at e; simp at e
    have ea : along fr to l a = l := by unfold along; rw [if_neg hn]
    rw [ea] at h3
    obtain ⟨k1, k2⟩ := sweep_closed (ars := r) (l := l) h3
    refine ⟨by show sweep fr to r (along fr to l a) = l; rw [ea]; exact k1, fun b hb => ?_⟩
    rcases List.mem_cons.1 hb with rfl | hb
    · intro hf
      apply Classical.byContradiction
      intro ht
      apply hn
      rw [Bool.and_eq_true, hasB_iff]
      refine ⟨hf, ?_⟩
      cases h4 : hasB l (to b) with
      | false => rfl
      | true => exact absurd ((hasB_iff _ _).1 h4) ht
    · exact k2 b hb

theorem along_nodup {fr to : Arr → Int} {l : List Int} (h : l.Nodup) (a : Arr) : (along fr to l a).Nodup := by
  unfold along
  split
  · rename_i hc
    rw [Bool.and_eq_true] at hc
    have : to a ∉ l := fun hm => by have h1 := (hasB_iff l (to a)).2 hm; rw [h1] at hc; exact absurd hc.2 (by simp)
    rw [List.nodup_append]
    exact ⟨h, by simp, fun x hx y hy => by rw [List.mem_singleton.1 hy]; rintro rfl; exact this hx⟩
  · exact h
theorem sweep_nodup {fr to : Arr → Int} : ∀ {ars : List Arr} {l : List Int}, l.Nodup → (sweep fr to ars l).Nodup
  | [], _, h => h
  | a :: r, l, h => sweep_nodup (ars := r) (along_nodup h a)
theorem along_in {fr to : Arr → Int} {P : Int → Prop} {l : List Int} {a : Arr} (hl : ∀ x ∈ l, P x) (ha : P (fr a) → P (to a)) : ∀ x ∈ along fr to l a, P x := by
  unfold along
  split
  · rename_i hc
    rw [Bool.and_eq_true, hasB_iff] at hc
    intro x hx
    rcases List.mem_append.1 hx with hx | hx
    · exact hl x hx
    · rw [List.mem_singleton.1 hx]; exact ha (hl _ hc.1)
  · exact hl
theorem sweep_in {fr to : Arr → Int} {P : Int → Prop} : ∀ {ars : List Arr} {l : List Int}, (∀ x ∈ l, P x) → (∀ a ∈ ars, P (fr a) → P (to a)) → ∀ x ∈ sweep fr to ars l, P x
  | [], _, hl, _ => hl
  | a :: r, l, hl, ha => sweep_in (ars := r) (along_in hl (ha a (by simp))) (fun b hb => ha b (by simp [hb]))
theorem closeN_in {fr to : Arr → Int} {P : Int → Prop} {ars : List Arr} (ha : ∀ a ∈ ars, P (fr a) → P (to a)) : ∀ (k : Nat) {l : List Int}, (∀ x ∈ l, P x) → ∀ x ∈ closeN fr to ars k l, P x
  | 0, _, hl => hl
  | k + 1, l, hl => by
    unfold closeN
    split
    · exact sweep_in hl ha
    · exact closeN_in ha k (sweep_in hl ha)
theorem closeN_sub {fr to : Arr → Int} {ars : List Arr} : ∀ (k : Nat) {l : List Int}, ∀ x ∈ l, x ∈ closeN fr to ars k l
  | 0, _, _, h => h
  | k + 1, l, x, h => by
    unfold closeN
    split
    · exact sweep_sub x h
    · exact closeN_sub k x (sweep_sub x h)
theorem nodup_len : ∀ (n : Nat) (l : List Int), l.Nodup → (∀ x ∈ l, 0 ≤ x ∧ x < n) → l.length ≤ n := by
  intro n l hn hb
  have hs : srt l = (srt l) := rfl
  have hi := inc_srt l
  have hm : ∀ x ∈ srt l, 0 ≤ x ∧ x < n := fun x hx => hb x ((mem_srt x l).1 hx)
  have hlen : (srt l).length ≤ n := by
    have := goIs_len (n : Int) (srt l) (-1) (by omega) ((goIs_iff _ _ _).2 ⟨hi, fun x hx => by have := hm x hx; omega⟩)
    omega
  have hp : l.Perm (srt l) := (List.perm_ext_iff_of_nodup hn (hi.imp (fun h => by omega))).2 (fun x => (mem_srt x l).symm)
  rw [hp.length_eq]; exact hlen
/-- Enough rounds: what comes is closed. -/
theorem closeN_closed {fr to : Arr → Int} {ars : List Arr} {n : Nat} (hb : ∀ a ∈ ars, 0 ≤ to a ∧ to a < n) : ∀ (k : Nat) {l : List Int}, l.Nodup → (∀ x ∈ l, 0 ≤ x ∧ x < n) → (l = [] ∨ n < l.length + k) →
    ∀ a ∈ ars, fr a ∈ closeN fr to ars k l → to a ∈ closeN fr to ars k l
  | 0, l, hn, hl, hk => by
    intro a ha hf
    rcases hk with rfl | hk
    · simp [closeN] at hf
    · have := nodup_len n l hn hl; omega
  | k + 1, l, hn, hl, hk => by
    unfold closeN
    split
    · rename_i he
      obtain ⟨k1, k2⟩ := sweep_closed he
      rw [k1]; exact k2
    · rename_i he
      refine closeN_closed hb k (sweep_nodup hn) (sweep_in hl (fun a ha _ => hb a ha)) (.inr ?_)
      have h1 := sweep_le (fr := fr) (to := to) ars l
      rcases hk with rfl | hk
      · exfalso
        apply he
        have : ∀ (r : List Arr), sweep fr to r [] = [] := fun r => by
          induction r with
          | nil => rfl
          | cons a r ih => show sweep fr to r (along fr to [] a) = []; rw [show along fr to [] a = [] by simp [along, hasB]]; exact ih
        rw [this]
      · omega
theorem mem_close {fr to : Arr → Int} {ars : List Arr} {n : Nat} {l : List Int} (hb : ∀ a ∈ ars, 0 ≤ to a ∧ to a < n) (hn : l.Nodup) (hl : ∀ x ∈ l, 0 ≤ x ∧ x < n) (x : Int) : x ∈ closeN fr to ars n l ↔ Rch fr to ars l x := by
  constructor
  · exact fun h => closeN_in (fun a ha h => rch_step ha h) n (fun y hy => rch_start hy) x h
  · intro h
    refine h (fun y => y ∈ closeN fr to ars n l) ⟨fun y hy => closeN_sub n y hy, closeN_closed hb n hn hl ?_⟩
    cases l with
    | nil => exact .inl rfl
    | cons y r => right; simp only [List.length_cons]; omega

/-- Reach and Live, as the references answer them. -/
def reachL (m : Mach) : List Int := srt (closeN (·.f) (·.t) m.arrows m.st.toNat m.starts)
def liveL (m : Mach) : List Int := srt (closeN (·.t) (·.f) m.arrows m.st.toNat m.ends)

theorem inc_nodup {l : List Int} (h : Inc l) : l.Nodup := h.imp (fun h => by omega)

theorem sweep_take {fr to : Arr → Int} {ars : List Arr} {k : Nat} {a : Arr} {l : List Int} (h : k < ars.length) (ha : Hid (a = ars[k]?.getD arr0)) : sweep fr to (ars.take (k + 1)) l = along fr to (sweep fr to (ars.take k) l) a := by
  have ha := ha.out
  rw [List.getElem?_eq_getElem h, Option.getD_some] at ha
  unfold sweep
  rw [List.take_add_one, List.getElem?_eq_getElem h, List.foldl_append, ← ha]; rfl
theorem closeN_len {fr to : Arr → Int} {ars : List Arr} {c : Nat} (hc : ars.length ≤ c) : ∀ (k : Nat) (l : List Int), (closeN fr to ars k l).length ≤ l.length + k * c
  | 0, l => by simp [closeN]
  | k + 1, l => by
    unfold closeN
    have h1 := sweep_le2 (fr := fr) (to := to) ars l
    have h2 : (k + 1) * c = k * c + c := Nat.succ_mul k c
    split
    · omega
    · have := closeN_len (fr := fr) (to := to) hc k (sweep fr to ars l); omega

end Go.Proofs.YtcjcjaeaoianfaaDoor
namespace Go.Proofs.YtcjcjaeaoianfaaDoor
open Go.RowKit
set_option linter.unusedVariables false

/-- A number's place in a list. -/
def placeN : List Int → Int → Option Nat
  | [], _ => none
  | x :: r, n => if x = n then some 0 else (placeN r n).map (· + 1)
def placeF (k : Nat) (l : List Int) (n : Int) : Int := match placeN l n with
  | some j => ((k + j : Nat) : Int)
  | none => -1
/-- .. or -1. -/
def placeI (l : List Int) (n : Int) : Int := placeF 0 l n

theorem place_hit {xs : List Int} {k : Nat} {n x : Int} (h : k < xs.length) (hx : Hid (x = xs[k]?.getD 0)) (e : Hid (placeI xs n = placeF k (xs.drop k) n)) (hn : x = n) : (k : Int) = placeI xs n := by
  rw [e.out, drop_cons h, ← hx.out, placeF, placeN, if_pos hn]; simp
theorem place_miss {xs : List Int} {k : Nat} {n x : Int} (h : k < xs.length) (hx : Hid (x = xs[k]?.getD 0)) (e : Hid (placeI xs n = placeF k (xs.drop k) n)) (hn : ¬ x = n) : Hid (placeI xs n = placeF (k + 1) (xs.drop (k + 1)) n) := by
  show _ = _
  rw [e.out, drop_cons h, ← hx.out, placeF, placeN, if_neg hn, placeF]
  cases placeN (xs.drop (k + 1)) n with
  | none => rfl
  | some j => simp only [Option.map_some]; omega
theorem place_end {xs : List Int} {k : Nat} {n : Int} (h : ¬ k < xs.length) (e : Hid (placeI xs n = placeF k (xs.drop k) n)) : (-1 : Int) = placeI xs n := by
  rw [e.out, List.drop_eq_nil_of_le (by omega)]; rfl
theorem placeF_lt : ∀ (l : List Int) (n : Int) (j : Nat), placeN l n = some j → j < l.length
  | [], _, _, h => by simp [placeN] at h
  | x :: r, n, j, h => by
    unfold placeN at h
    by_cases hx : x = n
    · rw [if_pos hx] at h; cases h; simp
    · rw [if_neg hx] at h
      cases hp : placeN r n with
      | none => rw [hp] at h; cases h
      | some i => rw [hp] at h; cases h; have := placeF_lt r n i hp; simp only [List.length_cons]; omega
theorem placeI_bd (l : List Int) (n : Int) : -1 ≤ placeI l n ∧ placeI l n < l.length + 1 := by
  unfold placeI placeF
  cases h : placeN l n with
  | none => simp; omega
  | some j => have := placeF_lt l n j h; simp; omega

/-- The places of those numbers that are there. -/
def placesL (l ss : List Int) : List Int := (ss.map (placeI l)).filter fun k => decide (0 ≤ k)
theorem placesL_take {l ss : List Int} {k : Nat} {x : Int} (h : k < ss.length) (hx : Hid (x = ss[k]?.getD 0)) : placesL l (ss.take (k + 1)) = if 0 ≤ placeI l x then placesL l (ss.take k) ++ [placeI l x] else placesL l (ss.take k) := by
  have hx := hx.out
  rw [List.getElem?_eq_getElem h, Option.getD_some] at hx
  unfold placesL
  rw [List.take_add_one, List.getElem?_eq_getElem h, List.map_append, List.filter_append, ← hx]
  by_cases c : 0 ≤ placeI l x
  · rw [if_pos c]; simp [c]
  · rw [if_neg c]; simp [c]
theorem placesL_len (l ss : List Int) : (placesL l ss).length ≤ ss.length := by
  unfold placesL; exact Nat.le_trans (List.length_filter_le _ _) (by simp)

end Go.Proofs.YtcjcjaeaoianfaaDoor
namespace Go.Proofs.YtcjcjaeaoianfaaDoor
open Go.RowKit
set_option linter.unusedVariables false

abbrev arrEq (a b : Arr) : Prop := a.f = b.f ∧ a.e = b.e ∧ a.t = b.t
def arrEqB (a b : Arr) : Bool := decide (arrEq a b)

abbrev aval (a : Arr) : Value := .agg #[.int .i64 a.f, .int .i64 a.e, .int .i64 a.t]

theorem Tryd.fieldsArrow : Tryd.prog.underlying 51 = some (.struct (Tryd.prog.fieldsOf 51)) := by unfold Program.fieldsOf; rw [Tryd.underlying51]
theorem Tryd.stoodArrow : Tryd.prog.stoodInHeld 51 = false := by kernel_rfl
theorem Tryd.guardArrow : Tryd.prog.eqGuardType Tryd.prog.depth 51 = false := by kernel_rfl

theorem run_equalIn_arrow (a b : Arr) (w : World) : (Op.equalIn 10000 51 (aval a) (aval b)).run Tryd.prog w = .ok (arrEqB a b) w := by
  rw [run_equalIn_agg w 9999 51 _ _ Tryd.fieldsArrow Tryd.stoodArrow]
  have hf : (Tryd.prog.fieldsOf 51).toList = [{ name := "From", type := 3, offset := 0, embedded := false, tag := "", pkgPath := "", byteOffset := 0 }, { name := "Event", type := 3, offset := 1, embedded := false, tag := "", pkgPath := "", byteOffset := 8 }, { name := "To", type := 3, offset := 2, embedded := false, tag := "", pkgPath := "", byteOffset := 16 }] := by unfold Program.fieldsOf; rw [Tryd.underlying51]
  rw [hf]
  obtain ⟨a1, a2, a3⟩ := a
  obtain ⟨b1, b2, b3⟩ := b
  by_cases h1 : a1 = b1 <;> by_cases h2 : a2 = b2 <;> by_cases h3 : a3 = b3 <;> simp [Op.eqFields, go_sem, arrEqB, arrEq, h1, h2, h3]

theorem run_guard_arrow (op : BinOp) (x y : Operand) (xs ys : Array Value) (w : World) : (eqGuard op 51 x y (.agg xs) (.agg ys)).run Tryd.prog w = .ok () w := run_eqGuard_agg w op 51 x y xs ys Tryd.guardArrow

/-- Are two lists of arrows one? -/
def sameA : List Arr → List Arr → Bool
  | [], [] => true
  | a :: r, b :: s => if arrEq a b then sameA r s else false
  | _, _ => false

end Go.Proofs.YtcjcjaeaoianfaaDoor
namespace Go.Proofs.YtcjcjaeaoianfaaDoor
open Go.RowKit

def insA (x : Arr) : List Arr → List Arr
  | [] => [x]
  | y :: r => if aheadB y x = true then y :: insA x r else if arrEq y x then y :: r else x :: y :: r
def srtA (l : List Arr) : List Arr := l.foldl (fun out x => insA x out) []

theorem getA_succ (y : Arr) (r : List Arr) (j : Nat) : (y :: r)[j + 1]?.getD arr0 = r[j]?.getD arr0 := by simp

theorem insA_put {x : Arr} : ∀ {L : List Arr} {p : Nat}, p ≤ L.length → (∀ j, j < p → aheadB (L[j]?.getD arr0) x = true) → (p = L.length ∨ (aheadB (L[p]?.getD arr0) x = false ∧ ¬ arrEq (L[p]?.getD arr0) x)) → insA x L = L.take p ++ x :: L.drop p
  | [], p, hp, _, _ => by
    have : p = 0 := by simpa using hp
    subst this; simp [insA]
  | y :: r, 0, _, _, h => by
    rcases h with h | ⟨h, h'⟩
    · simp at h
    · have h : aheadB y x = false := by simpa using h
      have h' : ¬ arrEq y x := by simpa using h'
      simp only [insA, List.take_zero, List.drop_zero, List.nil_append]
      rw [if_neg (by rw [h]; simp), if_neg h']
  | y :: r, p + 1, hp, hl, h => by
    have h0 : aheadB y x = true := by simpa using hl 0 (by omega)
    have := insA_put (x := x) (L := r) (p := p) (by simpa using hp) (fun j hj => by have := hl (j + 1) (by omega); rwa [getA_succ] at this) (by
      rcases h with h | h
      · left; simpa using h
      · right; rwa [getA_succ] at h)
    simp only [insA]
    rw [if_pos h0, this]
    simp
theorem insA_same {x : Arr} : ∀ {L : List Arr} {p : Nat}, p < L.length → (∀ j, j < p → aheadB (L[j]?.getD arr0) x = true) → aheadB (L[p]?.getD arr0) x = false → arrEq (L[p]?.getD arr0) x → insA x L = L
  | [], p, hp, _, _, _ => by simp at hp
  | y :: r, 0, _, _, h, h' => by
    have h : aheadB y x = false := by simpa using h
    have h' : arrEq y x := by simpa using h'
    simp only [insA]
    rw [if_neg (by rw [h]; simp), if_pos h']
  | y :: r, p + 1, hp, hl, h, h' => by
    have h0 : aheadB y x = true := by simpa using hl 0 (by omega)
    have := insA_same (x := x) (L := r) (p := p) (by simpa using hp) (fun j hj => by have := hl (j + 1) (by omega); rwa [getA_succ] at this) (by rwa [getA_succ] at h) (by rwa [getA_succ] at h')
    simp only [insA]
    rw [if_pos h0, this]
theorem insA_len (x : Arr) : ∀ L, (insA x L).length ≤ L.length + 1
  | [] => by simp [insA]
  | y :: r => by
    unfold insA
    have := insA_len x r
    split
    · simp; omega
    · split <;> simp
theorem srtA_len (l : List Arr) : (srtA l).length ≤ l.length := by
  have : ∀ (l : List Arr) o, (l.foldl (fun out x => insA x out) o).length ≤ o.length + l.length := by
    intro l
    induction l with
    | nil => intro o; simp
    | cons x r ih => intro o; have h1 := ih (insA x o); have h2 := insA_len x o; simp only [List.foldl_cons, List.length_cons]; omega
  have h := this l []
  simpa [srtA] using h
theorem srtA_take {ars : List Arr} {k : Nat} {x : Arr} (h : k < ars.length) (hx : Hid (x = ars[k]?.getD arr0)) : srtA (ars.take (k + 1)) = insA x (srtA (ars.take k)) := by
  have hx := hx.out
  rw [List.getElem?_eq_getElem h, Option.getD_some] at hx
  rw [List.take_add_one, List.getElem?_eq_getElem h, Option.toList_some, hx]
  unfold srtA
  rw [List.foldl_append]; rfl

end Go.Proofs.YtcjcjaeaoianfaaDoor
namespace Go.Proofs.YtcjcjaeaoianfaaDoor
open Go.RowKit
set_option linter.unusedVariables false

/-- The states that are in both. -/
def trimL (m : Mach) : List Int := (reachL m).filter (fun n => hasB (liveL m) n == true)
/-- The arrows between them, numbered anew. -/
def trimA (T : List Int) (ars : List Arr) : List Arr := (ars.filter fun a => decide (0 ≤ placeI T a.f) && decide (0 ≤ placeI T a.t)).map fun a => ⟨placeI T a.f, a.e, placeI T a.t⟩
def trimM (m : Mach) : Mach := ⟨if (trimL m).length = 0 then 1 else (trimL m).length, m.ev, placesL (trimL m) m.starts, srtA (trimA (trimL m) m.arrows), placesL (trimL m) m.ends⟩

theorem trimA_take {T : List Int} {ars : List Arr} {k : Nat} {a : Arr} (h : k < ars.length) (ha : Hid (a = ars[k]?.getD arr0)) : trimA T (ars.take (k + 1)) = if (decide (0 ≤ placeI T a.f) && decide (0 ≤ placeI T a.t)) = true then trimA T (ars.take k) ++ [⟨placeI T a.f, a.e, placeI T a.t⟩] else trimA T (ars.take k) := by
  have ha := ha.out
  rw [List.getElem?_eq_getElem h, Option.getD_some] at ha
  unfold trimA
  rw [List.take_add_one, List.getElem?_eq_getElem h, List.filter_append, List.map_append, ← ha]
  by_cases c : (decide (0 ≤ placeI T a.f) && decide (0 ≤ placeI T a.t)) = true
  · rw [if_pos c]; simp only [Option.toList_some, List.filter_cons, c, if_true, List.filter_nil, List.map_cons, List.map_nil]
  · rw [if_neg c]; simp only [Option.toList_some, List.filter_cons, c, Bool.false_eq_true, if_false, List.filter_nil, List.map_nil, List.append_nil]
theorem trimA_len (T : List Int) (ars : List Arr) : (trimA T ars).length ≤ ars.length := by unfold trimA; rw [List.length_map]; exact List.length_filter_le _ _

/-! Places. -/
theorem placeN_some : ∀ {l : List Int} {n : Int} {j : Nat}, placeN l n = some j → l[j]? = some n
  | [], _, _, h => by simp [placeN] at h
  | x :: r, n, j, h => by
    unfold placeN at h
    by_cases hx : x = n
    · rw [if_pos hx] at h; cases h; simp [hx]
    · rw [if_neg hx] at h
      cases hp : placeN r n with
      | none => rw [hp] at h; cases h
      | some i => rw [hp] at h; cases h; simpa using placeN_some hp
theorem placeN_mem : ∀ {l : List Int} {n : Int}, n ∈ l → ∃ j, placeN l n = some j
  | [], _, h => by simp at h
  | x :: r, n, h => by
    unfold placeN
    by_cases hx : x = n
    · exact ⟨0, by rw [if_pos hx]⟩
    · rw [if_neg hx]
      rcases List.mem_cons.1 h with h | h
      · exact absurd h.symm hx
      · obtain ⟨j, hj⟩ := placeN_mem h
        exact ⟨j + 1, by rw [hj]; rfl⟩
theorem placeI_of {l : List Int} {n : Int} {j : Nat} (h : placeN l n = some j) : placeI l n = j := by unfold placeI placeF; rw [h]; simp
theorem placeI_nn (l : List Int) (n : Int) : 0 ≤ placeI l n ↔ n ∈ l := by
  constructor
  · intro h
    cases hp : placeN l n with
    | none => unfold placeI placeF at h; rw [hp] at h; simp at h
    | some j => exact List.mem_of_getElem? (placeN_some hp)
  · intro h
    obtain ⟨j, hj⟩ := placeN_mem h
    rw [placeI_of hj]; omega
theorem placeI_lt {l : List Int} {n : Int} (h : n ∈ l) : placeI l n < l.length := by
  obtain ⟨j, hj⟩ := placeN_mem h
  have := placeF_lt l n j hj
  rw [placeI_of hj]; omega
theorem placeI_mono {l : List Int} (hl : Inc l) {x y : Int} (hx : x ∈ l) (hy : y ∈ l) : placeI l x < placeI l y ↔ x < y := by
  obtain ⟨i, hi⟩ := placeN_mem hx
  obtain ⟨j, hj⟩ := placeN_mem hy
  rw [placeI_of hi, placeI_of hj]
  obtain ⟨i1, i2⟩ := List.getElem?_eq_some_iff.1 (placeN_some hi)
  obtain ⟨j1, j2⟩ := List.getElem?_eq_some_iff.1 (placeN_some hj)
  have hp := List.pairwise_iff_getElem.1 hl
  constructor
  · intro h
    have := hp i j i1 j1 (by omega)
    rwa [i2, j2] at this
  · intro h
    rcases Nat.lt_trichotomy i j with h1 | h1 | h1
    · omega
    · subst h1; rw [i2] at j2; omega
    · have := hp j i j1 i1 h1
      rw [i2, j2] at this; omega
theorem placeI_inj {l : List Int} {x y : Int} (hx : x ∈ l) (hy : y ∈ l) (h : placeI l x = placeI l y) : x = y := by
  obtain ⟨i, hi⟩ := placeN_mem hx
  obtain ⟨j, hj⟩ := placeN_mem hy
  rw [placeI_of hi, placeI_of hj] at h
  have e : i = j := by omega
  subst e
  have := (placeN_some hi).symm.trans (placeN_some hj)
  exact Option.some.inj this

/-! Rows and arrows in order. -/
theorem rowB_iff (n : Int) (hn : n ≤ 2147483648) (l : List Int) : rowB n l = true ↔ Inc l ∧ ∀ x ∈ l, 0 ≤ x ∧ x < n := by
  unfold rowB
  rw [goIs_iff]
  constructor
  · rintro ⟨h1, h2⟩; exact ⟨h1, fun x hx => by have := h2 x hx; omega⟩
  · rintro ⟨h1, h2⟩; exact ⟨h1, fun x hx => by have := h2 x hx; omega⟩
abbrev IncA (l : List Arr) : Prop := l.Pairwise (fun a b => aheadB a b = true)
theorem aheadB_iff (a b : Arr) : aheadB a b = true ↔ a.f < b.f ∨ (a.f = b.f ∧ (a.e < b.e ∨ (a.e = b.e ∧ a.t < b.t))) := by
  unfold aheadB
  split
  · split
    · simp only [decide_eq_true_eq]; omega
    · simp only [decide_eq_true_eq]; omega
  · simp only [decide_eq_true_eq]; omega
theorem aheadB_trans {a b c : Arr} (h : aheadB a b = true) (k : aheadB b c = true) : aheadB a c = true := by
  rw [aheadB_iff] at *; omega
theorem arrsFrom_iff (st ev : Int) : ∀ (ars : List Arr) (p : Option Arr), arrsFrom st ev p ars = true ↔ (∀ a ∈ ars, arrIn st ev a) ∧ IncA ars ∧ ∀ a ∈ ars, behindB p a = true
  | [], p => by simp [arrsFrom]
  | b :: r, p => by
    unfold arrsFrom
    by_cases hc : arrIn st ev b ∧ behindB p b = true
    · rw [if_pos hc, arrsFrom_iff st ev r (some b)]
      constructor
      · rintro ⟨h1, h2, h3⟩
        refine ⟨?_, List.pairwise_cons.2 ⟨fun a ha => h3 a ha, h2⟩, ?_⟩
        · intro a ha
          rcases List.mem_cons.1 ha with rfl | ha
          · exact hc.1
          · exact h1 a ha
        · intro a ha
          rcases List.mem_cons.1 ha with rfl | ha
          · exact hc.2
          · cases p with
            | none => rfl
            | some q => exact aheadB_trans (b := b) hc.2 (h3 a ha)
      · rintro ⟨h1, h2, h3⟩
        obtain ⟨k1, k2⟩ := List.pairwise_cons.1 h2
        exact ⟨fun a ha => h1 a (by simp [ha]), k2, k1⟩
    · rw [if_neg hc]
      constructor
      · intro h; cases h
      · rintro ⟨h1, h2, h3⟩
        exact absurd ⟨h1 b (by simp), h3 b (by simp)⟩ hc
theorem insA_last {x : Arr} : ∀ {L : List Arr}, (∀ a ∈ L, aheadB a x = true) → insA x L = L ++ [x]
  | [], _ => rfl
  | y :: r, h => by
    unfold insA
    rw [if_pos (h y (by simp)), insA_last (fun a ha => h a (by simp [ha]))]; rfl
theorem srtA_go : ∀ (l o : List Arr), IncA (o ++ l) → l.foldl (fun out x => insA x out) o = o ++ l
  | [], o, _ => by simp
  | x :: r, o, h => by
    have h1 : ∀ a ∈ o, aheadB a x = true := fun a ha => (List.pairwise_append.1 h).2.2 a ha x (by simp)
    rw [List.foldl_cons, insA_last h1, srtA_go r (o ++ [x]) (by simpa using h)]
    simp
theorem srtA_id {l : List Arr} (h : IncA l) : srtA l = l := by
  have := srtA_go l [] (by simpa using h)
  simpa [srtA] using this

/-! What is come to, of a machine that may be. -/
theorem may_arrs {m : Mach} (hm : mayB m = true) : ∀ a ∈ m.arrows, arrIn m.st m.ev a := ((arrsFrom_iff _ _ _ _).1 (mayB_arrs hm)).1
theorem may_inc {m : Mach} (hm : mayB m = true) : IncA m.arrows := ((arrsFrom_iff _ _ _ _).1 (mayB_arrs hm)).2.1
theorem may_starts {m : Mach} (hm : mayB m = true) : Inc m.starts ∧ ∀ x ∈ m.starts, 0 ≤ x ∧ x < m.st := (rowB_iff _ (by have := mayB_size hm; unfold sizeOk at this; omega) _).1 (mayB_starts hm)
theorem may_ends {m : Mach} (hm : mayB m = true) : Inc m.ends ∧ ∀ x ∈ m.ends, 0 ≤ x ∧ x < m.st := (rowB_iff _ (by have := mayB_size hm; unfold sizeOk at this; omega) _).1 (mayB_ends hm)
theorem mem_reach {m : Mach} (hm : mayB m = true) (x : Int) : x ∈ reachL m ↔ Rch (·.f) (·.t) m.arrows m.starts x := by
  have hz := mayB_size hm
  unfold sizeOk at hz
  have hs := may_starts hm
  have ha := may_arrs hm
  unfold reachL
  rw [mem_srt]
  exact mem_close (fun a h => by have := ha a h; omega) (inc_nodup hs.1) (fun y hy => by have := hs.2 y hy; omega) x
theorem mem_live {m : Mach} (hm : mayB m = true) (x : Int) : x ∈ liveL m ↔ Rch (·.t) (·.f) m.arrows m.ends x := by
  have hz := mayB_size hm
  unfold sizeOk at hz
  have hs := may_ends hm
  have ha := may_arrs hm
  unfold liveL
  rw [mem_srt]
  exact mem_close (fun a h => by have := ha a h; omega) (inc_nodup hs.1) (fun y hy => by have := hs.2 y hy; omega) x
theorem rch_bd {fr to : Arr → Int} {ars : List Arr} {l : List Int} {n x : Int} (hl : ∀ x ∈ l, 0 ≤ x ∧ x < n) (ha : ∀ a ∈ ars, 0 ≤ to a ∧ to a < n) (h : Rch fr to ars l x) : 0 ≤ x ∧ x < n :=
  h (fun x => 0 ≤ x ∧ x < n) ⟨hl, fun a h _ => ha a h⟩
theorem reach_bd {m : Mach} (hm : mayB m = true) {x : Int} (h : x ∈ reachL m) : 0 ≤ x ∧ x < m.st :=
  rch_bd (may_starts hm).2 (fun a ha => by have := may_arrs hm a ha; omega) ((mem_reach hm x).1 h)
theorem mem_trim (m : Mach) (x : Int) : x ∈ trimL m ↔ x ∈ reachL m ∧ x ∈ liveL m := by
  unfold trimL
  rw [List.mem_filter, beq_iff_eq, hasB_iff]
theorem inc_trim (m : Mach) : Inc (trimL m) := (inc_srt _).filter _
theorem trim_le {m : Mach} (hm : mayB m = true) : (trimL m).length ≤ m.st.toNat := by
  have hz := mayB_size hm
  unfold sizeOk at hz
  exact nodup_len _ _ (inc_nodup (inc_trim m)) (fun x hx => by have := reach_bd hm ((mem_trim m x).1 hx).1; omega)

/-! The trimmed machine may be. -/
theorem mem_places (T ss : List Int) (x : Int) : x ∈ placesL T ss ↔ ∃ s ∈ ss, s ∈ T ∧ placeI T s = x := by
  unfold placesL
  simp only [List.mem_filter, List.mem_map, decide_eq_true_eq]
  constructor
  · rintro ⟨⟨s, h1, rfl⟩, h2⟩; exact ⟨s, h1, (placeI_nn _ _).1 h2, rfl⟩
  · rintro ⟨s, h1, h2, rfl⟩; exact ⟨⟨s, h1, rfl⟩, (placeI_nn _ _).2 h2⟩
theorem inc_places {T ss : List Int} (hT : Inc T) (hs : Inc ss) : Inc (placesL T ss) := by
  unfold placesL
  rw [List.filter_map]
  refine List.pairwise_map.2 ?_
  refine (hs.filter _).imp_of_mem ?_
  intro a b ha hb hab
  simp only [List.mem_filter, Function.comp_apply, decide_eq_true_eq, placeI_nn] at ha hb
  exact (placeI_mono hT ha.2 hb.2).2 hab
theorem mem_trimA (T : List Int) (ars : List Arr) (x : Arr) : x ∈ trimA T ars ↔ ∃ a ∈ ars, a.f ∈ T ∧ a.t ∈ T ∧ x = ⟨placeI T a.f, a.e, placeI T a.t⟩ := by
  unfold trimA
  simp only [List.mem_map, List.mem_filter, Bool.and_eq_true, decide_eq_true_eq, placeI_nn]
  constructor
  · rintro ⟨a, ⟨h1, h2, h3⟩, rfl⟩; exact ⟨a, h1, h2, h3, rfl⟩
  · rintro ⟨a, h1, h2, h3, rfl⟩; exact ⟨a, ⟨h1, h2, h3⟩, rfl⟩
theorem inc_trimA {T : List Int} {ars : List Arr} (hT : Inc T) (ha : IncA ars) : IncA (trimA T ars) := by
  unfold trimA
  refine List.pairwise_map.2 ?_
  refine (ha.filter _).imp_of_mem ?_
  intro a b h1 h2 hab
  simp only [List.mem_filter, Bool.and_eq_true, decide_eq_true_eq, placeI_nn] at h1 h2
  rw [aheadB_iff] at hab ⊢
  dsimp only
  have m1 := placeI_mono hT h1.2.1 h2.2.1
  have m2 := placeI_mono hT h1.2.2 h2.2.2
  rcases hab with h | ⟨h, h'⟩
  · exact .inl (m1.2 h)
  · refine .inr ⟨by rw [h], ?_⟩
    rcases h' with h' | ⟨h', h''⟩
    · exact .inl h'
    · exact .inr ⟨h', m2.2 h''⟩
theorem srt_trimA {m : Mach} (hm : mayB m = true) : srtA (trimA (trimL m) m.arrows) = trimA (trimL m) m.arrows := srtA_id (inc_trimA (inc_trim m) (may_inc hm))
theorem may_trim {m : Mach} (hm : mayB m = true) : mayB (trimM m) = true := by
  have hz := mayB_size hm
  unfold sizeOk at hz
  have hl := trim_le hm
  have hst : 1 ≤ (trimM m).st ∧ (trimM m).st ≤ 256 ∧ ((trimL m).length : Int) ≤ (trimM m).st := by
    unfold trimM; dsimp only; split <;> omega
  have hT := inc_trim m
  rw [mayB_go ⟨hst.1, hst.2.1, hz.2.2.1, hz.2.2.2.1, Nat.le_trans (Nat.le_trans (srtA_len _) (trimA_len _ _)) hz.2.2.2.2⟩ ((rowB_iff _ (by omega) _).2 ⟨inc_places hT (may_starts hm).1, fun x hx => ?_⟩) ((rowB_iff _ (by omega) _).2 ⟨inc_places hT (may_ends hm).1, fun x hx => ?_⟩)]
  · rw [arrsFrom_iff]
    show (∀ a ∈ srtA (trimA (trimL m) m.arrows), _) ∧ IncA (srtA (trimA (trimL m) m.arrows)) ∧ _
    rw [srt_trimA hm]
    refine ⟨?_, inc_trimA hT (may_inc hm), fun _ _ => rfl⟩
    intro a ha
    obtain ⟨b, h1, h2, h3, rfl⟩ := (mem_trimA _ _ _).1 ha
    have i1 := placeI_lt h2
    have i2 := placeI_lt h3
    have i3 := (placeI_nn _ _).2 h2
    have i4 := (placeI_nn _ _).2 h3
    have i5 := may_arrs hm b h1
    exact ⟨i3, by dsimp only; omega, i4, by dsimp only; omega, i5.2.2.2.2.1, i5.2.2.2.2.2⟩
  · obtain ⟨s, h1, h2, rfl⟩ := (mem_places _ _ _).1 hx
    have i1 := placeI_lt h2
    exact ⟨(placeI_nn _ _).2 h2, by omega⟩
  · obtain ⟨s, h1, h2, rfl⟩ := (mem_places _ _ _).1 hx
    have i1 := placeI_lt h2
    exact ⟨(placeI_nn _ _).2 h2, by omega⟩

/-! The trimmed machine accepts the same words. -/
structure TrimOf (m : Mach) (ss ss' : List Int) : Prop where
  mem : ∀ x, x ∈ ss' ↔ ∃ s ∈ ss, s ∈ trimL m ∧ placeI (trimL m) s = x
  sub : ∀ s ∈ ss, s ∈ reachL m
theorem trim_step {m : Mach} (hm : mayB m = true) {ss ss' : List Int} (h : TrimOf m ss ss') (e : Int) : TrimOf m (stepL m.arrows ss e) (stepL (trimM m).arrows ss' e) := by
  have hst : ∀ a ∈ m.arrows, a.f ∈ reachL m → a.t ∈ reachL m := fun a ha hf => (mem_reach hm _).2 (rch_step (fr := (·.f)) (to := (·.t)) ha ((mem_reach hm _).1 hf))
  have hlv : ∀ a ∈ m.arrows, a.t ∈ liveL m → a.f ∈ liveL m := fun a ha hf => (mem_live hm _).2 (rch_step (fr := (·.t)) (to := (·.f)) ha ((mem_live hm _).1 hf))
  refine ⟨fun x => ?_, fun s hs => ?_⟩
  · rw [mem_stepL]
    show (∃ a ∈ srtA (trimA (trimL m) m.arrows), _) ↔ _
    rw [srt_trimA hm]
    constructor
    · rintro ⟨a', ha', h1, h2, h3⟩
      obtain ⟨a, ha, hf, ht, rfl⟩ := (mem_trimA _ _ _).1 ha'
      obtain ⟨s, hs, hsT, hp⟩ := (h.mem _).1 h2
      have : s = a.f := placeI_inj hsT hf hp
      subst this
      exact ⟨a.t, (mem_stepL _ _ _ _).2 ⟨a, ha, h1, hs, rfl⟩, ht, h3⟩
    · rintro ⟨s, hs, hsT, hp⟩
      obtain ⟨a, ha, h1, h2, rfl⟩ := (mem_stepL _ _ _ _).1 hs
      have hfT : a.f ∈ trimL m := (mem_trim m _).2 ⟨h.sub _ h2, hlv a ha ((mem_trim m _).1 hsT).2⟩
      exact ⟨_, (mem_trimA _ _ _).2 ⟨a, ha, hfT, hsT, rfl⟩, h1, (h.mem _).2 ⟨a.f, h2, hfT, rfl⟩, hp⟩
  · obtain ⟨a, ha, -, h2, rfl⟩ := (mem_stepL _ _ _ _).1 hs
    exact hst a ha (h.sub _ h2)
theorem trim_after {m : Mach} (hm : mayB m = true) : ∀ (word : List Int) {ss ss' : List Int}, TrimOf m ss ss' → TrimOf m (afterL m.arrows ss word) (afterL (trimM m).arrows ss' word)
  | [], _, _, h => h
  | e :: r, _, _, h => trim_after hm r (trim_step hm h e)
theorem accepts_iff (m : Mach) (word : List Int) : acceptsB m word = true ↔ ∃ x ∈ afterL m.arrows m.starts word, x ∈ m.ends := by
  unfold acceptsB acceptsL
  rw [decide_eq_true_eq, List.length_pos_iff_exists_mem]
  simp only [List.mem_filter, beq_iff_eq, hasB_iff]
theorem trim_accepts {m : Mach} (hm : mayB m = true) (word : List Int) : acceptsB (trimM m) word = acceptsB m word := by
  have h0 : TrimOf m m.starts (trimM m).starts := ⟨fun x => mem_places _ _ x, fun s hs => (mem_reach hm s).2 (rch_start hs)⟩
  have h1 := trim_after hm word h0
  rw [Bool.eq_iff_iff, accepts_iff, accepts_iff]
  constructor
  · rintro ⟨x, hx, he⟩
    obtain ⟨s, hs, hsT, hp⟩ := (h1.mem x).1 hx
    obtain ⟨t, ht, htT, hq⟩ := (mem_places _ _ _).1 he
    have : s = t := placeI_inj hsT htT (hp.trans hq.symm)
    subst this
    exact ⟨s, hs, ht⟩
  · rintro ⟨s, hs, he⟩
    have hT : s ∈ trimL m := (mem_trim m s).2 ⟨h1.sub s hs, (mem_live hm s).2 (rch_start he)⟩
    exact ⟨_, (h1.mem _).2 ⟨s, hs, hT, rfl⟩, (mem_places _ _ _).2 ⟨s, he, hT, rfl⟩⟩

end Go.Proofs.YtcjcjaeaoianfaaDoor
