/-
  Plain: the least machine, found by a determined machine's states and by which of them a word tells apart. No program, no model.
  What the walk of jalousieref8.Least knows of the memory.
  Plain: what holds while the least machine is found by a determined machine's states. No program, no model.
  The walk of jalousieref1.Has: whether a list has a number.
  The walks of jalousieref1.Same (two lists are one) and of jalousieref1.Only (the numbers of a list that are, or are not, in another).
-/
import Derived.Test.YtkkkacmccndinaaDoorG15
import Derived.Test.YtkkkacmccndinaaDoorG13
import Derived.Test.YtkkkacmccndinaaDoorG03
import Derived.Test.YtkkkacmccndinaaDoorG04
import Derived.Deep.QuietTactic
import Derived.BigQuiet
namespace Go.Proofs.YtkkkacmccndinaaDoor
open Go.RowKit
set_option linter.unusedVariables false
set_option linter.unusedSectionVars false

/-- Where a state of a determined machine leads to. -/
def toI (D : List Arr) (s e : Int) : Int := (stepL D [s] e)[0]?.getD 0
/-- The first of some states that is not told apart from another one. -/
def lFind (ap : Int → Int → Bool) : List Int → Int → Nat
  | [], _ => 0
  | a :: r, t => if ap a t = true then lFind ap r t + 1 else 0
/-- States found, and arrows. -/
structure LS where
  fd : List Int
  ar : List Arr
def lStp (D : List Arr) (ap : Int → Int → Bool) (k : Nat) (s : LS) (e : Nat) : LS :=
  ⟨if lFind ap s.fd (toI D (s.fd[k]?.getD 0) (e : Int)) = s.fd.length then s.fd ++ [toI D (s.fd[k]?.getD 0) (e : Int)] else s.fd, s.ar ++ [⟨(k : Int), (e : Int), (lFind ap s.fd (toI D (s.fd[k]?.getD 0) (e : Int)) : Nat)⟩]⟩
def lRow (D : List Arr) (ap : Int → Int → Bool) (k : Nat) (s : LS) (n : Nat) : LS := (List.range n).foldl (lStp D ap k) s
theorem lRow_succ (D : List Arr) (ap : Int → Int → Bool) (k : Nat) (s : LS) (n : Nat) : lRow D ap k s (n + 1) = lStp D ap k (lRow D ap k s n) n := by
  unfold lRow; rw [List.range_succ, List.foldl_append]; rfl
def lGo (D : List Arr) (ap : Int → Int → Bool) (ev : Nat) : Nat → Nat → LS → LS
  | 0, _, s => s
  | f + 1, k, s => if k < s.fd.length then lGo D ap ev f (k + 1) (lRow D ap k s ev) else s
/-- The machine that is laid by states found. -/
def lM (d : Mach) (s : LS) : Mach := ⟨s.fd.length, d.ev, [0], s.ar, endsG (fun x => hasB d.ends x) 0 s.fd⟩
/-- The least machine, by a determined machine. -/
def leastR (d : Mach) (ap : Int → Int → Bool) : Mach := lM d (lGo d.arrows ap d.ev.toNat 65 0 ⟨[0], []⟩)

section
variable {d : Mach}
theorem toI_step (hd : detB d = true) {s e : Int} (h0 : 0 ≤ s) (h1 : s < d.st) (k0 : 0 ≤ e) (k1 : e < d.ev) : stepL d.arrows [s] e = [toI d.arrows s e] ∧ 0 ≤ toI d.arrows s e ∧ toI d.arrows s e < d.st := by
  obtain ⟨t, t0, t1, ht⟩ := det_one hd h0 h1 k0 k1
  have : toI d.arrows s e = t := by unfold toI; rw [ht]; rfl
  rw [this]; exact ⟨ht, t0, t1⟩
theorem langS_step (hd : detB d = true) {s : Int} {e : Nat} (h0 : 0 ≤ s) (h1 : s < d.st) (k1 : (e : Int) < d.ev) : langD (langS d [s]) e = langS d [toI d.arrows s (e : Int)] := by
  have h := (toI_step hd h0 h1 (by omega : (0 : Int) ≤ (e : Int)) k1).1
  funext v
  unfold langD langS
  rw [show afterL d.arrows [s] ((e : Int) :: v) = afterL d.arrows (stepL d.arrows [s] (e : Int)) v from rfl, h, wordB, if_neg (by omega)]
theorem endsG_map {σ τ : Type} (g : τ → σ) (fin : σ → Bool) (fin' : τ → Bool) (h : ∀ x, fin (g x) = fin' x) : ∀ (L : List τ) (k : Nat), endsG fin k (L.map g) = endsG fin' k L
  | [], k => rfl
  | a :: r, k => by rw [List.map_cons, endsG, endsG, h a, endsG_map g fin fin' h r (k + 1)]

variable [DecidableEq Lang] {ap : Int → Int → Bool}
theorem lFind_eq (hap : ∀ s t : Int, 0 ≤ s → s < d.st → 0 ≤ t → t < d.st → (ap s t = true ↔ langS d [s] ≠ langS d [t])) {t : Int} (t0 : 0 ≤ t) (t1 : t < d.st) : ∀ {L : List Int}, (∀ x ∈ L, 0 ≤ x ∧ x < d.st) → lFind ap L t = findG (L.map fun s => langS d [s]) (langS d [t])
  | [], _ => rfl
  | a :: r, h => by
    have ha := h a (by simp)
    have ih := lFind_eq hap t0 t1 (L := r) (fun x hx => h x (by simp [hx]))
    rw [List.map_cons, lFind, findG, ih]
    by_cases e : langS d [a] = langS d [t]
    · rw [if_pos e, if_neg (fun h' => (hap a t ha.1 ha.2 t0 t1).1 h' e)]
    · rw [if_neg e, if_pos ((hap a t ha.1 ha.2 t0 t1).2 e)]
/-- Found by states, and found by languages. -/
structure LR (d : Mach) (s : LS) (g : GS Lang) : Prop where
  st : g.sets = s.fd.map fun x => langS d [x]
  ar : g.ar = s.ar
  bd : ∀ x ∈ s.fd, 0 ≤ x ∧ x < d.st
theorem LR.len {s : LS} {g : GS Lang} (h : LR d s g) : g.sets.length = s.fd.length := by rw [h.st, List.length_map]
theorem lr_step (hd : detB d = true) (hap : ∀ s t : Int, 0 ≤ s → s < d.st → 0 ≤ t → t < d.st → (ap s t = true ↔ langS d [s] ≠ langS d [t])) {s : LS} {g : GS Lang} (h : LR d s g) {k e : Nat} (hk : k < s.fd.length) (he : (e : Int) < d.ev) : LR d (lStp d.arrows ap k s e) (gStep langD k g e) := by
  obtain ⟨x, hx⟩ : ∃ x, s.fd[k]? = some x := ⟨_, List.getElem?_eq_getElem hk⟩
  have hxb := h.bd x (List.mem_of_getElem? hx)
  obtain ⟨t, ht⟩ : ∃ t, t = toI d.arrows x (e : Int) := ⟨_, rfl⟩
  have htb := (toI_step hd hxb.1 hxb.2 (by omega : (0 : Int) ≤ (e : Int)) he).2
  rw [← ht] at htb
  have e1 : lStp d.arrows ap k s e = ⟨if lFind ap s.fd t = s.fd.length then s.fd ++ [t] else s.fd, s.ar ++ [⟨(k : Int), (e : Int), (lFind ap s.fd t : Nat)⟩]⟩ := by
    unfold lStp; rw [hx, Option.getD_some, ← ht]
  have e2 : g.sets[k]? = some (langS d [x]) := by rw [h.st, List.getElem?_map, hx]; rfl
  have e3 : findG g.sets (langS d [t]) = lFind ap s.fd t := by rw [h.st, lFind_eq hap htb.1 htb.2 h.bd]
  have e4 : gStep langD k g e = ⟨if lFind ap s.fd t = s.fd.length then g.sets ++ [langS d [t]] else g.sets, g.ar ++ [⟨(k : Int), (e : Int), (lFind ap s.fd t : Nat)⟩]⟩ := by
    unfold gStep
    rw [e2]
    dsimp only
    rw [langS_step hd hxb.1 hxb.2 he, ← ht, e3, h.len]
  rw [e1, e4]
  refine ⟨?_, by rw [h.ar], fun y hy => ?_⟩
  · dsimp only
    split
    · rw [List.map_append, h.st]; rfl
    · exact h.st
  · dsimp only at hy
    split at hy
    · rcases List.mem_append.1 hy with hy | hy
      · exact h.bd y hy
      · have : y = t := by simpa using hy
        rw [this]; exact htb
    · exact h.bd y hy
theorem lStp_pre (D : List Arr) (k : Nat) (s : LS) (e : Nat) : ∃ t, (lStp D ap k s e).fd = s.fd ++ t := by
  unfold lStp
  dsimp only
  split
  · exact ⟨_, rfl⟩
  · exact ⟨[], by simp⟩
theorem lRow_pre (D : List Arr) (k : Nat) (s : LS) : ∀ n, ∃ t, (lRow D ap k s n).fd = s.fd ++ t
  | 0 => ⟨[], by simp [lRow]⟩
  | n + 1 => by
    obtain ⟨t, h1⟩ := lRow_pre D k s n
    obtain ⟨u, h3⟩ := lStp_pre (ap := ap) D k (lRow D ap k s n) n
    exact ⟨t ++ u, by rw [lRow_succ, h3, h1, List.append_assoc]⟩
theorem lr_row (hd : detB d = true) (hap : ∀ s t : Int, 0 ≤ s → s < d.st → 0 ≤ t → t < d.st → (ap s t = true ↔ langS d [s] ≠ langS d [t])) {s : LS} {g : GS Lang} (h : LR d s g) {k : Nat} (hk : k < s.fd.length) : ∀ n : Nat, (n : Int) ≤ d.ev → LR d (lRow d.arrows ap k s n) (gRow langD k g n)
  | 0, _ => h
  | n + 1, hn => by
    rw [lRow_succ, gRow_succ]
    obtain ⟨t, ht⟩ := lRow_pre (ap := ap) d.arrows k s n
    exact lr_step hd hap (lr_row hd hap h hk n (by omega)) (by rw [ht, List.length_append]; omega) (by omega)
theorem lr_go (hd : detB d = true) (hap : ∀ s t : Int, 0 ≤ s → s < d.st → 0 ≤ t → t < d.st → (ap s t = true ↔ langS d [s] ≠ langS d [t])) {ev : Nat} (hev : (ev : Int) ≤ d.ev) : ∀ (f k : Nat) (s : LS) (g : GS Lang), LR d s g → LR d (lGo d.arrows ap ev f k s) (gGo langD ev f k g)
  | 0, k, s, g, h => h
  | f + 1, k, s, g, h => by
    rw [lGo, gGo, h.len]
    by_cases hlt : k < s.fd.length
    · rw [if_pos hlt, if_pos hlt]
      exact lr_go hd hap hev f (k + 1) _ _ (lr_row hd hap h hlt ev hev)
    · rw [if_neg hlt, if_neg hlt]; exact h
/-- By a determined machine that begins at 0, the least machine of its language is found. -/
theorem leastR_eq (hd : detB d = true) (h0 : d.starts = [0]) (hap : ∀ s t : Int, 0 ≤ s → s < d.st → 0 ≤ t → t < d.st → (ap s t = true ↔ langS d [s] ≠ langS d [t])) : leastR d ap = leastM (langM d) d.ev.toNat := by
  have hmd : mayB d = true := by unfold detB at hd; rw [Bool.and_eq_true] at hd; exact hd.1
  have hz := mayB_size hmd
  unfold sizeOk at hz
  have hL : langM d = langS d [0] := by
    funext u
    unfold langM langS acceptsB acceptsL
    rw [h0]
  have h := lr_go hd hap (ev := d.ev.toNat) (by omega) 65 0 ⟨[0], []⟩ ⟨[langM d], []⟩ ⟨by rw [hL]; rfl, rfl, fun x hx => (by rcases List.mem_singleton.1 hx with rfl; exact ⟨by omega, by omega⟩)⟩
  unfold leastR leastM leastS gM lM
  rw [h.len, h.ar, h.st, endsG_map (fun x => langS d [x]) (fun f => f []) (fun x => hasB d.ends x) (fun x => ?_)]
  · congr 1; omega
  · show (wordB d.ev [] && decide (0 < (([x] : List Int).filter fun n => hasB d.ends n == true).length)) = hasB d.ends x
    cases hx : hasB d.ends x <;> simp [wordB, hx]
end

/-! Which states a word tells apart. -/
section
variable {d : Mach}
theorem langS_nil (x : Int) : langS d [x] [] = hasB d.ends x := by
  show (wordB d.ev [] && decide (0 < (([x] : List Int).filter fun n => hasB d.ends n == true).length)) = hasB d.ends x
  cases hx : hasB d.ends x <;> simp [wordB, hx]
/-- What is told apart at an event on, is told apart. -/
theorem apart_on (hd : detB d = true) {s t : Int} {e : Nat} (s0 : 0 ≤ s) (s1 : s < d.st) (t0 : 0 ≤ t) (t1 : t < d.st) (he : (e : Int) < d.ev) (h : langS d [toI d.arrows s (e : Int)] ≠ langS d [toI d.arrows t (e : Int)]) : langS d [s] ≠ langS d [t] := fun e1 => h (by rw [← langS_step hd s0 s1 he, ← langS_step hd t0 t1 he, e1])
theorem apart_fin {s t : Int} (h : hasB d.ends s ≠ hasB d.ends t) : langS d [s] ≠ langS d [t] := fun e => h (by rw [← langS_nil, ← langS_nil, e])
/-- A table that has what ends tell apart, is closed backward, and has nothing else, is the right one. -/
theorem apart_iff (hd : detB d = true) {ap : Int → Int → Bool} (hb : ∀ s t : Int, 0 ≤ s → s < d.st → 0 ≤ t → t < d.st → hasB d.ends s ≠ hasB d.ends t → ap s t = true) (hc : ∀ (s t : Int) (e : Nat), 0 ≤ s → s < d.st → 0 ≤ t → t < d.st → (e : Int) < d.ev → ap (toI d.arrows s (e : Int)) (toI d.arrows t (e : Int)) = true → ap s t = true) (hs : ∀ s t : Int, 0 ≤ s → s < d.st → 0 ≤ t → t < d.st → ap s t = true → langS d [s] ≠ langS d [t]) :
    ∀ s t : Int, 0 ≤ s → s < d.st → 0 ≤ t → t < d.st → (ap s t = true ↔ langS d [s] ≠ langS d [t]) := by
  have key : ∀ (v : List Int) (s t : Int), 0 ≤ s → s < d.st → 0 ≤ t → t < d.st → ap s t = false → langS d [s] v = langS d [t] v := by
    intro v
    induction v with
    | nil =>
      intro s t s0 s1 t0 t1 h
      rw [langS_nil, langS_nil]
      by_cases e : hasB d.ends s = hasB d.ends t
      · exact e
      · rw [hb s t s0 s1 t0 t1 e] at h; cases h
    | cons e v ih =>
      intro s t s0 s1 t0 t1 h
      by_cases he : 0 ≤ e ∧ e < d.ev
      · obtain ⟨n, rfl⟩ : ∃ n : Nat, e = (n : Int) := ⟨e.toNat, by omega⟩
        have q1 := (toI_step hd s0 s1 he.1 he.2).2
        have q2 := (toI_step hd t0 t1 he.1 he.2).2
        have hn : ap (toI d.arrows s (n : Int)) (toI d.arrows t (n : Int)) = false := by
          cases hh : ap (toI d.arrows s (n : Int)) (toI d.arrows t (n : Int)) with
          | false => rfl
          | true => rw [hc s t n s0 s1 t0 t1 he.2 hh] at h; cases h
        have := ih _ _ q1.1 q1.2 q2.1 q2.2 hn
        rw [← langS_step hd s0 s1 he.2, ← langS_step hd t0 t1 he.2] at this
        exact this
      · unfold langS
        rw [wordB, if_pos (by omega)]; rfl
  intro s t s0 s1 t0 t1
  refine ⟨hs s t s0 s1 t0 t1, fun h => ?_⟩
  cases hh : ap s t with
  | true => rfl
  | false => exact absurd (funext fun v => key v s t s0 s1 t0 t1 hh) h
end

/-! A small machine's sets. -/
theorem di_small {m : Mach} (zm : m.st ≤ 6) {ev n : Nat} {s : DS} (h : DI m ev n s) : s.sets.length ≤ 64 := by
  have h1 := nodup_sub (m := subs 6) h.nd (fun l hl => by
    have := h.inc l hl
    exact mem_subs 6 l this.1 (fun x hx => by have := this.2 x hx; omega))
  rw [subs_len] at h1
  exact h1
theorem dGo_small {m : Mach} (hm : mayB m = true) (zm : m.st ≤ 6) {ev : Nat} : ∀ (f k : Nat) (s : DS), DI m ev (k * ev) s → ∃ s', dGo m.arrows ev f k s = some s'
  | 0, k, s, _ => ⟨s, rfl⟩
  | f + 1, k, s, h => by
    rw [dGo]
    by_cases hlt : k < s.sets.length
    · rw [if_pos hlt]
      have h' := di_row hm h hlt ev (Nat.le_refl _)
      have := di_small zm h'
      rw [if_neg (by omega)]
      exact dGo_small hm zm f (k + 1) _ (by rw [Nat.succ_mul]; exact h')
    · rw [if_neg hlt]; exact ⟨s, rfl⟩
theorem det_small {m : Mach} (hm : mayB m = true) (zm : m.st ≤ 6) : ∃ s, detS m = some s ∧ s.sets.length ≤ 64 := by
  obtain ⟨s, h⟩ := dGo_small hm zm 257 0 _ (di_start hm m.ev.toNat)
  exact ⟨s, h, di_small zm (detS_di hm h).1⟩
theorem det_lang {m : Mach} (hm : mayB m = true) {s : DS} (h : detS m = some s) : langM (detM m s) = langM m := by
  funext u
  unfold langM
  show (wordB m.ev u && acceptsB (detM m s) u) = _
  cases hw : wordB m.ev u with
  | false => rfl
  | true => rw [det_accepts hm h hw]
/-- The least machine of a small machine, by the states of its sets. -/
theorem leastR_det [DecidableEq Lang] {m : Mach} (hm : mayB m = true) {s : DS} (h : detS m = some s) {ap : Int → Int → Bool} (hap : ∀ x y : Int, 0 ≤ x → x < (detM m s).st → 0 ≤ y → y < (detM m s).st → (ap x y = true ↔ langS (detM m s) [x] ≠ langS (detM m s) [y])) : leastR (detM m s) ap = leastM (langM m) m.ev.toNat := by
  rw [leastR_eq (det_det hm h) rfl hap, det_lang hm h]; rfl

end Go.Proofs.YtkkkacmccndinaaDoor
namespace Go.Proofs.YtkkkacmccndinaaDoor
open Go.RowKit
set_option linter.unusedVariables false

/-- From X0 on, whose blocks are as they were: the states found, the arrows, the ends. -/
structure LN (X0 W : World) (b0 : Nat) (ev : Int) (v8 va ve : Value) (F : List Int) (A : List Arr) (E : List Int) : Prop where
  low : Below b0 X0 W
  s0 : Blk W b0 3 #[.int .i64 0]
  nb : Blk W (b0 + 1) 25 (rcells 0 ev b0 va ve)
  fd : Own W (b0 + 2) v8 F
  ar : OwnA W (b0 + 2) va A
  en : Own W (b0 + 2) ve E
  ap : ∀ g, v8.ownBlock = some g → ve.ownBlock ≠ some g
  hB : b0 + 2 ≤ W.heap.size
section
variable {X0 W : World} {b0 : Nat} {ev : Int} {v8 va ve : Value} {F : List Int} {A : List Arr} {E : List Int}
theorem LN.below {W' : World} (h : LN X0 W b0 ev v8 va ve F A E) (hb : Below W.heap.size W W') : LN X0 W' b0 ev v8 va ve F A E :=
  ⟨h.low.trans (hb.mono (Nat.le_trans (Nat.le_add_right _ _) h.hB)), h.s0.below hb h.s0.lt, h.nb.below hb h.nb.lt, own_same h.fd (fun k hk => hb.block k (World.ownsRow.lt h.fd k hk).2), h.ar.kept hb (Nat.le_refl _), own_same h.en (fun k hk => hb.block k (World.ownsRow.lt h.en k hk).2), h.ap, Nat.le_trans h.hB hb.size⟩
theorem LN.pushF {W2 W3 : World} {v8' : Value} {t : Int} (h : LN X0 W b0 ev v8 va ve F A E) (hW3 : Below W.heap.size W W3) (o1 : Own W2 (b0 + 2) v8' (F ++ [t])) (g : W3.grownBy W2 v8.ownBlock) (fr : v8'.ownBlock = v8.ownBlock ∨ v8'.ownBlock = some W3.heap.size) : LN X0 W2 b0 ev v8' va ve (F ++ [t]) A E := by
  have h3 := h.below hW3
  have hB := h3.hB
  have kp : ∀ j, j < W3.heap.size → v8.ownBlock ≠ some j → W2.heap[j]? = W3.heap[j]? := fun j hj hn => g.block j hj (fun e => hn e.symm)
  have hi : ∀ j, j < b0 + 2 → v8.ownBlock ≠ some j := fun j hj e => by have := (World.ownsRow.lt h3.fd j e).1; omega
  refine ⟨h3.low.grown g (by omega) (fun j hj => Nat.le_trans (by omega) (World.ownsRow.lt h3.fd j hj).1), (kp _ (by omega) (hi _ (by omega))).trans h3.s0, (kp _ (by omega) (hi _ (by omega))).trans h3.nb, o1, own_same h3.ar (fun k hk => kp k (World.ownsRow.lt h3.ar k hk).2 (fun e => ?_)), own_same h3.en (fun k hk => kp k (World.ownsRow.lt h3.en k hk).2 (fun e => h.ap k e hk)), fun q e1 e2 => ?_, Nat.le_trans hB g.size⟩
  · rcases own_apart h3.fd h3.ar (by decide) with r | r
    · rw [r] at e; cases e
    · exact r (e.trans hk.symm)
  · rcases fr with f | f
    · rw [f] at e1; exact h.ap q e1 e2
    · rw [f] at e1
      have := (World.ownsRow.lt h3.en q e2).2
      have := Option.some.inj e1
      omega
theorem LN.pushE {W2 W3 : World} {ve' : Value} {t : Int} (h : LN X0 W b0 ev v8 va ve F A E) (hW3 : Below W.heap.size W W3) (o1 : Own W2 (b0 + 2) ve' (E ++ [t])) (g : W3.grownBy W2 ve.ownBlock) (fr : ve'.ownBlock = ve.ownBlock ∨ ve'.ownBlock = some W3.heap.size) :
    Blk W2 (b0 + 1) 25 (rcells 0 ev b0 va ve) ∧ LN X0 (W2.setCell ⟨b0 + 1, 4, none⟩ ve') b0 ev v8 va ve' F A (E ++ [t]) := by
  have h3 := h.below hW3
  have hB := h3.hB
  have kp : ∀ j, j < W3.heap.size → ve.ownBlock ≠ some j → W2.heap[j]? = W3.heap[j]? := fun j hj hn => g.block j hj (fun e => hn e.symm)
  have hi : ∀ j, j < b0 + 2 → ve.ownBlock ≠ some j := fun j hj e => by have := (World.ownsRow.lt h3.en j e).1; omega
  have nb2 : Blk W2 (b0 + 1) 25 (rcells 0 ev b0 va ve) := (kp _ (by omega) (hi _ (by omega))).trans h3.nb
  refine ⟨nb2, (h3.low.grown g (by omega) (fun j hj => Nat.le_trans (by omega) (World.ownsRow.lt h3.en j hj).1)).setCell (p := ⟨b0 + 1, 4, none⟩) (show b0 ≤ b0 + 1 by omega) _, Blk.other ((kp _ (by omega) (hi _ (by omega))).trans h3.s0) (by omega) _, nb2.set 4 ve', ownsRow_set (own_same h3.fd (fun k hk => kp k (World.ownsRow.lt h3.fd k hk).2 (fun e => h.ap k hk e))) (by omega) ve', ownsRow_set (own_same h3.ar (fun k hk => kp k (World.ownsRow.lt h3.ar k hk).2 (fun e => ?_))) (by omega) ve', ownsRow_set o1 (by omega) ve', fun q e1 e2 => ?_, ?_⟩
  · rcases own_apart h3.en h3.ar (by decide) with r | r
    · rw [r] at e; cases e
    · exact r (e.trans hk.symm)
  · rcases fr with f | f
    · rw [f] at e2; exact h.ap q e1 e2
    · rw [f] at e2
      have := (World.ownsRow.lt h3.fd q e1).2
      have := Option.some.inj e2
      omega
  · have := g.size
    simp [World.setCell]; omega
theorem LN.pushA {W2 W3 : World} {va' : Value} {x : Arr} (h : LN X0 W b0 ev v8 va ve F A E) (hW3 : Below W.heap.size W W3) (o1 : OwnA W2 (b0 + 2) va' (A ++ [x])) (g : W3.grownBy W2 va.ownBlock) :
    Blk W2 (b0 + 1) 25 (rcells 0 ev b0 va ve) ∧ LN X0 (W2.setCell ⟨b0 + 1, 3, none⟩ va') b0 ev v8 va' ve F (A ++ [x]) E := by
  have h3 := h.below hW3
  have hB := h3.hB
  have kp : ∀ j, j < W3.heap.size → va.ownBlock ≠ some j → W2.heap[j]? = W3.heap[j]? := fun j hj hn => g.block j hj (fun e => hn e.symm)
  have hi : ∀ j, j < b0 + 2 → va.ownBlock ≠ some j := fun j hj e => by have := (World.ownsRow.lt h3.ar j e).1; omega
  have nb2 : Blk W2 (b0 + 1) 25 (rcells 0 ev b0 va ve) := (kp _ (by omega) (hi _ (by omega))).trans h3.nb
  have apart : ∀ {v : Value} {L : List Int}, Own W3 (b0 + 2) v L → ∀ k, v.ownBlock = some k → va.ownBlock ≠ some k := fun {v L} ho k hk e => by
    rcases own_apart h3.ar ho (by decide) with r | r
    · rw [r] at e; cases e
    · exact r (e.trans hk.symm)
  refine ⟨nb2, (h3.low.grown g (by omega) (fun j hj => Nat.le_trans (by omega) (World.ownsRow.lt h3.ar j hj).1)).setCell (p := ⟨b0 + 1, 3, none⟩) (show b0 ≤ b0 + 1 by omega) _, Blk.other ((kp _ (by omega) (hi _ (by omega))).trans h3.s0) (by omega) _, nb2.set 3 va', ownsRow_set (own_same h3.fd (fun k hk => kp k (World.ownsRow.lt h3.fd k hk).2 (apart h3.fd k hk))) (by omega) va', ownsRow_set o1 (by omega) va', ownsRow_set (own_same h3.en (fun k hk => kp k (World.ownsRow.lt h3.en k hk).2 (apart h3.en k hk))) (by omega) va', h.ap, ?_⟩
  have := g.size
  simp [World.setCell]; omega
end

/-- The least machine of m's language. -/
def IsLeast (m M : Mach) : Prop := ∀ inst : DecidableEq Lang, M = leastM (langM m) m.ev.toNat

/-! The loop over what is told apart. -/
theorem lFind_le (ap : Int → Int → Bool) : ∀ (L : List Int) (t : Int), lFind ap L t ≤ L.length
  | [], _ => Nat.le_refl _
  | a :: r, t => by
    unfold lFind; split
    · have := lFind_le ap r t; simp; omega
    · simp
theorem lFind_hit {ap : Int → Int → Bool} : ∀ {L : List Int} {t : Int} {n : Nat} {x : Int}, (∀ (j : Nat) (y : Int), j < n → L[j]? = some y → ap y t = true) → L[n]? = some x → ap x t = false → lFind ap L t = n
  | [], t, n, x, _, h, _ => by simp at h
  | a :: r, t, 0, x, _, h, hx => by
    have : a = x := by simpa using h
    subst this
    unfold lFind; rw [if_neg (by rw [hx]; simp)]
  | a :: r, t, n + 1, x, hl, h, hx => by
    unfold lFind
    rw [if_pos (hl 0 a (by omega) rfl), lFind_hit (L := r) (n := n) (x := x) (fun j y hj hy => hl (j + 1) y (by omega) (by simpa using hy)) (by simpa using h) hx]
theorem lFind_end {ap : Int → Int → Bool} : ∀ {L : List Int} {t : Int}, (∀ (j : Nat) (y : Int), L[j]? = some y → ap y t = true) → lFind ap L t = L.length
  | [], t, _ => rfl
  | a :: r, t, hl => by
    unfold lFind
    rw [if_pos (hl 0 a rfl), lFind_end (L := r) (fun j y hy => hl (j + 1) y (by simpa using hy)), List.length_cons]
theorem endsG_take {σ : Type} (fin : σ → Bool) : ∀ (L : List σ) (k : Nat) (j : Nat) {x : σ}, L[j]? = some x → endsG fin k (L.take (j + 1)) = endsG fin k (L.take j) ++ (if fin x = true then [((k + j : Nat) : Int)] else [])
  | [], k, j, x, h => by simp at h
  | a :: r, k, 0, x, h => by
    have : a = x := by simpa using h
    subst this
    simp only [List.take_succ_cons, List.take_zero, endsG, Nat.add_zero]
    split <;> simp
  | a :: r, k, j + 1, x, h => by
    have := endsG_take fin r (k + 1) j (x := x) (by simpa using h)
    simp only [List.take_succ_cons, endsG]
    rw [this, show k + 1 + j = k + (j + 1) by omega]
    split <;> simp
theorem endsG_len {σ : Type} (fin : σ → Bool) : ∀ (k : Nat) (L : List σ), (endsG fin k L).length ≤ L.length
  | _, [] => Nat.le_refl _
  | k, a :: r => by
    have := endsG_len fin (k + 1) r
    unfold endsG; split <;> simp <;> omega
theorem endsG_pre {σ : Type} (fin : σ → Bool) (k : Nat) {L M t : List σ} (h : M = L ++ t) (j : Nat) (hj : j ≤ L.length) : endsG fin k (M.take j) = endsG fin k (L.take j) := by
  rw [h, List.take_append_of_le_length hj]

end Go.Proofs.YtkkkacmccndinaaDoor
namespace Go.Proofs.YtkkkacmccndinaaDoor
open Go.RowKit
set_option linter.unusedVariables false

/-- n arrows have been laid. -/
structure LX (m D : Mach) (ev n : Nat) (s : LS) : Prop where
  g : ∀ [DecidableEq Lang], ∃ g : GS Lang, LR D s g ∧ GI langD (langM m) ev n g
section
variable {m D : Mach} {ev n : Nat} {s : LS}
theorem LX.bd (h : LX m D ev n s) : ∀ x ∈ s.fd, 0 ≤ x ∧ x < D.st := by
  letI : DecidableEq Lang := fun a b => Classical.propDecidable _
  obtain ⟨g, h1, -⟩ := h.g
  exact h1.bd
theorem LX.len (hm : mayB m = true) (zm : m.st ≤ 6) (he : m.ev = (ev : Int)) (h : LX m D ev n s) : s.fd.length ≤ 64 := by
  letI : DecidableEq Lang := fun a b => Classical.propDecidable _
  obtain ⟨g, h1, h2⟩ := h.g
  rw [← h1.len]; exact least_bound hm zm he h2
theorem LX.al (h : LX m D ev n s) : s.ar.length = n := by
  letI : DecidableEq Lang := fun a b => Classical.propDecidable _
  obtain ⟨g, h1, h2⟩ := h.g
  rw [← h1.ar]; exact h2.len
theorem LX.start (hL : langM m = langS D [0]) (h0 : 0 < D.st) : LX m D ev (0 * ev) ⟨[0], []⟩ :=
  ⟨by
    intro inst
    exact ⟨⟨[langM m], []⟩, ⟨by rw [hL]; rfl, rfl, fun x hx => (by rcases List.mem_singleton.1 hx with rfl; exact ⟨by omega, h0⟩)⟩, gi_start _ _ _⟩⟩
theorem LX.step {ap : Int → Int → Bool} (hd : detB D = true) (hap : ∀ s t : Int, 0 ≤ s → s < D.st → 0 ≤ t → t < D.st → (ap s t = true ↔ langS D [s] ≠ langS D [t])) (hD : D.ev = (ev : Int)) {k e : Nat} (h : LX m D ev (k * ev + e) s) (hk : k < s.fd.length) (he : e < ev) : LX m D ev (k * ev + (e + 1)) (lStp D.arrows ap k s e) :=
  ⟨by
    intro inst
    obtain ⟨g, h1, h2⟩ := h.g
    exact ⟨_, lr_step hd hap h1 hk (by omega), gi_step _ h2 (by rw [h1.len]; exact hk) he⟩⟩
theorem LX.row {ap : Int → Int → Bool} (hd : detB D = true) (hap : ∀ s t : Int, 0 ≤ s → s < D.st → 0 ≤ t → t < D.st → (ap s t = true ↔ langS D [s] ≠ langS D [t])) (hD : D.ev = (ev : Int)) {k : Nat} (h : LX m D ev (k * ev) s) (hk : k < s.fd.length) : ∀ e, e ≤ ev → LX m D ev (k * ev + e) (lRow D.arrows ap k s e)
  | 0, _ => h
  | e + 1, he => by
    rw [lRow_succ]
    letI : DecidableEq Lang := fun a b => Classical.propDecidable _
    obtain ⟨t, ht⟩ := lRow_pre (ap := ap) D.arrows k s e
    exact LX.step hd hap hD (LX.row hd hap hD h hk e (by omega)) (by rw [ht, List.length_append]; omega) (by omega)
end

/-- What is left of the search. -/
theorem lGo_next {D : List Arr} {ap : Int → Int → Bool} {ev f k : Nat} {s : LS} (h : k < s.fd.length) (hf : 0 < f) : lGo D ap ev f k s = lGo D ap ev (f - 1) (k + 1) (lRow D ap k s ev) := by
  obtain ⟨f, rfl⟩ : ∃ g, f = g + 1 := ⟨f - 1, by omega⟩
  rw [lGo, if_pos h]; rfl
theorem lGo_end {D : List Arr} {ap : Int → Int → Bool} {ev f k : Nat} {s : LS} (h : ¬ k < s.fd.length) : lGo D ap ev f k s = s := by
  cases f with
  | zero => rfl
  | succ f => rw [lGo, if_neg h]

end Go.Proofs.YtkkkacmccndinaaDoor
namespace Go.Proofs.YtkkkacmccndinaaDoor
open Go.RowKit

set_option maxHeartbeats 400000 in
theorem refHas_some (b off cap : Nat) (xs : List Int) (n : Int) (w : World) (hl : xs.length ≤ 9223372036854775807) (hc : Cells w b off xs) :
    Calls Tryd.prog 76 #[.slice (some ⟨b, off, none⟩) xs.length cap, .int .i64 n] w fun e w' => e = .returned (.bool (hasB xs n)) ∧ w' = w := by
  go_enter Tryd.func76, Tryd.ntmps76
  go_wp2
  go_loop [5] (fun i => ∃ k : Nat, k ≤ xs.length ∧ i = .int .i64 k ∧ Hid (hasB xs n = hasB (xs.drop k) n)) (fun i => xs.length - (intOf i).toNat)
  case atStart => exact ⟨0, Nat.zero_le _, rfl, rfl⟩
  case round =>
    obtain ⟨k, hk, rfl, he⟩ := hrel
    by_cases hlt : k < xs.length
    · obtain ⟨x, HX, hcell⟩ := hc.at hlt
      go_wp2
      · go_ret
        exact ⟨ret_bool (has_hit hlt he HX (by assumption)), rfl⟩
      · go_round
        case rel => exact ⟨k + 1, by omega, by go_num, has_miss hlt he HX (by assumption)⟩
        case measure => simp [intOf]; omega
    · go_wp2
      go_ret
      exact ⟨ret_bool (has_end hlt he), rfl⟩

set_option maxHeartbeats 400000 in
theorem refHas_nil (a : Option Addr) (cap : Nat) (n : Int) (w : World) :
    Calls Tryd.prog 76 #[.slice a 0 cap, .int .i64 n] w fun e w' => e = .returned (.bool false) ∧ w' = w := by
  go_enter Tryd.func76, Tryd.ntmps76
  go_wp2
  refine wp_loop_rounds 1 ?_
  rw [rounds_succ]
  go_wp2
  go_ret
  exact ⟨rfl, rfl⟩

theorem refHas_any (a : Option Addr) (cap : Nat) (xs : List Int) (n : Int) (w : World) (hs : At w a xs) (hl : xs.length ≤ maxLen) :
    Calls Tryd.prog 76 #[.slice a xs.length cap, .int .i64 n] w fun e w' => e = .returned (.bool (hasB xs n)) ∧ w' = w := by
  rcases hs with rfl | ⟨b, off, rfl, -, hc⟩
  · exact refHas_nil a cap n w
  · exact refHas_some b off cap xs n w hl hc

end Go.Proofs.YtkkkacmccndinaaDoor
namespace Go.Proofs.YtkkkacmccndinaaDoor
open Go.RowKit
set_option linter.unusedVariables false

/-- Are two lists one? (A function of our own, which the walk leaves as it stands.) -/
def sameB (xs ys : List Int) : Bool := xs == ys

theorem same_len {xs ys : List Int} (h : ¬ xs.length = ys.length) : false = sameB xs ys := by
  rw [sameB, eq_comm, beq_eq_false_iff_ne]; intro e; exact h (by rw [e])
theorem same_no {xs ys : List Int} {k : Nat} {x y : Int} (hx : Hid (x = xs[k]?.getD 0)) (hy : Hid (y = ys[k]?.getD 0)) (h : ¬ x = y) : false = sameB xs ys := by
  rw [sameB, eq_comm, beq_eq_false_iff_ne]; intro e; exact h (by rw [hx.out, hy.out, e])
theorem same_yes {xs ys : List Int} {k : Nat} {x y : Int} (h1 : k < xs.length) (h2 : k < ys.length) (hx : Hid (x = xs[k]?.getD 0)) (hy : Hid (y = ys[k]?.getD 0)) (h : x = y) (e : Hid (xs.take k = ys.take k)) : Hid (xs.take (k + 1) = ys.take (k + 1)) := by
  show xs.take (k + 1) = ys.take (k + 1)
  rw [List.take_add_one, List.take_add_one, e.out]
  have hx := hx.out; have hy := hy.out
  rw [List.getElem?_eq_getElem h1] at hx ⊢
  rw [List.getElem?_eq_getElem h2] at hy ⊢
  simp only [Option.getD_some] at hx hy
  rw [← hx, ← hy, h]
theorem same_end {xs ys : List Int} {k : Nat} (hl : xs.length = ys.length) (h : ¬ k < xs.length) (e : Hid (xs.take k = ys.take k)) : true = sameB xs ys := by
  have e := e.out
  rw [List.take_of_length_le (by omega), List.take_of_length_le (by omega)] at e
  subst e; simp [sameB]

set_option maxHeartbeats 400000 in
theorem same_ne (a b : Option Addr) (ca cb : Nat) (xs ys : List Int) (w : World) (hne : ¬ xs.length = ys.length) (hl : xs.length ≤ 9223372036854775807) (hm : ys.length ≤ 9223372036854775807) :
    Calls Tryd.prog 20 #[.slice a xs.length ca, .slice b ys.length cb] w fun e w' => e = .returned (.bool (sameB xs ys)) ∧ ∃ q, w' = w.drewN q := by
  have hb : ((xs.length : Int) != (ys.length : Int)) = true := by rw [bne_iff_ne]; omega
  go_enter Tryd.func20, Tryd.ntmps20
  go_wp2
  go_ret
  exact ⟨ret_bool (same_len hne), 0, rfl⟩

set_option maxHeartbeats 1000000 in
theorem same_eq (ba oa ca bb ob cb : Nat) (xs ys : List Int) (w : World) (hlen : Hid (xs.length = ys.length)) (hl : xs.length ≤ 9223372036854775807) (hca : Cells w ba oa xs) (hcb : Cells w bb ob ys) :
    Calls Tryd.prog 20 #[.slice (some ⟨ba, oa, none⟩) xs.length ca, .slice (some ⟨bb, ob, none⟩) ys.length cb] w fun e w' => e = .returned (.bool (sameB xs ys)) ∧ ∃ q, w' = w.drewN q := by
  have hm : ys.length ≤ 9223372036854775807 := by have := hlen.out; omega
  have hb : ((xs.length : Int) != (ys.length : Int)) = false := by have := hlen.out; simp; omega
  go_enter Tryd.func20, Tryd.ntmps20
  go_wp2
  go_loopw [5] (fun i wr => ∃ k q : Nat, k ≤ xs.length ∧ i = .int .i64 k ∧ wr = w.drewN q ∧ Hid (xs.take k = ys.take k)) (fun i _ => xs.length - (intOf i).toNat)
  case atStart => exact ⟨0, 0, Nat.zero_le _, rfl, rfl, rfl⟩
  case round =>
    obtain ⟨k, q, hk, rfl, rfl, he⟩ := hrel
    by_cases hlt : k < xs.length
    · have hlt2 : k < ys.length := by have := hlen.out; omega
      obtain ⟨x, HX, hcx⟩ := hca.at hlt
      obtain ⟨y, HY, hcy⟩ := hcb.at hlt2
      by_cases hxy : x = y
      · have HXY : Hid (x = y) := hxy
        have d : (x != y) = false := by simp [hxy]
        clear hxy
        go_wp2
        go_quiet (fail)
        go_wp2
        go_roundw
        case rel => exact ⟨k + 1, _, by omega, by go_num, rfl, same_yes hlt hlt2 HX HY HXY.out he⟩
        case measure => simp [intOf]; omega
      · have d : (x != y) = true := by simp [hxy]
        go_wp2
        go_quiet (fail)
        go_wp2
        go_ret
        exact ⟨ret_bool (same_no HX HY hxy), _, World.drewN_drewN _ _ _⟩
    · go_wp2
      go_ret
      exact ⟨ret_bool (same_end hlen.out hlt he), q, rfl⟩

set_option maxHeartbeats 400000 in
theorem same_nil (a b : Option Addr) (ca cb : Nat) (w : World) :
    Calls Tryd.prog 20 #[.slice a 0 ca, .slice b 0 cb] w fun e w' => e = .returned (.bool true) ∧ ∃ q, w' = w.drewN q := by
  go_enter Tryd.func20, Tryd.ntmps20
  go_wp2
  refine wp_loop_rounds 1 ?_
  rw [rounds_succ]
  go_wp2
  go_ret
  exact ⟨rfl, 0, rfl⟩

theorem same_any (a b : Option Addr) (ca cb : Nat) (xs ys : List Int) (w : World) (hs : At w a xs) (ht : At w b ys) (hl : xs.length ≤ maxLen) (hm : ys.length ≤ maxLen) :
    Calls Tryd.prog 20 #[.slice a xs.length ca, .slice b ys.length cb] w fun e w' => e = .returned (.bool (sameB xs ys)) ∧ ∃ q, w' = w.drewN q := by
  by_cases hne : xs.length = ys.length
  · rcases hs with rfl | ⟨ba, oa, rfl, -, hca⟩
    · have : ys = [] := List.eq_nil_of_length_eq_zero (by simpa using hne.symm)
      subst this
      exact same_nil a b ca cb w
    · rcases ht with rfl | ⟨bb, ob, rfl, -, hcb⟩
      · have : xs = [] := List.eq_nil_of_length_eq_zero (by simpa using hne)
        subst this
        exact same_nil _ b ca cb w
      · exact same_eq ba oa ca bb ob cb xs ys w hne hl hca hcb
  · exact same_ne a b ca cb xs ys w hne hl hm

end Go.Proofs.YtkkkacmccndinaaDoor
