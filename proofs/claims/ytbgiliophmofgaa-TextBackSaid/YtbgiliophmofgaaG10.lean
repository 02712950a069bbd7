/-
  Plain: the project, as it is made of a text's parts. No program, no model.
  The walks of slices.Index and Contains at lists of strings, strings.Clone, text.list, text.finder and its closure.
  The walk of text.shortest.
  The walk of text.rowOf.
-/
import Derived.Test.YtbgiliophmofgaaG07
import Derived.Test.YtbgiliophmofgaaG05
import Derived.Test.YtbgiliophmofgaaG08
import Derived.Test.YtbgiliophmofgaaG01
import Derived.Test.YtbgiliophmofgaaG03
namespace Go.Proofs.Ytbgiliophmofgaa
open Go.RowKit
set_option linter.unusedVariables false

/-- The names of a part that are to be numbered. -/
def listL (most : Nat) : List Str → List Tok → Except (Int × Nat) (List Str)
  | l, [] => .ok l
  | l, t :: r => (psNames most l t).bind fun l' => listL most l' r
/-- The row of a part's names. -/
def rowL (names : List Str) : List Int → List Tok → Except (Int × Nat) (List Int)
  | l, [] => .ok l
  | l, t :: r => match plcS names t.text with
    | none => .error (4, t.pos)
    | some n => if (n : Int) ∈ l then .error (5, t.pos) else rowL names (ins (n : Int) l) r
def numLT (names : List Str) (t : Tok) : Except (Int × Nat) Nat := match plcS names t.text with
  | none => .error (4, t.pos)
  | some n => .ok n
/-- Whether an arrow is there. -/
def hasA (l : List Arr) (a b c : Int) : Bool := l.any fun x => decide (x.f = a ∧ x.e = b ∧ x.t = c)
def arr1L (ss es : List Str) (l : List Arr) (x : Thr) : Except (Int × Nat) (List Arr) :=
  (numLT ss x.1).bind fun a => (numLT es x.2.1).bind fun b => (numLT ss x.2.2).bind fun c => if hasA l a b c = true then .error (5, x.1.pos) else .ok (insA ⟨(a : Int), (b : Int), (c : Int)⟩ l)
def arrL (ss es : List Str) : List Arr → List Thr → Except (Int × Nat) (List Arr)
  | l, [] => .ok l
  | l, x :: r => (arr1L ss es l x).bind fun l' => arrL ss es l' r
/-- The project. -/
def prjL (P : List (List Tok)) (ts : List Thr) : Except (Int × Nat) Proj :=
  (listL 6 [] (P[0]?.getD [])).bind fun S => (listL 8 [] (P[1]?.getD [])).bind fun E =>
  (rowL E [] (P[2]?.getD [])).bind fun r2 => (rowL E [] (P[3]?.getD [])).bind fun r3 => (rowL E [] (P[4]?.getD [])).bind fun r4 =>
  (rowL S [] (P[5]?.getD [])).bind fun r5 => (rowL S [] (P[6]?.getD [])).bind fun r6 => (rowL S [] (P[7]?.getD [])).bind fun r7 =>
  (arrL S E [] ts).bind fun A => .ok ⟨S, E, ⟨S.length, E.length, r6, A, r7⟩, r2, r3, r4, r5⟩
theorem part_cons (k : Nat) (q : Ps) (t : Tok) (r : List Tok) : psPart k q (t :: r) = (psStep q (k : Int) t).bind fun q' => psPart k q' r := by
  unfold psPart
  rw [List.map_cons, psGo]
  cases psStep q (k : Int) t <;> rfl
theorem list_states : ∀ (ns : List Tok) (q : Ps), psPart 0 q ns = (listL 6 q.states ns).bind fun l => .ok { q with states := l }
  | [], q => rfl
  | t :: r, q => by
    rw [part_cons, listL]
    show ((psNames 6 q.states t).map fun l => { q with states := l }).bind _ = _
    cases psNames 6 q.states t with
    | error e => rfl
    | ok l => exact list_states r _
theorem list_events : ∀ (ns : List Tok) (q : Ps), psPart 1 q ns = (listL 8 q.events ns).bind fun l => .ok { q with events := l }
  | [], q => rfl
  | t :: r, q => by
    rw [part_cons, listL]
    show ((psNames 8 q.events t).map fun l => { q with events := l }).bind _ = _
    cases psNames 8 q.events t with
    | error e => rfl
    | ok l => exact list_events r _
/-- Which names a row is of. -/
def namesK (q : Ps) (k : Nat) : List Str := if k < 5 then q.events else q.states
/-- A row, in whatever order it has been told. -/
def PutRow (q : Ps) (k : Nat) (l : List Int) (q' : Ps) : Prop := ∃ l', srt l' = l ∧ q' = { q with rows := fun j => if j = k then l' else q.rows j }
theorem put_same (q : Ps) (k : Nat) : { q with rows := fun j => if j = k then q.rows k else q.rows j } = q := by
  have : (fun j => if j = k then q.rows k else q.rows j) = q.rows := by
    funext j
    by_cases e : j = k
    · rw [if_pos e, e]
    · rw [if_neg e]
  rw [this]
theorem row_part {k : Nat} (h2 : 2 ≤ k) (h8 : k < 8) : ∀ (ns : List Tok) (q : Ps), match rowL (namesK q k) (srt (q.rows k)) ns with
    | .error e => psPart k q ns = .error e
    | .ok l => ∃ q', psPart k q ns = .ok q' ∧ PutRow q k l q'
  | [], q => ⟨q, rfl, q.rows k, rfl, (put_same q k).symm⟩
  | t :: r, q => by
    have hn : (if (k : Int) < 5 ∨ ((k : Int) = 8 ∧ q.three.length = 1) then q.events else q.states) = namesK q k := by
      unfold namesK
      by_cases h5 : k < 5
      · rw [if_pos h5, if_pos (.inl (by omega))]
      · rw [if_neg h5, if_neg (by omega)]
    rw [part_cons, rowL]
    cases hp : plcS (namesK q k) t.text with
    | none =>
      dsimp only
      rw [ps_none (by omega) (by rw [hn]; exact hp)]
      rfl
    | some n =>
      dsimp only
      by_cases hm : (n : Int) ∈ srt (q.rows k)
      · rw [if_pos hm]
        dsimp only
        rw [ps_row_twice (by omega) (by omega) (by rw [hn]; exact hp) (by rw [Int.toNat_natCast]; exact (mem_srt _ _).1 hm)]
        rfl
      · rw [if_neg hm]
        rw [ps_row_ok (by omega) (by omega) (by rw [hn]; exact hp) (by rw [Int.toNat_natCast]; exact fun h => hm ((mem_srt _ _).2 h))]
        rw [Int.toNat_natCast]
        obtain ⟨q1, hq1⟩ : ∃ q1 : Ps, q1 = { q with rows := fun j => if j = k then q.rows k ++ [(n : Int)] else q.rows j } := ⟨_, rfl⟩
        rw [← hq1]
        have e1 : q1.rows k = q.rows k ++ [(n : Int)] := by rw [hq1]; exact if_pos rfl
        have e2 : namesK q1 k = namesK q k := by rw [hq1]; rfl
        have ih := row_part h2 h8 r q1
        rw [e1, e2, srt_snoc] at ih
        show match rowL (namesK q k) (ins (n : Int) (srt (q.rows k))) r with | .error e => psPart k q1 r = .error e | .ok l => ∃ q', psPart k q1 r = .ok q' ∧ PutRow q k l q'
        cases hz : rowL (namesK q k) (ins (n : Int) (srt (q.rows k))) r with
        | error e => rw [hz] at ih; exact ih
        | ok l =>
          rw [hz] at ih
          obtain ⟨q', i1, l', i2, i3⟩ := ih
          refine ⟨q', i1, l', i2, ?_⟩
          rw [i3, hq1]
          congr 1
          funext j
          by_cases e : j = k
          · rw [if_pos e, if_pos e]
          · rw [if_neg e, if_neg e]
            exact if_neg e
theorem has_srt (A : List Arr) (a b c : Int) : hasA (srtA A) a b c = hasA A a b c := by
  unfold hasA
  rw [Bool.eq_iff_iff, List.any_eq_true, List.any_eq_true]
  constructor
  · rintro ⟨x, h1, h2⟩; exact ⟨x, (mem_srtA _ _).1 h1, h2⟩
  · rintro ⟨x, h1, h2⟩; exact ⟨x, (mem_srtA _ _).2 h1, h2⟩
theorem srtA_snoc (A : List Arr) (x : Arr) : srtA (A ++ [x]) = insA x (srtA A) := by simp [srtA, List.foldl_append]
theorem ps_name {q : Ps} {t : Tok} (ns : List Str) (h : (if (8 : Int) < 5 ∨ ((8 : Int) = 8 ∧ q.three.length = 1) then q.events else q.states) = ns) : psStep q 8 t = (numLT ns t).bind fun n => psArr q (n : Int) t.pos := by
  unfold numLT
  cases hp : plcS ns t.text with
  | none => rw [ps_none (by omega) (by rw [h]; exact hp)]; rfl
  | some n => rw [ps_arr_go (by rw [h]; exact hp)]; rfl
/-- Arrows, in whatever order they have been told. -/
def PutArr (q : Ps) (l : List Arr) (q' : Ps) : Prop := ∃ A f, srtA A = l ∧ q' = { q with three := [], first := f, arrows := A }
theorem thr_one {q : Ps} (h : q.three = []) (x : Thr) : match arr1L q.states q.events (srtA q.arrows) x with
    | .error e => psGo q [(8, x.1), (8, x.2.1), (8, x.2.2)] = .error e
    | .ok l => ∃ q', psGo q [(8, x.1), (8, x.2.1), (8, x.2.2)] = .ok q' ∧ PutArr q l q' := by
  obtain ⟨a, b, c⟩ := x
  dsimp only
  unfold arr1L
  have s1 := ps_name (q := q) (t := a) q.states (by rw [if_neg]; rw [h]; simp)
  cases ha : numLT q.states a with
  | error e =>
    rw [ha] at s1
    have s1 : psStep q 8 a = .error e := s1
    show psGo q _ = .error e
    rw [psGo, s1]
  | ok na =>
    rw [ha] at s1
    have s1 : psStep q 8 a = psArr q (na : Int) a.pos := s1
    have p1 : psArr q (na : Int) a.pos = .ok { q with three := [(na : Int)], first := a.pos } := by
      unfold psArr
      rw [h]; rfl
    rw [p1] at s1
    obtain ⟨q1, hq1⟩ : ∃ q1 : Ps, q1 = { q with three := [(na : Int)], first := a.pos } := ⟨_, rfl⟩
    rw [← hq1] at s1
    have t1 : q1.three = [(na : Int)] := by rw [hq1]
    have f1 : q1.first = a.pos := by rw [hq1]
    have s2 := ps_name (q := q1) (t := b) q.events (by rw [if_pos (.inr ⟨rfl, by rw [t1]; rfl⟩), hq1])
    show match ((numLT q.events b).bind _ : Except (Int × Nat) (List Arr)) with | .error e => _ | .ok l => _
    cases hb : numLT q.events b with
    | error e =>
      rw [hb] at s2
      have s2 : psStep q1 8 b = .error e := s2
      show psGo q _ = .error e
      rw [psGo, s1]
      show psGo q1 _ = .error e
      rw [psGo, s2]
    | ok nb =>
      rw [hb] at s2
      have s2 : psStep q1 8 b = psArr q1 (nb : Int) b.pos := s2
      have p2 : psArr q1 (nb : Int) b.pos = .ok { q1 with three := [(na : Int), (nb : Int)], first := a.pos } := by
        unfold psArr
        rw [t1]
        show Except.ok { q1 with three := [(na : Int), (nb : Int)], first := if [(na : Int)] = [] then b.pos else q1.first } = _
        rw [if_neg (by simp), f1]
      rw [p2] at s2
      obtain ⟨q2, hq2⟩ : ∃ q2 : Ps, q2 = { q1 with three := [(na : Int), (nb : Int)], first := a.pos } := ⟨_, rfl⟩
      rw [← hq2] at s2
      have t2 : q2.three = [(na : Int), (nb : Int)] := by rw [hq2]
      have f2 : q2.first = a.pos := by rw [hq2]
      have a2 : q2.arrows = q.arrows := by rw [hq2, hq1]
      have s3 := ps_name (q := q2) (t := c) q.states (by rw [if_neg (by rw [t2]; simp), hq2, hq1])
      show match ((numLT q.states c).bind _ : Except (Int × Nat) (List Arr)) with | .error e => _ | .ok l => _
      cases hc : numLT q.states c with
      | error e =>
        rw [hc] at s3
        have s3 : psStep q2 8 c = .error e := s3
        show psGo q _ = .error e
        rw [psGo, s1]
        show psGo q1 _ = .error e
        rw [psGo, s2]
        show psGo q2 _ = .error e
        rw [psGo, s3]
      | ok nc =>
        rw [hc] at s3
        have s3 : psStep q2 8 c = psArr q2 (nc : Int) c.pos := s3
        have hgo : ∀ X, psStep q2 8 c = X → psGo q [(8, a), (8, b), (8, c)] = X := fun X hX => by
          rw [psGo, s1]
          show psGo q1 _ = X
          rw [psGo, s2]
          show psGo q2 _ = X
          rw [psGo, hX]
          cases X <;> rfl
        have p3 : psArr q2 (nc : Int) c.pos = if hasA q.arrows na nb nc = true then .error (5, a.pos) else .ok { q2 with three := [], first := a.pos, arrows := q.arrows ++ [⟨(na : Int), (nb : Int), (nc : Int)⟩] } := by
          unfold psArr
          rw [t2]
          show (if q2.arrows.any (fun x => decide (x.f = (na : Int) ∧ x.e = (nb : Int) ∧ x.t = (nc : Int))) = true then (Except.error (5, if [(na : Int), (nb : Int)] = [] then c.pos else q2.first) : Except (Int × Nat) Ps) else .ok { q2 with three := [], first := if [(na : Int), (nb : Int)] = [] then c.pos else q2.first, arrows := q2.arrows ++ [(⟨(na : Int), (nb : Int), (nc : Int)⟩ : Arr)] }) = _
          have hne : ([(na : Int), (nb : Int)] = []) = False := by simp
          simp only [hne, if_false]
          rw [f2, a2]
          rfl
        show match (if hasA (srtA q.arrows) na nb nc = true then Except.error (5, a.pos) else Except.ok (insA ⟨(na : Int), (nb : Int), (nc : Int)⟩ (srtA q.arrows)) : Except (Int × Nat) (List Arr)) with | .error e => _ | .ok l => _
        rw [has_srt]
        by_cases hh : hasA q.arrows na nb nc = true
        · rw [if_pos hh] at p3 ⊢
          exact hgo _ (s3.trans p3)
        · rw [if_neg hh] at p3 ⊢
          refine ⟨_, hgo _ (s3.trans p3), q.arrows ++ [⟨(na : Int), (nb : Int), (nc : Int)⟩], a.pos, srtA_snoc _ _, ?_⟩
          rw [hq2, hq1]
theorem thr_all : ∀ (ts : List Thr) (q : Ps), q.three = [] → match arrL q.states q.events (srtA q.arrows) ts with
    | .error e => psThr q ts = .error e
    | .ok l => ∃ q', psThr q ts = .ok q' ∧ PutArr q l q'
  | [], q, h => ⟨q, rfl, q.arrows, q.first, rfl, by rw [← h]⟩
  | x :: r, q, h => by
    have h1 := thr_one h x
    obtain ⟨a, b, c⟩ := x
    unfold arrL
    rw [psThr]
    cases hx : arr1L q.states q.events (srtA q.arrows) (a, b, c) with
    | error e =>
      rw [hx] at h1
      have h1 : psGo q [(8, a), (8, b), (8, c)] = .error e := h1
      show Except.bind (psGo q [(8, a), (8, b), (8, c)]) _ = .error e
      rw [h1]; rfl
    | ok l =>
      rw [hx] at h1
      obtain ⟨q1, i1, A, f, i2, i3⟩ := h1
      have i1 : psGo q [(8, a), (8, b), (8, c)] = .ok q1 := i1
      rw [i1]
      have e1 : q1.states = q.states := by rw [i3]
      have e2 : q1.events = q.events := by rw [i3]
      have e3 : srtA q1.arrows = l := by rw [i3]; exact i2
      have ih := thr_all r q1 (by rw [i3])
      rw [e1, e2, e3] at ih
      show match arrL q.states q.events l r with | .error e => psThr q1 r = .error e | .ok l => ∃ q', psThr q1 r = .ok q' ∧ PutArr q l q'
      cases hz : arrL q.states q.events l r with
      | error e => rw [hz] at ih; exact ih
      | ok l2 =>
        rw [hz] at ih
        obtain ⟨q', j1, A', f', j2, j3⟩ := ih
        exact ⟨q', j1, A', f', j2, by rw [j3, i3]⟩

/-- What is known of a project as it is made. -/
structure StP (S E : List Str) (R : Nat → List Int) (q : Ps) : Prop where
  s : q.states = S
  e : q.events = E
  r : ∀ j, srt (q.rows j) = R j
  t : q.three = []
  a : q.arrows = []
theorem row_step {k : Nat} (h2 : 2 ≤ k) (h8 : k < 8) {S E : List Str} {R : Nat → List Int} {q : Ps} (h : StP S E R q) (ns : List Tok) : match rowL (if k < 5 then E else S) (R k) ns with
    | .error e => psPart k q ns = .error e
    | .ok l => ∃ q', psPart k q ns = .ok q' ∧ StP S E (fun j => if j = k then l else R j) q' := by
  have hp := row_part h2 h8 ns q
  have e1 : namesK q k = if k < 5 then E else S := by unfold namesK; rw [h.s, h.e]
  rw [e1, h.r k] at hp
  cases hz : rowL (if k < 5 then E else S) (R k) ns with
  | error e => rw [hz] at hp; exact hp
  | ok l =>
    rw [hz] at hp
    obtain ⟨q', i1, l', i2, i3⟩ := hp
    refine ⟨q', i1, by rw [i3]; exact h.s, by rw [i3]; exact h.e, fun j => ?_, by rw [i3]; exact h.t, by rw [i3]; exact h.a⟩
    rw [i3]
    show srt (if j = k then l' else q.rows j) = if j = k then l else R j
    by_cases e : j = k
    · rw [if_pos e, if_pos e]; exact i2
    · rw [if_neg e, if_neg e]; exact h.r j
def outE (x : Except (Int × Nat) Proj) : Proj × Int × Nat := match x with
  | .error e => (proj0, e)
  | .ok p => (p, 0, 0)
theorem eight_parts {P : List (List Tok)} (h : P.length = 8) : ∃ a b c d e f g i, P = [a, b, c, d, e, f, g, i] := by
  match P, h with
  | [a, b, c, d, e, f, g, i], _ => exact ⟨a, b, c, d, e, f, g, i, rfl⟩
theorem prj_all {P : List (List Tok)} (h : P.length = 8) (ts : List Thr) : (match (psParts 0 ps0 P).bind fun q => psThr q ts with
      | .error e => (proj0, e)
      | .ok q => (psEnd q, 0, 0)) = outE (prjL P ts) := by
  suffices hs : ((psParts 0 ps0 P).bind fun q => psThr q ts).map psEnd = prjL P ts by
    rw [← hs]
    cases (psParts 0 ps0 P).bind fun q => psThr q ts <;> rfl
  obtain ⟨a, b, c, d, e, f, g, i, rfl⟩ := eight_parts h
  unfold prjL
  simp only [List.getElem?_cons_zero, List.getElem?_cons_succ, Option.getD_some]
  rw [psParts, list_states]
  show Except.map psEnd (Except.bind (Except.bind (Except.bind (listL 6 [] a) _) _) _) = _
  cases listL 6 [] a with
  | error e => rfl
  | ok S =>
    show Except.map psEnd (Except.bind (psParts 1 { ps0 with states := S } [b, c, d, e, f, g, i]) _) = _
    rw [psParts, list_events]
    show Except.map psEnd (Except.bind (Except.bind (Except.bind (listL 8 [] b) _) _) _) = Except.bind (listL 8 [] b) _
    cases listL 8 [] b with
    | error e => rfl
    | ok E =>
      obtain ⟨q2, hq2⟩ : ∃ q2 : Ps, q2 = { ps0 with states := S, events := E } := ⟨_, rfl⟩
      show Except.map psEnd (Except.bind (psParts 2 { ps0 with states := S, events := E } [c, d, e, f, g, i]) _) = Except.bind (rowL E [] c) _
      rw [← hq2]
      have st2 : StP S E (fun _ => []) q2 := by rw [hq2]; exact ⟨rfl, rfl, fun _ => rfl, rfl, rfl⟩
      have x2 := row_step (k := 2) (by omega) (by omega) st2 c
      rw [if_pos (by omega)] at x2
      rw [psParts]
      cases hc : rowL E [] c with
      | error e => rw [hc] at x2; rw [show psPart 2 q2 c = _ from x2]; rfl
      | ok r2 =>
        rw [hc] at x2
        obtain ⟨q3, y2, st3⟩ := x2
        rw [y2]
        show Except.map psEnd (Except.bind (psParts 3 q3 [d, e, f, g, i]) _) = Except.bind (rowL E [] d) _
        have x3 := row_step (k := 3) (by omega) (by omega) st3 d
        rw [if_pos (by omega)] at x3
        simp only [show ¬ (3 : Nat) = 2 from by omega, if_false] at x3
        rw [psParts]
        cases hd : rowL E [] d with
        | error e => rw [hd] at x3; rw [show psPart 3 q3 d = _ from x3]; rfl
        | ok r3 =>
          rw [hd] at x3
          obtain ⟨q4, y3, st4⟩ := x3
          rw [y3]
          show Except.map psEnd (Except.bind (psParts 4 q4 [e, f, g, i]) _) = Except.bind (rowL E [] e) _
          have x4 := row_step (k := 4) (by omega) (by omega) st4 e
          rw [if_pos (by omega)] at x4
          simp only [show ¬ (4 : Nat) = 2 from by omega, show ¬ (4 : Nat) = 3 from by omega, if_false] at x4
          rw [psParts]
          cases he : rowL E [] e with
          | error er => rw [he] at x4; rw [show psPart 4 q4 e = _ from x4]; rfl
          | ok r4 =>
            rw [he] at x4
            obtain ⟨q5, y4, st5⟩ := x4
            rw [y4]
            show Except.map psEnd (Except.bind (psParts 5 q5 [f, g, i]) _) = Except.bind (rowL S [] f) _
            have x5 := row_step (k := 5) (by omega) (by omega) st5 f
            rw [if_neg (by omega)] at x5
            simp only [show ¬ (5 : Nat) = 2 from by omega, show ¬ (5 : Nat) = 3 from by omega, show ¬ (5 : Nat) = 4 from by omega, if_false] at x5
            rw [psParts]
            cases hf : rowL S [] f with
            | error er => rw [hf] at x5; rw [show psPart 5 q5 f = _ from x5]; rfl
            | ok r5 =>
              rw [hf] at x5
              obtain ⟨q6, y5, st6⟩ := x5
              rw [y5]
              show Except.map psEnd (Except.bind (psParts 6 q6 [g, i]) _) = Except.bind (rowL S [] g) _
              have x6 := row_step (k := 6) (by omega) (by omega) st6 g
              rw [if_neg (by omega)] at x6
              simp only [show ¬ (6 : Nat) = 2 from by omega, show ¬ (6 : Nat) = 3 from by omega, show ¬ (6 : Nat) = 4 from by omega, show ¬ (6 : Nat) = 5 from by omega, if_false] at x6
              rw [psParts]
              cases hg : rowL S [] g with
              | error er => rw [hg] at x6; rw [show psPart 6 q6 g = _ from x6]; rfl
              | ok r6 =>
                rw [hg] at x6
                obtain ⟨q7, y6, st7⟩ := x6
                rw [y6]
                show Except.map psEnd (Except.bind (psParts 7 q7 [i]) _) = Except.bind (rowL S [] i) _
                have x7 := row_step (k := 7) (by omega) (by omega) st7 i
                rw [if_neg (by omega)] at x7
                simp only [show ¬ (7 : Nat) = 2 from by omega, show ¬ (7 : Nat) = 3 from by omega, show ¬ (7 : Nat) = 4 from by omega, show ¬ (7 : Nat) = 5 from by omega, show ¬ (7 : Nat) = 6 from by omega, if_false] at x7
                rw [psParts]
                cases hi : rowL S [] i with
                | error er => rw [hi] at x7; rw [show psPart 7 q7 i = _ from x7]; rfl
                | ok r7 =>
                  rw [hi] at x7
                  obtain ⟨q8, y7, st8⟩ := x7
                  rw [y7]
                  show Except.map psEnd (psThr q8 ts) = Except.bind (arrL S E [] ts) _
                  have xa := thr_all ts q8 st8.t
                  rw [st8.s, st8.e, show srtA q8.arrows = [] from by rw [st8.a]; rfl] at xa
                  cases ha : arrL S E [] ts with
                  | error er => rw [ha] at xa; rw [show psThr q8 ts = _ from xa]; rfl
                  | ok A =>
                    rw [ha] at xa
                    obtain ⟨q9, ya, A', fi, z1, z2⟩ := xa
                    rw [ya]
                    show Except.ok (psEnd q9) = Except.ok _
                    congr 1
                    rw [z2]
                    unfold psEnd
                    dsimp only
                    rw [st8.s, st8.e, st8.r 2, st8.r 3, st8.r 4, st8.r 5, st8.r 6, st8.r 7, z1]
                    rfl
/-- WHAT A TEXT WITHOUT FAULTY TOKENS TELLS. -/
theorem parse_prj {s : Str} {T : TokR} (h : ¬ 4000 < s.length) (hT : tokR (s.length + 1) 0 s = T) (he : T.2.1 = 0) : match rdAll T.1 with
    | .error e => parseL s = (proj0, 2, posE s.length e)
    | .ok (P, ts) => P.length = 8 ∧ parseL s = outE (prjL P ts) := by
  have hp := parse_all h hT he
  cases hz : rdAll T.1 with
  | error e => rw [hz] at hp; exact hp
  | ok x =>
    obtain ⟨P, ts⟩ := x
    rw [hz] at hp
    exact ⟨hp.1, hp.2.trans (prj_all hp.1 ts)⟩

end Go.Proofs.Ytbgiliophmofgaa
namespace Go.Proofs.Ytbgiliophmofgaa
open Go.RowKit
set_option linter.unusedVariables false

set_option maxRecDepth 100000 in
set_option maxHeartbeats 1000000 in
theorem indexS_some (b off cap : Nat) (xs : List Str) (s : Str) (w : World) (hl : xs.length ≤ maxLen) (hb : b < w.heap.size) (hc : CellsS w b off xs) :
    Calls Try.prog 72 #[.slice (some ⟨b, off, none⟩) xs.length cap, strV s] w fun e w' => e = .returned (.int .i64 (plcI xs s)) ∧ w' = w := by
  unfold maxLen at hl
  go_enter Try.func72, Try.ntmps72
  go_wp2
  go_loopw [8] (fun i wr => ∃ k : Nat, k ≤ xs.length ∧ i = .int .i64 k ∧ Hid (∀ j, j < k → xs[j]?.getD [] ≠ s) ∧ wr = w) (fun i _ => xs.length - (intOf i).toNat)
  case atStart => exact ⟨0, Nat.zero_le _, rfl, fun j hj => absurd hj (Nat.not_lt_zero _), rfl⟩
  case round =>
    obtain ⟨k, hk, rfl, HN, rfl⟩ := hrel
    by_cases hlt : k < xs.length
    · obtain ⟨x, HX, hcx⟩ := hc.at hlt
      by_cases hx : x = s
      · have HP : Hid (plcI xs s = (k : Int)) := by
          show _ = _
          have : plcS xs s = some k := by
            unfold plcS
            rw [List.findIdx?_eq_some_iff_getElem]
            have e := HX.out
            rw [List.getElem?_eq_getElem hlt, Option.getD_some] at e
            refine ⟨hlt, by rw [← e, hx]; simp, fun j hj => ?_⟩
            have := HN.out j hj
            rw [List.getElem?_eq_getElem (by omega), Option.getD_some] at this
            simpa using this
          unfold plcI; rw [this]
        subst hx
        go_wp2
        exact bodyPost_ret (v := .int .i64 k) (by simp [results, go_sem]) rfl ⟨by rw [HP.out], rfl⟩
      · have hbe : (s == x) = false := beq_eq_false_iff_ne.2 (Ne.symm hx)
        have hbd : decide (s = x) = false := decide_eq_false (Ne.symm hx)
        have HN2 : Hid (∀ j, j < k + 1 → xs[j]?.getD [] ≠ s) := fun j hj => by
          by_cases e : j = k
          · rw [e, ← HX.out]; exact hx
          · exact HN.out j (by omega)
        clear hx
        go_wp2_with fail
        go_roundw
        case rel => exact ⟨k + 1, by omega, by go_num, HN2, (by first | trivial | rfl)⟩
        case measure => simp [intOf]; omega
    · have HP : Hid (plcI xs s = -1) := by
        show _ = _
        have : plcS xs s = none := by
          unfold plcS
          rw [List.findIdx?_eq_none_iff]
          intro x hx
          obtain ⟨j, hj⟩ := List.mem_iff_getElem?.1 hx
          have h1 := (List.getElem?_eq_some_iff.1 hj).1
          have := HN.out j (by omega)
          rw [hj, Option.getD_some] at this
          simpa using this
        unfold plcI; rw [this]
      go_wp2
      exact bodyPost_ret (v := .int .i64 (-1)) (by simp [results, go_sem]) rfl ⟨by rw [HP.out], rfl⟩
set_option maxHeartbeats 400000 in
theorem indexS_nil (a : Option Addr) (cap : Nat) (s : Str) (w : World) : Calls Try.prog 72 #[.slice a 0 cap, strV s] w fun e w' => e = .returned (.int .i64 (plcI [] s)) ∧ w' = w := by
  go_enter Try.func72, Try.ntmps72
  go_wp2
  refine wp_loop_rounds 1 ?_
  rw [rounds_succ]
  go_wp2
  exact bodyPost_ret (v := .int .i64 (-1)) (by simp [results, go_sem]) rfl ⟨rfl, rfl⟩
theorem indexS_any (a : Option Addr) (cap : Nat) (xs : List Str) (s : Str) (w : World) (hs : AtS w a xs) (hl : xs.length ≤ maxLen) :
    Calls Try.prog 72 #[.slice a xs.length cap, strV s] w fun e w' => e = .returned (.int .i64 (plcI xs s)) ∧ w' = w := by
  rcases hs with rfl | ⟨b, off, rfl, hb, hc⟩
  · exact indexS_nil a cap s w
  · exact indexS_some b off cap xs s w hl hb hc

set_option maxRecDepth 100000 in
set_option maxHeartbeats 1000000 in
theorem containsS_any (a : Option Addr) (cap : Nat) (xs : List Str) (s : Str) (w : World) (hs : AtS w a xs) (hl : xs.length ≤ maxLen) :
    Calls Try.prog 69 #[.slice a xs.length cap, strV s] w fun e w' => e = .returned (.bool (decide (s ∈ xs))) ∧ w' = w := by
  obtain ⟨b, HB⟩ : ∃ b, Hid (decide (s ∈ xs) = b) := ⟨_, rfl⟩
  rw [HB.out]
  have h2 : decide (0 ≤ plcI xs s) = b := by
    rw [← HB.out]
    by_cases h : s ∈ xs
    · rw [decide_eq_true h, decide_eq_true (plcI_mem.1 h)]
    · rw [decide_eq_false h, decide_eq_false (fun e => h (plcI_mem.2 e))]
  go_enter Try.func69, Try.ntmps69
  go_wp2_with fail
  refine (indexS_any a cap xs s w hs hl).mono ?_
  rintro e w1 ⟨rfl, rfl⟩
  clear HB
  go_wp2_with fail
  go_ret
  exact ⟨rfl, rfl⟩
set_option maxRecDepth 100000 in
set_option maxHeartbeats 1000000 in
theorem cloneS_any (s : Str) (w : World) (hl : s.length ≤ 281474976710656) :
    Calls Try.prog 70 #[strV s] w fun e w' => e = .returned (strV s) ∧ Below w.heap.size w w' := by
  go_enter Try.func70, Try.ntmps70
  go_wp2_with fail
  refine (Any.stringslite_Clone Try.cloneS ⟨s.toArray⟩ w (by simpa [ByteArray.size] using hl)).mono ?_
  rintro e w1 ⟨rfl, hb⟩
  have B := Hid.of hb
  clear hb
  go_wp2_with fail
  go_ret
  exact ⟨rfl, B.out⟩
/-- A list of tokens, as it is read. -/
def TkAt (W : World) (v : Value) (l : List Tok) : Prop := ∃ a c, v = .slice a l.length c ∧ (l = [] ∨ ∃ g o, a = some ⟨g, o, none⟩ ∧ g < W.heap.size ∧ ∀ j t, l[j]? = some t → W.cell? ⟨g, o + j * 3, none⟩ = some (.int .i64 (tkK t)) ∧ W.cell? ⟨g, o + j * 3 + 1, none⟩ = some (strV t.text) ∧ W.cell? ⟨g, o + j * 3 + 2, none⟩ = some (.int .i64 (t.pos : Int)))
theorem TkAt.below {W W' : World} {v : Value} {l : List Tok} (h : TkAt W v l) (hb : Below W.heap.size W W') : TkAt W' v l := by
  obtain ⟨a, c, h1, h2⟩ := h
  refine ⟨a, c, h1, h2.imp id ?_⟩
  rintro ⟨g, o, h3, h4, h5⟩
  refine ⟨g, o, h3, Nat.lt_of_lt_of_le h4 hb.size, fun j t hj => ?_⟩
  obtain ⟨x, y, z⟩ := h5 j t hj
  exact ⟨(hb.cell (p := ⟨g, _, none⟩) h4).trans x, (hb.cell (p := ⟨g, _, none⟩) h4).trans y, (hb.cell (p := ⟨g, _, none⟩) h4).trans z⟩
theorem tkflat_atT : ∀ (l : List Tok) (j : Nat) (t : Tok), l[j]? = some t → (tkflat l)[j * 3]? = some (.int .i64 (tkK t)) ∧ (tkflat l)[j * 3 + 1]? = some (strV t.text) ∧ (tkflat l)[j * 3 + 2]? = some (.int .i64 (t.pos : Int))
  | [], j, t, h => by simp at h
  | x :: r, 0, t, h => by
    have : x = t := by simpa using h
    subst this
    exact ⟨rfl, rfl, rfl⟩
  | x :: r, j + 1, t, h => by
    have ih := tkflat_atT r j t (by simpa using h)
    have e : tkflat (x :: r) = [.int .i64 (tkK x), strV x.text, .int .i64 (x.pos : Int)] ++ tkflat r := rfl
    rw [e]
    refine ⟨?_, ?_, ?_⟩
    · rw [List.getElem?_append_right (by simp; omega), show (j + 1) * 3 - ([.int .i64 (tkK x), strV x.text, .int .i64 (x.pos : Int)] : List Value).length = j * 3 by simp; omega]
      exact ih.1
    · rw [List.getElem?_append_right (by simp; omega), show (j + 1) * 3 + 1 - ([.int .i64 (tkK x), strV x.text, .int .i64 (x.pos : Int)] : List Value).length = j * 3 + 1 by simp; omega]
      exact ih.2.1
    · rw [List.getElem?_append_right (by simp; omega), show (j + 1) * 3 + 2 - ([.int .i64 (tkK x), strV x.text, .int .i64 (x.pos : Int)] : List Value).length = j * 3 + 2 by simp; omega]
      exact ih.2.2
theorem OwnTk.tkAt {W : World} {B : Nat} {v : Value} {l : List Tok} (h : OwnTk W B v l) : TkAt W v l := by
  rcases h.2 with ⟨rfl, hn⟩ | ⟨g, cap, cur, rfl, hg, hh, hnc, hcm, hcs, ht⟩
  · have : l = [] := List.eq_nil_of_length_eq_zero hn
    subst this
    exact ⟨none, 0, rfl, .inl rfl⟩
  · refine ⟨_, cap, rfl, .inr ⟨g, 0, rfl, (Array.getElem?_eq_some_iff.1 hh).1, fun j t hj => ?_⟩⟩
    have hc := fun i u (hi : (tkflat l)[i]? = some u) => h.cells (g := g) rfl i u hi
    obtain ⟨x, y, z⟩ := tkflat_atT l j t hj
    have a1 := hc _ _ x
    have a2 := hc _ _ y
    have a3 := hc _ _ z
    rw [addr0_add] at a1 a2 a3
    rw [Nat.zero_add] at a1 a2 a3 ⊢
    exact ⟨a1, a2, a3⟩
/-- What list leaves. -/
def ListPostT (x : Except (Int × Nat) (List Str)) (w : World) (e : Ending) (w' : World) : Prop := Below w.heap.size w w' ∧ match x with
  | .error er => e = Pn er.1 (er.2 : Int)
  | .ok S => ∃ v, e = .returned v ∧ OwnSr w' w.heap.size v S ∧ S.length ≤ 8

set_option maxRecDepth 100000 in
set_option maxHeartbeats 8000000 in
theorem list_any (v : Value) (ns : List Tok) (most : Nat) (hm : most ≤ 8) (hl : ns.length ≤ 4000) (w : World) (ht : Hid (∀ t ∈ ns, t.text.length ≤ 4000)) (h0 : Hid (TkAt w v ns)) :
    Calls Try.prog 43 #[v, .int .i64 (most : Int)] w fun e w' => ListPostT (listL most [] ns) w e w' := by
  obtain ⟨i0, hi, hz0, hz1, hz2⟩ := info_parts Try.infoStr
  obtain ⟨a, c, rfl, h1⟩ := h0.out
  have H1 : Hid (ns = [] ∨ ∃ g o, a = some ⟨g, o, none⟩ ∧ g < w.heap.size ∧ ∀ j t, ns[j]? = some t → w.cell? ⟨g, o + j * 3, none⟩ = some (.int .i64 (tkK t)) ∧ w.cell? ⟨g, o + j * 3 + 1, none⟩ = some (strV t.text) ∧ w.cell? ⟨g, o + j * 3 + 2, none⟩ = some (.int .i64 (t.pos : Int))) := h1
  clear h1
  obtain ⟨X, HX⟩ : ∃ X, Hid (listL most [] ns = X) := ⟨_, rfl⟩
  rw [HX.out]
  go_enter Try.func43, Try.ntmps43
  go_wp2_with fail
  go_loopw [5, 10] (fun sv i wr => ∃ (p : Nat) (S : List Str), i = .int .i64 p ∧ p ≤ ns.length ∧ S.length ≤ most ∧ Hid (X = listL most S (ns.drop p)) ∧ Hid (OwnSr wr w.heap.size sv S) ∧ Hid (Below w.heap.size w wr)) (fun _ i _ => ns.length - (intOf i).toNat)
  case atStart => exact ⟨0, [], rfl, Nat.zero_le _, Nat.zero_le _, (by show X = _; rw [← HX.out, List.drop_zero]), World.ownsRow_nil _ _ _ _, Below.refl _ _⟩
  case round =>
    obtain ⟨p, S, rfl, hp, hS, HI, HO, HB⟩ := hrel
    obtain ⟨va, vc, hv, hvat, -, -, -⟩ := OwnSr.at HO.out
    subst hv
    by_cases hlt : p < ns.length
    · obtain ⟨t, HTI⟩ : ∃ t, Hid (ns[p]? = some t) := ⟨_, List.getElem?_eq_getElem hlt⟩
      have hpI : (p : Int) < (ns.length : Int) := by omega
      obtain ⟨g, o, rfl, hg, hc⟩ : ∃ g o, a = some ⟨g, o, none⟩ ∧ g < w.heap.size ∧ ∀ j t, ns[j]? = some t → w.cell? ⟨g, o + j * 3, none⟩ = some (.int .i64 (tkK t)) ∧ w.cell? ⟨g, o + j * 3 + 1, none⟩ = some (strV t.text) ∧ w.cell? ⟨g, o + j * 3 + 2, none⟩ = some (.int .i64 (t.pos : Int)) := by
        rcases H1.out with h | h
        · rw [h] at hlt; simp at hlt
        · exact h
      obtain ⟨x0, x1, x2⟩ := hc p t HTI.out
      replace x0 := (HB.out.cell (p := ⟨g, _, none⟩) hg).trans x0
      replace x1 := (HB.out.cell (p := ⟨g, _, none⟩) hg).trans x1
      replace x2 := (HB.out.cell (p := ⟨g, _, none⟩) hg).trans x2
      have HDR : Hid (ns.drop p = t :: ns.drop (p + 1)) := by
        show _ = _
        obtain ⟨h1, h2⟩ := List.getElem?_eq_some_iff.1 HTI.out
        rw [List.drop_eq_getElem_cons h1, h2]
      have htl : t.text.length ≤ 4000 := ht.out t (List.mem_of_getElem? HTI.out)
      have hal : Below wr.heap.size wr (wr.alloc (.cells #[.int .i64 (tkK t), strV t.text, .int .i64 (t.pos : Int)] 56)) := (Below.refl _ _).alloc (Nat.le_refl _) _
      have KT : Hid (Blk (wr.alloc (.cells #[.int .i64 (tkK t), strV t.text, .int .i64 (t.pos : Int)] 56)) wr.heap.size 56 #[.int .i64 (tkK t), strV t.text, .int .i64 (t.pos : Int)]) := Blk.new wr _ _
      replace HO : Hid (OwnSr (wr.alloc (.cells #[.int .i64 (tkK t), strV t.text, .int .i64 (t.pos : Int)] 56)) w.heap.size (.slice va S.length vc) S) := World.ownsRow.alloc HO.out _
      have HAT := Hid.of (hvat.below hal (Nat.le_refl _))
      replace HB := Hid.of (HB.out.trans (hal.mono HB.out.size))
      clear hal hvat hc
      go_wp2_with fail
      clear x0 x1 x2
      revert KT HO HAT HB
      generalize wr.alloc (.cells #[.int .i64 (tkK t), strV t.text, .int .i64 (t.pos : Int)] 56) = V
      generalize wr.heap.size = bt
      intro KT HO HAT HB
      have y0 := KT.out.cell 0 rfl
      have y1 := KT.out.cell 1 rfl
      have y2 := KT.out.cell 2 rfl
      have hsm : S.length ≤ maxLen := by unfold maxLen; omega
      go_wp2_with fail
      refine (containsS_any va vc S t.text V HAT.out hsm).mono ?_
      rintro e w1 ⟨rfl, rfl⟩
      by_cases hin : t.text ∈ S
      · have HD := Hid.of (decide_eq_true hin)
        have HXE : Hid (X = .error (5, t.pos)) := by
          show _ = _
          rw [HI.out, HDR.out, listL]
          unfold psNames
          rw [if_pos hin]; rfl
        rw [HD.out]
        clear hin
        go_wp2_with fail
        refine (giveUp_any 5 _ _).mono ?_
        rintro e W4 ⟨rfl, rfl⟩
        go_wp2_with fail
        refine ⟨rfl, HB.out, ?_⟩
        rw [HXE.out]
      · have HD := Hid.of (decide_eq_false hin)
        have HIN := Hid.of hin
        rw [HD.out]
        clear hin
        by_cases hmm : S.length = most
        · have HXE : Hid (X = .error (1, t.pos)) := by
            show _ = _
            rw [HI.out, HDR.out, listL]
            unfold psNames
            rw [if_neg HIN.out, if_pos (by omega)]; rfl
          have hb : ((S.length : Int) == (most : Int)) = true := by simp; omega
          have hb2 : (S.length : Int) = (most : Int) := by omega
          clear hmm
          go_wp2_with fail
          refine (giveUp_any 1 _ _).mono ?_
          rintro e W4 ⟨rfl, rfl⟩
          go_wp2_with fail
          refine ⟨rfl, HB.out, ?_⟩
          rw [HXE.out]
        · have HI2 : Hid (X = listL most (S ++ [t.text]) (ns.drop (p + 1))) := by
            show _ = _
            rw [HI.out, HDR.out, listL]
            unfold psNames
            rw [if_neg HIN.out, if_neg (by omega)]; rfl
          have hb : ((S.length : Int) == (most : Int)) = false := beq_eq_false_iff_ne.2 (by omega)
          have hS2 : S.length + 1 ≤ most := by omega
          clear hmm
          go_wp2_with fail
          refine (cloneS_any t.text w1 (by omega)).mono ?_
          rintro e W4 ⟨rfl, hb4⟩
          replace HB := Hid.of (HB.out.trans (hb4.mono HB.out.size))
          replace HO : Hid (OwnSr W4 w.heap.size (.slice va S.length vc) S) := own_same HO.out (fun k hk => hb4.block k (World.ownsRow.lt HO.out k hk).2)
          have HA : Hid (w.heap.size ≤ W4.heap.size) := HB.out.size
          clear hb4 y0 y1 y2 KT HAT
          go_wp2_with (at_builtin; refine wpList_append_block _ rfl (.tmp 28) (.tmp 32) 22 rfl w.heap.size 9 i0 (.string ⟨#[]⟩) 1 16 Try.underlying22 hi hz0 hz1 hz2 rfl (by decide) _ _ _ rfl (World.ownsRow.alloc HO.out _) ⟨W4.heap.size, 0, none⟩ 1 1 [strV t.text] rfl rfl (cell_one_new _ _ _) (by intro u hu; simp at hu; subst hu; rfl) (by decide) (by unfold maxLen; omega) (by omega) (Nat.le_trans HA.out (by simp)) ?_)
          intro v7 w7 o7 g7 n7
          have HO7 : Hid (OwnSr w7 w.heap.size v7 (S ++ [t.text])) := by
            show World.ownsRow _ _ _ _ _ _ _
            rw [List.length_append, List.map_append]; exact o7
          have HB7 : Hid (Below w.heap.size w w7) := (HB.out.alloc HB.out.size _).grown g7 (Nat.le_trans HB.out.size (by simp)) (fun k hk => (World.ownsRow.lt HO.out k hk).1)
          obtain ⟨va2, vc2, hv2, -, -, -⟩ := own_form2 HO7.out
          have hl2 : (S ++ [t.text]).length = S.length + 1 := by simp
          rw [hl2] at hv2
          subst hv2
          clear o7 g7 n7 HO HB HA
          go_wp2_with fail
          go_roundw
          case rel => exact ⟨p + 1, S ++ [t.text], by go_num, by omega, by rw [hl2]; omega, HI2, HO7, HB7⟩
          case measure => simp [intOf]; omega
    · have hpe : p = ns.length := by omega
      have HXE : Hid (X = .ok S) := by
        show _ = _
        rw [HI.out, hpe, List.drop_length]; rfl
      subst hpe
      clear hlt
      go_wp2_with fail
      refine bodyPost_ret (v := .slice va S.length vc) (by simp [results, go_sem]) rfl ⟨HB.out, ?_⟩
      rw [HXE.out]
      exact ⟨_, rfl, HO.out, by omega⟩
abbrev findV (p : Nat) : Value := .func (.func 71) #[] #[.pointer (some ⟨p, 0, none⟩)]
set_option maxHeartbeats 1000000 in
theorem finder_any (a : Option Addr) (n c : Nat) (w : World) : Calls Try.prog 44 #[.slice a n c] w fun e w' => e = .returned (findV w.heap.size) ∧ w' = w.alloc (.cells #[.slice a n c] 22) := by
  have hmf : ∀ (fn : Fn) (first cap : Array Value) (w : World), (Instr.makeFunc fn first cap).run Try.prog w = .ok (.func fn first cap) w := fun _ _ _ _ => rfl
  go_enter Try.func44, Try.ntmps44
  go_wp2
  go_ret
  exact ⟨rfl, rfl⟩
/-- A finder's names, in memory. -/
structure FdAt (W : World) (p : Nat) (S : List Str) : Prop where
  e : ∃ a c, Blk W p 22 #[.slice a S.length c] ∧ AtS W a S
  l : S.length ≤ 8
theorem FdAt.below {W W' : World} {p : Nat} {S : List Str} (h : FdAt W p S) (hb : Below W.heap.size W W') : FdAt W' p S := by
  obtain ⟨a, c, h1, h2⟩ := h.e
  exact ⟨⟨a, c, h1.below hb h1.lt, h2.below hb (Nat.le_refl _)⟩, h.l⟩
/-- What a finder leaves. -/
def NumPost (x : Except (Int × Nat) Nat) (w : World) (e : Ending) (w' : World) : Prop := Below w.heap.size w w' ∧ match x with
  | .error er => e = Pn er.1 (er.2 : Int)
  | .ok n => e = .returned (.int .i64 (n : Int))
set_option maxRecDepth 100000 in
set_option maxHeartbeats 2000000 in
theorem find1_any (t : Tok) (p : Nat) (S : List Str) (w : World) (h0 : Hid (FdAt w p S)) : Calls Try.prog 71 #[tkV t, .pointer (some ⟨p, 0, none⟩)] w fun e w' => NumPost (numLT S t) w e w' := by
  have hal : Below w.heap.size w (w.alloc (.cells #[.int .i64 (tkK t), strV t.text, .int .i64 (t.pos : Int)] 56)) := (Below.refl _ _).alloc (Nat.le_refl _) _
  have HF := Hid.of (h0.out.below hal)
  have HB := Hid.of hal
  have KT : Hid (Blk (w.alloc (.cells #[.int .i64 (tkK t), strV t.text, .int .i64 (t.pos : Int)] 56)) w.heap.size 56 #[.int .i64 (tkK t), strV t.text, .int .i64 (t.pos : Int)]) := Blk.new w _ _
  clear hal
  obtain ⟨a, c, h1, h2⟩ := HF.out.e
  have hsm : S.length ≤ maxLen := by have := HF.out.l; unfold maxLen; omega
  have y0 := KT.out.cell 0 rfl
  have y1 := KT.out.cell 1 rfl
  have y2 := KT.out.cell 2 rfl
  have z0 := h1.cell 0 rfl
  have H2 := Hid.of h2
  clear h1 h2
  go_enter Try.func71, Try.ntmps71
  go_wp2_with fail
  refine (indexS_any a c S t.text _ H2.out hsm).mono ?_
  rintro e w1 ⟨rfl, rfl⟩
  by_cases hn : 0 ≤ plcI S t.text
  · obtain ⟨h3, h4⟩ := plcI_some hn
    obtain ⟨k, HK⟩ : ∃ k : Nat, Hid (k = (plcI S t.text).toNat) := ⟨_, rfl⟩
    have HX : Hid (numLT S t = .ok k) := by
      show _ = _
      unfold numLT; rw [h3, HK.out]
    have hk : plcI S t.text = (k : Int) := by rw [HK.out]; omega
    rw [hk]
    have hd : decide ((k : Int) < 0) = false := by simp
    clear hn h3 h4 hk
    go_wp2_with fail
    refine bodyPost_ret (v := .int .i64 (k : Int)) (by simp [results, go_sem]) rfl ⟨HB.out, ?_⟩
    rw [HX.out]
  · have h3 := plcI_none hn
    have HX : Hid (numLT S t = .error (4, t.pos)) := by
      show _ = _
      unfold numLT; rw [h3]
    have hd : plcI S t.text < 0 := by omega
    have hd2 : decide (plcI S t.text < 0) = true := decide_eq_true hd
    clear hn h3
    go_wp2_with fail
    refine (giveUp_any 4 _ _).mono ?_
    rintro e W4 ⟨rfl, rfl⟩
    go_wp2_with fail
    refine ⟨rfl, HB.out, ?_⟩
    rw [HX.out]

end Go.Proofs.Ytbgiliophmofgaa
namespace Go.Proofs.Ytbgiliophmofgaa
open Go.RowKit
set_option linter.unusedVariables false

/-- Is it a sign? -/
def sgnB (s : Str) : Bool := decide (s = [59] ∨ s = [44])
/-- How many bytes the shortest text of the first tokens has. -/
def shAt (ws : List Str) : Nat → Nat
  | 0 => 0
  | n + 1 => shAt ws n + (if 0 < n ∧ sgnB (ws[n]?.getD []) = false ∧ sgnB (ws[n - 1]?.getD []) = false then 1 else 0) + (ws[n]?.getD []).length
theorem shAt_le {ws : List Str} (h : ∀ x ∈ ws, x.length ≤ 4096) : ∀ n, n ≤ ws.length → shAt ws n ≤ n * 4097
  | 0, _ => Nat.le_refl _
  | n + 1, hn => by
    have h1 := shAt_le h n (by omega)
    have h2 : (ws[n]?.getD []).length ≤ 4096 := by
      rw [List.getElem?_eq_getElem (by omega : n < ws.length), Option.getD_some]
      exact h _ (List.getElem_mem _)
    rw [shAt]
    split <;> omega
set_option maxRecDepth 100000 in
set_option maxHeartbeats 4000000 in
theorem shortest_any (a : Option Addr) (cap : Nat) (ws : List Str) (w : World) (hs : AtS w a ws) (hl : ws.length ≤ 100000) (hx : ∀ x ∈ ws, x.length ≤ 4096) :
    Calls Try.prog 32 #[.slice a ws.length cap] w fun e w' => e = .returned (.int .i64 (shAt ws ws.length : Int)) ∧ w' = w := by
  have HX := Hid.of hx
  clear hx
  go_enter Try.func32, Try.ntmps32
  go_wp2
  go_loop [3, 8] (fun sv iv => ∃ n : Nat, sv = .int .i64 (shAt ws n : Int) ∧ iv = .int .i64 n ∧ n ≤ ws.length) (fun _ iv => ws.length - (intOf iv).toNat)
  case atStart => exact ⟨0, rfl, rfl, Nat.zero_le _⟩
  case round =>
    obtain ⟨n, rfl, rfl, hn⟩ := hrel
    by_cases hlt : n < ws.length
    · have hb := shAt_le HX.out n hn
      obtain ⟨x, HXN⟩ : ∃ x, Hid (ws[n]? = some x) := ⟨_, List.getElem?_eq_getElem hlt⟩
      have hxl := HX.out x (List.mem_of_getElem? HXN.out)
      obtain ⟨g, o, ha, hg, hc⟩ : ∃ g o, a = some ⟨g, o, none⟩ ∧ g < w.heap.size ∧ CellsS w g o ws := by
        rcases hs with rfl | ⟨g, o, h1, h2, h3⟩
        · simp at hlt
        · exact ⟨g, o, h1, h2, h3⟩
      subst ha
      have y0 := hc n hlt
      rw [HXN.out, Option.getD_some] at y0
      have hnI : (n : Int) < (ws.length : Int) := by omega
      have hsz : (⟨x.toArray⟩ : ByteArray).size = x.length := by simp [ByteArray.size]
      obtain ⟨sz, HZ⟩ : ∃ sz, Hid (shAt ws n = sz) := ⟨_, rfl⟩
      rw [HZ.out] at hb
      rw [HZ.out]
      rcases Nat.eq_zero_or_pos n with h0 | h0
      · subst h0
        have HN : Hid (shAt ws (0 + 1) = sz + x.length) := by
          show _ = _
          rw [shAt, HZ.out, HXN.out, if_neg (by omega)]; rfl
        simp only [Nat.add_zero] at y0
        go_wp2_with fail
        go_round
        case rel => exact ⟨0 + 1, by rw [HN.out]; go_num, by go_num, by omega⟩
        case measure => simp [intOf]; omega
      · obtain ⟨m, rfl⟩ : ∃ m, n = m + 1 := ⟨n - 1, by omega⟩
        obtain ⟨y, HYN⟩ : ∃ y, Hid (ws[m]? = some y) := ⟨_, List.getElem?_eq_getElem (by omega)⟩
        have y1 := hc m (by omega)
        rw [HYN.out, Option.getD_some] at y1
        have hmI : (m : Int) < (ws.length : Int) := by omega
        cases hsx : sgnB x with
        | true =>
          have HSX : Hid (decide (x = [59] ∨ x = [44]) = true) := hsx
          have HN : Hid (shAt ws (m + 1 + 1) = sz + x.length) := by
            show _ = _
            rw [shAt, HZ.out, HXN.out, Option.getD_some, if_neg (by rw [hsx]; simp)]; rfl
          clear hsx
          go_wp2_with fail
          refine (isSign_any x w).mono ?_
          rintro e w1 ⟨rfl, rfl⟩
          rw [HSX.out]
          go_wp2_with fail
          go_round
          case rel => exact ⟨m + 1 + 1, by rw [HN.out]; go_num, by go_num, by omega⟩
          case measure => simp [intOf]; omega
        | false =>
          have HSX : Hid (decide (x = [59] ∨ x = [44]) = false) := hsx
          have HS0 := Hid.of hsx
          clear hsx
          go_wp2_with fail
          refine (isSign_any x w).mono ?_
          rintro e w1 ⟨rfl, rfl⟩
          rw [HSX.out]
          go_wp2_with fail
          refine (isSign_any y w1).mono ?_
          rintro e w2 ⟨rfl, rfl⟩
          cases hsy : sgnB y with
          | true =>
            have HSY : Hid (decide (y = [59] ∨ y = [44]) = true) := hsy
            have HN : Hid (shAt ws (m + 1 + 1) = sz + x.length) := by
              show _ = _
              rw [shAt, HZ.out, HXN.out, Option.getD_some, if_neg (by rw [Nat.add_sub_cancel, HYN.out, Option.getD_some, hsy]; simp)]; rfl
            clear hsy
            rw [HSY.out]
            go_wp2_with fail
            go_round
            case rel => exact ⟨m + 1 + 1, by rw [HN.out]; go_num, by go_num, by omega⟩
            case measure => simp [intOf]; omega
          | false =>
            have HSY : Hid (decide (y = [59] ∨ y = [44]) = false) := hsy
            have HN : Hid (shAt ws (m + 1 + 1) = sz + 1 + x.length) := by
              show _ = _
              rw [shAt, HZ.out, HXN.out, Option.getD_some, if_pos ⟨by omega, HS0.out, by rw [Nat.add_sub_cancel, HYN.out, Option.getD_some, hsy]⟩]
            clear hsy
            rw [HSY.out]
            go_wp2_with fail
            go_round
            case rel => exact ⟨m + 1 + 1, by rw [HN.out]; go_num, by go_num, by omega⟩
            case measure => simp [intOf]; omega
    · have hne : n = ws.length := by omega
      subst hne
      go_wp2
      go_ret
      exact ⟨rfl, rfl⟩

end Go.Proofs.Ytbgiliophmofgaa
namespace Go.Proofs.Ytbgiliophmofgaa
open Go.RowKit
set_option linter.unusedVariables false

theorem ins_count (x : Int) : ∀ L : List Int, Inc L → x ∉ L → ins x L = L.take (L.countP (· < x)) ++ x :: L.drop (L.countP (· < x))
  | [], _, _ => rfl
  | y :: r, h, hx => by
    obtain ⟨h1, h2⟩ := List.pairwise_cons.1 h
    have hxr : x ∉ r := fun e => hx (by simp [e])
    have hyx : y ≠ x := fun e => hx (by simp [e])
    unfold ins
    by_cases hc : y < x
    · rw [if_pos hc, List.countP_cons_of_pos (by simpa using hc), List.take_succ_cons, List.drop_succ_cons, List.cons_append, ← ins_count x r h2 hxr]
    · have h0 : r.countP (· < x) = 0 := by
        rw [List.countP_eq_zero]
        intro z hz
        have := h1 z hz
        simp; omega
      rw [if_neg hc, if_neg hyx, List.countP_cons_of_neg (by simpa using hc), h0]
      rfl
theorem count_le (x : Int) (L : List Int) : L.countP (· < x) ≤ L.length := List.countP_le_length
theorem searchR_any (a : Option Addr) (c : Nat) (xs : List Int) (x : Int) (w : World) (h : At w a xs) (hl : xs.length ≤ 17592186044416) (hs : Inc xs) :
    Calls Try.prog 73 #[.slice a xs.length c, .int .i64 x] w fun e w' => e = .returned (.tuple #[.int .i64 (xs.countP (· < x) : Nat), .bool (decide (x ∈ xs))]) ∧ ∃ q, w' = w.drewN q := by
  rcases h with rfl | ⟨b, off, rfl, hb, hc⟩
  · refine (Any.slices_BinarySearch_int_empty Try.searchA a c x w).mono ?_
    rintro e w' ⟨rfl, rfl⟩
    exact ⟨rfl, 0, rfl⟩
  · refine (Any.slices_BinarySearch_int Try.searchA b off xs.length c xs x w (Nat.le_refl _) (by omega) hc (by rw [List.take_of_length_le (Nat.le_refl _)]; exact hs.imp (fun h => by omega))).mono ?_
    rintro e w' ⟨rfl, q, rfl⟩
    rw [List.take_of_length_le (Nat.le_refl _)]
    exact ⟨by simp, q, rfl⟩
theorem own_insI {W : World} {B : Nat} {v : Value} {xs : List Int} {x : Int} (h : W.ownsRow B 3 1 v (xs.length + 1) (insAt 1 (xs.countP (· < x)) [.int .i64 x] (xs.map (Value.int .i64)))) (hi : Inc xs) (hx : x ∉ xs) : Own W B v (ins x xs) := by
  have e : (ins x xs).map (Value.int .i64) = insAt 1 (xs.countP (· < x)) [.int .i64 x] (xs.map (Value.int .i64)) := by
    rw [ins_count x xs hi hx]
    unfold insAt
    rw [Nat.mul_one, List.map_append, List.map_cons, List.map_take, List.map_drop]
    simp
  have hl : (ins x xs).length = xs.length + 1 := by
    have := count_le x xs
    rw [ins_count x xs hi hx]; simp; omega
  unfold Own
  rw [e, hl]
  exact h
/-- What rowOf leaves. -/
def RowPostT (x : Except (Int × Nat) (List Int)) (w : World) (e : Ending) (w' : World) : Prop := Below w.heap.size w w' ∧ match x with
  | .error er => e = Pn er.1 (er.2 : Int)
  | .ok l => ∃ v, e = .returned v ∧ Own w' w.heap.size v l

set_option maxRecDepth 100000 in
set_option maxHeartbeats 8000000 in
theorem rowOf_any (v : Value) (ns : List Tok) (fp : Nat) (S : List Str) (hl : ns.length ≤ 4000) (w : World) (hf : Hid (FdAt w fp S)) (h0 : Hid (TkAt w v ns)) :
    Calls Try.prog 45 #[v, findV fp] w fun e w' => RowPostT (rowL S [] ns) w e w' := by
  obtain ⟨a, c, rfl, h1⟩ := h0.out
  have H1 : Hid (ns = [] ∨ ∃ g o, a = some ⟨g, o, none⟩ ∧ g < w.heap.size ∧ ∀ j t, ns[j]? = some t → w.cell? ⟨g, o + j * 3, none⟩ = some (.int .i64 (tkK t)) ∧ w.cell? ⟨g, o + j * 3 + 1, none⟩ = some (strV t.text) ∧ w.cell? ⟨g, o + j * 3 + 2, none⟩ = some (.int .i64 (t.pos : Int))) := h1
  clear h1
  obtain ⟨X, HX⟩ : ∃ X, Hid (rowL S [] ns = X) := ⟨_, rfl⟩
  rw [HX.out]
  go_enter Try.func45, Try.ntmps45
  go_wp2_with fail
  go_loopw [5, 13] (fun sv i wr => ∃ (p : Nat) (l : List Int), i = .int .i64 p ∧ p ≤ ns.length ∧ l.length ≤ p ∧ Hid (Inc l) ∧ Hid (X = rowL S l (ns.drop p)) ∧ Hid (Own wr w.heap.size sv l) ∧ Hid (Below w.heap.size w wr)) (fun _ i _ => ns.length - (intOf i).toNat)
  case atStart => exact ⟨0, [], rfl, Nat.zero_le _, Nat.zero_le _, List.Pairwise.nil, (by show X = _; rw [← HX.out, List.drop_zero]), own_nil _ _, Below.refl _ _⟩
  case round =>
    obtain ⟨p, l, rfl, hp, hlp, HINC, HI, HO, HB⟩ := hrel
    obtain ⟨va, vc, hv, hvat, -⟩ := Own.at HO.out
    subst hv
    by_cases hlt : p < ns.length
    · obtain ⟨t, HTI⟩ : ∃ t, Hid (ns[p]? = some t) := ⟨_, List.getElem?_eq_getElem hlt⟩
      have hpI : (p : Int) < (ns.length : Int) := by omega
      obtain ⟨g, o, rfl, hg, hc⟩ : ∃ g o, a = some ⟨g, o, none⟩ ∧ g < w.heap.size ∧ ∀ j t, ns[j]? = some t → w.cell? ⟨g, o + j * 3, none⟩ = some (.int .i64 (tkK t)) ∧ w.cell? ⟨g, o + j * 3 + 1, none⟩ = some (strV t.text) ∧ w.cell? ⟨g, o + j * 3 + 2, none⟩ = some (.int .i64 (t.pos : Int)) := by
        rcases H1.out with h | h
        · rw [h] at hlt; simp at hlt
        · exact h
      obtain ⟨x0, x1, x2⟩ := hc p t HTI.out
      replace x0 := (HB.out.cell (p := ⟨g, _, none⟩) hg).trans x0
      replace x1 := (HB.out.cell (p := ⟨g, _, none⟩) hg).trans x1
      replace x2 := (HB.out.cell (p := ⟨g, _, none⟩) hg).trans x2
      have HDR : Hid (ns.drop p = t :: ns.drop (p + 1)) := by
        show _ = _
        obtain ⟨h1, h2⟩ := List.getElem?_eq_some_iff.1 HTI.out
        rw [List.drop_eq_getElem_cons h1, h2]
      have hal : Below wr.heap.size wr (wr.alloc (.cells #[.int .i64 (tkK t), strV t.text, .int .i64 (t.pos : Int)] 56)) := (Below.refl _ _).alloc (Nat.le_refl _) _
      have KT : Hid (Blk (wr.alloc (.cells #[.int .i64 (tkK t), strV t.text, .int .i64 (t.pos : Int)] 56)) wr.heap.size 56 #[.int .i64 (tkK t), strV t.text, .int .i64 (t.pos : Int)]) := Blk.new wr _ _
      replace HO : Hid (Own (wr.alloc (.cells #[.int .i64 (tkK t), strV t.text, .int .i64 (t.pos : Int)] 56)) w.heap.size (.slice va l.length vc) l) := World.ownsRow.alloc HO.out _
      replace HB := Hid.of (HB.out.trans (hal.mono HB.out.size))
      clear hal hvat hc
      go_wp2_with fail
      clear x0 x1 x2
      revert KT HO HB
      generalize wr.alloc (.cells #[.int .i64 (tkK t), strV t.text, .int .i64 (t.pos : Int)] 56) = V
      generalize wr.heap.size = bt
      intro KT HO HB
      have y0 := KT.out.cell 0 rfl
      have y1 := KT.out.cell 1 rfl
      have y2 := KT.out.cell 2 rfl
      have HF : Hid (FdAt V fp S) := by
        obtain ⟨a3, c3, h1, h2⟩ := hf.out.e
        exact ⟨⟨a3, c3, h1.below HB.out h1.lt, h2.below HB.out (Nat.le_refl _)⟩, hf.out.l⟩
      go_wp2_with fail
      refine (find1_any t fp S V HF).mono ?_
      intro e W3 hq
      obtain ⟨hb3, hq⟩ := hq
      replace HB := Hid.of (HB.out.trans (hb3.mono HB.out.size))
      replace HO : Hid (Own W3 w.heap.size (.slice va l.length vc) l) := own_same HO.out (fun k hk => hb3.block k (World.ownsRow.lt HO.out k hk).2)
      replace KT := Hid.of (KT.out.below hb3 KT.out.lt)
      clear y0 y1 y2 hb3 HF
      cases hn : numLT S t with
      | error er =>
        rw [hn] at hq
        dsimp only at hq
        subst hq
        have HXE : Hid (X = .error er) := by
          show _ = _
          rw [HI.out, HDR.out, rowL]
          unfold numLT at hn
          cases hz : plcS S t.text with
          | none => rw [hz] at hn; cases hn; rfl
          | some k => rw [hz] at hn; cases hn
        clear hn
        go_wp2_with fail
        refine ⟨rfl, HB.out, ?_⟩
        rw [HXE.out]
      | ok k =>
        rw [hn] at hq
        dsimp only at hq
        subst hq
        have HP : Hid (plcS S t.text = some k) := by
          show _ = _
          unfold numLT at hn
          cases hz : plcS S t.text with
          | none => rw [hz] at hn; cases hn
          | some k' => rw [hz] at hn; cases hn; rfl
        clear hn
        obtain ⟨va3, vc3, hv3, hat3, -⟩ := Own.at HO.out
        cases hv3
        have HAT := Hid.of hat3
        clear hat3
        go_wp2_with fail
        refine (searchR_any va vc l (k : Int) W3 HAT.out (by omega) HINC.out).mono ?_
        rintro e W4 ⟨rfl, q, rfl⟩
        replace HB := Hid.of (below_drewN HB.out q)
        replace HO : Hid (Own (W3.drewN q) w.heap.size (.slice va l.length vc) l) := HO.out
        replace KT : Hid (Blk (W3.drewN q) bt 56 #[.int .i64 (tkK t), strV t.text, .int .i64 (t.pos : Int)]) := KT.out
        clear HAT
        revert HB HO KT
        generalize W3.drewN q = W5
        intro HB HO KT
        have y0 := KT.out.cell 0 rfl
        have y1 := KT.out.cell 1 rfl
        have y2 := KT.out.cell 2 rfl
        obtain ⟨cn, HCN⟩ : ∃ cn : Nat, Hid (cn = l.countP (· < (k : Int))) := ⟨_, rfl⟩
        rw [← HCN.out]
        have hcl : cn ≤ l.length := by rw [HCN.out]; exact count_le _ _
        by_cases hin : (k : Int) ∈ l
        · have HD := Hid.of (decide_eq_true hin)
          have HXE : Hid (X = .error (5, t.pos)) := by
            show _ = _
            rw [HI.out, HDR.out, rowL, HP.out]
            exact if_pos hin
          rw [HD.out]
          clear hin
          go_wp2_with fail
          refine (giveUp_any 5 _ _).mono ?_
          rintro e W6 ⟨rfl, rfl⟩
          go_wp2_with fail
          refine ⟨rfl, HB.out, ?_⟩
          rw [HXE.out]
        · have HD := Hid.of (decide_eq_false hin)
          have HIN := Hid.of hin
          have HI2 : Hid (X = rowL S (ins (k : Int) l) (ns.drop (p + 1))) := by
            show _ = _
            rw [HI.out, HDR.out, rowL, HP.out]
            exact if_neg hin
          rw [HD.out]
          clear hin y0 y1 y2 KT
          go_wp2_with fail
          have hal : Below W5.heap.size W5 (W5.alloc (.cells #[.int .i64 (k : Int)] 3)) := (Below.refl _ _).alloc (Nat.le_refl _) _
          have KX : Hid (Blk (W5.alloc (.cells #[.int .i64 (k : Int)] 3)) W5.heap.size 3 [Value.int .i64 (k : Int)].toArray) := Blk.new W5 _ _
          have HNE : Hid (Value.ownBlock (.slice va l.length vc) ≠ some W5.heap.size) := fun e => by have := (World.ownsRow.lt HO.out _ e).2; omega
          replace HO : Hid (Own (W5.alloc (.cells #[.int .i64 (k : Int)] 3)) w.heap.size (.slice va l.length vc) l) := World.ownsRow.alloc HO.out _
          replace HB := Hid.of (HB.out.trans (hal.mono HB.out.size))
          clear hal
          revert KX HNE HO HB
          show Hid (Blk (W5.alloc (.cells #[.int .i64 (k : Int)] 3)) W5.heap.size 3 [Value.int .i64 (k : Int)].toArray) → _
          generalize W5.alloc (.cells #[.int .i64 (k : Int)] 3) = W7
          generalize W5.heap.size = bx
          intro KX HNE HO HB
          refine (insI_any W7 w.heap.size (.slice va l.length vc) (l.map (Value.int .i64)) [.int .i64 (k : Int)] l.length cn bx HO.out HB.out.size rfl (by intro u hu; simp at hu; subst hu; rfl) (by intro u hu; obtain ⟨z, -, rfl⟩ := List.mem_map.1 hu; rfl) KX.out HNE.out (by omega) hcl).mono ?_
          rintro e W8 ⟨v8, rfl, o8, g8, n8⟩
          have HO8 : Hid (Own W8 w.heap.size v8 (ins (k : Int) l)) := own_insI (by rw [← HCN.out]; exact o8) HINC.out HIN.out
          have HB8 : Hid (Below w.heap.size w W8) := HB.out.grown g8 HB.out.size (fun k hk => (World.ownsRow.lt HO.out k hk).1)
          have HINC8 := Hid.of (inc_ins (k : Int) l HINC.out)
          have hl8 : (ins (k : Int) l).length ≤ p + 1 := by have := ins_len (k : Int) l; omega
          clear o8 g8 n8 HO HB KX HNE
          obtain ⟨va8, vc8, hv8, -, -⟩ := Own.at HO8.out
          subst hv8
          go_wp2_with fail
          go_roundw
          case rel => exact ⟨p + 1, ins (k : Int) l, by go_num, by omega, hl8, HINC8, HI2, HO8, HB8⟩
          case measure => simp [intOf]; omega
    · have hpe : p = ns.length := by omega
      have HXE : Hid (X = .ok l) := by
        show _ = _
        rw [HI.out, hpe, List.drop_length]; rfl
      subst hpe
      clear hlt
      go_wp2_with fail
      refine bodyPost_ret (v := .slice va l.length vc) (by simp [results, go_sem]) rfl ⟨HB.out, ?_⟩
      rw [HXE.out]
      exact ⟨_, rfl, HO.out⟩

end Go.Proofs.Ytbgiliophmofgaa
