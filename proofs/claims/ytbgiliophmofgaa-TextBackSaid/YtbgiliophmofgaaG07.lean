/-
  Plain: the arrows of a text, and all its parts. No program, no model.
  Plain: all parts of a text, and the project that they tell. No program, no model.
  Plain: one token after the other, by places in the text. No program, no model.
  The walk of jalousieref16.Tokens.
  What jalousieref16.Parse knows of the memory.
  What jalousieref16.Parse knows, beside what it has told so far.
  The walks of text.isLetter, isInner, isBlank, isSign, giveUp, name, isName.
-/
import Derived.Test.YtbgiliophmofgaaG06
import Derived.Test.YtbgiliophmofgaaG03
import Derived.Test.YtbgiliophmofgaaG01
import Derived.Test.YtbgiliophmofgaaG02
import Derived.Deep.QuietTactic
import Derived.BigQuiet
import Derived.WalkLawsBesides
namespace Go.Proofs.Ytbgiliophmofgaa
open Go.RowKit
set_option linter.unusedVariables false

abbrev Thr := Tok × Tok × Tok
/-- Threes of names, a comma between. -/
def rdThrees : List Tok → Rd (List Thr)
  | [] => .error []
  | a :: r => if a.word = true then match r with
    | [] => .error []
    | b :: r => if b.word = true then match r with
      | [] => .error []
      | c :: r => if c.word = true then match r with
        | [] => .ok ([(a, b, c)], [])
        | d :: r => if d.text = [44] then match rdThrees r with
          | .error e => .error e
          | .ok (l, q) => .ok ((a, b, c) :: l, q)
          else .ok ([(a, b, c)], d :: r)
        else .error (c :: r)
      else .error (b :: r)
    else .error (a :: r)
/-- Whether a name comes. -/
def headW (l : List Tok) : Bool := match l with
  | [] => false
  | t :: _ => t.word
def rdArrB (l : List Tok) : Rd (List Thr) := if headW l = true then rdThrees l else .ok ([], l)
def rdArrE (x : Rd (List Thr)) : Rd (List Thr) := match x with
  | .error e => .error e
  | .ok (ts, r) => rdEnd ts r
def rdArrs (l : List Tok) : Rd (List Thr) := match l with
  | [] => .error []
  | t :: r => if t.text = partsW[8]?.getD [] then rdArrE (rdArrB r) else .error (t :: r)
theorem next_one (m : Nat) (h : m % 3 = 0) : fmNext 8 (m + 1) = 2 ∧ fmNext 8 (m + 2) = 2 ∧ fmNext 8 (m + 3) = 12 := by
  unfold fmNext
  refine ⟨?_, ?_, ?_⟩
  · rw [if_pos ⟨rfl, by omega⟩]
  · rw [if_pos ⟨rfl, by omega⟩]
  · rw [if_neg (by omega), if_pos rfl]
/-- The tokens of threes, and to which part they belong. -/
def thrL : List Thr → List Int
  | [] => []
  | [_] => [8, 8, 8]
  | _ :: x :: r => 8 :: 8 :: 8 :: -1 :: thrL (x :: r)
def thrT : List Thr → List Tok → Prop
  | [], p => p = []
  | [(a, b, c)], p => p = [a, b, c]
  | (a, b, c) :: x :: r, p => ∃ d q, p = a :: b :: c :: d :: q ∧ thrT (x :: r) q
theorem rdThrees_ne {l : List Tok} {ts : List Thr} {r : List Tok} (h : rdThrees l = .ok (ts, r)) : ∃ x y, ts = x :: y := by
  unfold rdThrees at h
  split at h
  · cases h
  · split at h
    · split at h
      · cases h
      · split at h
        · split at h
          · cases h
          · split at h
            · split at h
              · cases h; exact ⟨_, _, rfl⟩
              · split at h
                · split at h
                  · cases h
                  · cases h; exact ⟨_, _, rfl⟩
                · cases h; exact ⟨_, _, rfl⟩
            · cases h
        · cases h
    · cases h
/-- What is told of tokens up to r, the tokens of threes. -/
structure FmThr (m n : Nat) (l : List Tok) (ts : List Thr) (r : List Tok) (s' : Fm) : Prop where
  to : FmTo ⟨8, m, n⟩ l (thrL ts) s' r
  pt : ∃ p, l = p ++ r ∧ thrT ts p
  part : s'.part = 8
  next : s'.next = 12
theorem fm_thr {k m n : Nat} {a b c : Tok} {r : List Tok} (hn : n = 2 ∨ n = 6) (hm : m % 3 = 0) (ha : a.word = true) (hb : b.word = true) (hc : c.word = true) : FmTo ⟨8, m, n⟩ (a :: b :: c :: r) [8, 8, 8] ⟨8, m + 3, 12⟩ r := by
  obtain ⟨x1, x2, x3⟩ := next_one m hm
  have s1 := fm_name_yes (k := 8) (m := m) hn ha
  rw [x1] at s1
  have s2 := fm_name_yes (k := 8) (m := m + 1) (n := 2) (.inl rfl) hb
  rw [x2] at s2
  have s3 := fm_name_yes (k := 8) (m := m + 2) (n := 2) (.inl rfl) hc
  rw [x3] at s3
  exact fmTo_cons s1 (fmTo_cons s2 (fmTo_cons s3 (fmTo_refl _ _)))
theorem fm_threes : ∀ (k : Nat) (l : List Tok) (m n : Nat), l.length < k → (∀ t ∈ l, TkOk t) → (n = 2 ∨ (n = 6 ∧ headW l = true)) → m % 3 = 0 → match rdThrees l with
    | .error e => FmErr ⟨8, m, n⟩ l e
    | .ok (ts, r) => ∃ s', FmThr m n l ts r s' ∧ (∀ s q, r = s :: q → s.word = true ∨ s.text ≠ [44])
  | 0, l, m, n, hk, h, hn, hm => (Nat.not_lt_zero _ hk).elim
  | k + 1, l, m, n, hk, h, hn, hm => by
    have hn' : n = 2 ∨ n = 6 := by omega
    obtain ⟨x1, x2, x3⟩ := next_one m hm
    unfold rdThrees
    cases l with
    | nil => exact fmErr_stop (by show 8 < 9; omega) rfl
    | cons a r =>
      dsimp only
      by_cases ha : a.word = true
      · rw [if_pos ha]
        have s1 := fm_name_yes (k := 8) (m := m) hn' ha
        rw [x1] at s1
        cases r with
        | nil => exact fmErr_cons s1 (fmErr_stop (by show 8 < 9; omega) rfl)
        | cons b r =>
          dsimp only
          by_cases hb : b.word = true
          · rw [if_pos hb]
            have s2 := fm_name_yes (k := 8) (m := m + 1) (n := 2) (.inl rfl) hb
            rw [x2] at s2
            cases r with
            | nil => exact fmErr_cons s1 (fmErr_cons s2 (fmErr_stop (by show 8 < 9; omega) rfl))
            | cons c r =>
              dsimp only
              by_cases hc : c.word = true
              · rw [if_pos hc]
                have s3 := fm_name_yes (k := 8) (m := m + 2) (n := 2) (.inl rfl) hc
                rw [x3] at s3
                have T := fm_thr (k := 8) (r := r) hn' hm ha hb hc
                cases r with
                | nil => exact ⟨_, ⟨T, ⟨[a, b, c], rfl, rfl⟩, rfl, rfl⟩, fun s q e => by cases e⟩
                | cons d r =>
                  dsimp only
                  by_cases hd : d.text = [44]
                  · rw [if_pos hd]
                    have sd := fm_comma_yes (k := 8) (m := m + 3) (h d (by simp)) hd
                    have ih := fm_threes k r (m + 3) 2 (by simp only [List.length_cons] at hk; omega) (fun x hx => h x (by simp [hx])) (.inl rfl) (by omega)
                    cases hq : rdThrees r with
                    | error e =>
                      rw [hq] at ih
                      exact fmTo_err T (fmErr_cons sd ih)
                    | ok x =>
                      obtain ⟨ts, q⟩ := x
                      rw [hq] at ih
                      obtain ⟨s', i1, i2⟩ := ih
                      obtain ⟨y, z, rfl⟩ := rdThrees_ne hq
                      refine ⟨s', ⟨fmTo_trans T (fmTo_cons sd i1.to), ?_, i1.part, i1.next⟩, i2⟩
                      obtain ⟨p, rfl, hp⟩ := i1.pt
                      exact ⟨a :: b :: c :: d :: p, rfl, d, p, rfl, hp⟩
                  · rw [if_neg hd]
                    exact ⟨_, ⟨T, ⟨[a, b, c], rfl, rfl⟩, rfl, rfl⟩, fun s q e => by cases e; exact .inr hd⟩
              · rw [if_neg hc]
                exact fmErr_cons s1 (fmErr_cons s2 (fmErr_stop (by show 8 < 9; omega) (fmGo_none (fm_two_no (by simpa using hc)))))
          · rw [if_neg hb]
            exact fmErr_cons s1 (fmErr_stop (by show 8 < 9; omega) (fmGo_none (fm_two_no (by simpa using hb))))
      · rw [if_neg ha]
        rcases hn with rfl | ⟨-, hh⟩
        · exact fmErr_stop (by show 8 < 9; omega) (fmGo_none (fm_two_no (by simpa using ha)))
        · exact absurd hh ha
/-- THE ARROWS. -/
theorem fm_arrs {m : Nat} {l : List Tok} (h : ∀ t ∈ l, TkOk t) : match rdArrs l with
    | .error e => FmErr ⟨8, m, 1⟩ l e
    | .ok (ts, r) => ∃ m' w s p, FmTo ⟨8, m, 1⟩ l (-1 :: (thrL ts ++ [-1])) ⟨9, m', 1⟩ r ∧ l = w :: (p ++ s :: r) ∧ thrT ts p := by
  unfold rdArrs
  cases l with
  | nil => exact fmErr_stop (by show 8 < 9; omega) rfl
  | cons t r =>
    have ht := h t (by simp)
    have hr : ∀ x ∈ r, TkOk x := fun x hx => h x (by simp [hx])
    by_cases he : t.text = partsW[8]?.getD []
    · dsimp only
      rw [if_pos he]
      have hs := fm_head_yes (m := m) ht (by omega) he
      rw [if_neg (by omega)] at hs
      unfold rdArrB
      by_cases hh : headW r = true
      · rw [if_pos hh]
        have ih := fm_threes (r.length + 1) r 0 6 (Nat.lt_succ_self _) hr (.inr ⟨rfl, hh⟩) rfl
        cases hq : rdThrees r with
        | error e => rw [hq] at ih; exact fmErr_cons hs ih
        | ok x =>
          obtain ⟨ts, q⟩ := x
          rw [hq] at ih
          obtain ⟨⟨p8, n, x12⟩, ⟨i1, ⟨p, hp, hpt⟩, i3, i4⟩, i2⟩ := ih
          dsimp only at i3 i4
          subst i3; subst i4
          have hqm : ∀ x ∈ q, TkOk x := fun x hx => hr x (by rw [hp]; simp [hx])
          show match rdEnd ts q with | .error e => _ | .ok (ts, r) => _
          unfold rdEnd
          cases q with
          | nil => exact fmErr_cons hs (fmTo_err i1 (fmErr_stop (by show 8 < 9; omega) rfl))
          | cons s q =>
            by_cases h59 : s.text = [59]
            · dsimp only
              rw [if_pos h59]
              exact ⟨n, t, s, p, fmTo_cons hs (fmTo_trans i1 (fmTo_cons (fm_end_yes (hqm s (by simp)) (.inr rfl) h59) (fmTo_refl _ _))), by rw [hp], hpt⟩
            · dsimp only
              rw [if_neg h59]
              refine fmErr_cons hs (fmTo_err i1 (fmErr_stop (by show 8 < 9; omega) (fmGo_none ?_)))
              rcases i2 s q rfl with e | e
              · rw [fmStep_def]
                have := word_sign (hqm s (by simp)) e
                simp [this.1, this.2]
              · exact fm_twelve_no h59 e
      · rw [if_neg hh]
        unfold rdArrE
        dsimp only
        unfold rdEnd
        cases r with
        | nil => exact fmErr_cons hs (fmErr_stop (by show 8 < 9; omega) rfl)
        | cons s q =>
          have hw : s.word = false := by
            have : ¬ s.word = true := hh
            simpa using this
          by_cases h59 : s.text = [59]
          · dsimp only
            rw [if_pos h59]
            exact ⟨0, t, s, [], fmTo_cons hs (fmTo_cons (fm_end_yes (hr s (by simp)) (.inl rfl) h59) (fmTo_refl _ _)), rfl, rfl⟩
          · dsimp only
            rw [if_neg h59]
            exact fmErr_cons hs (fmErr_stop (by show 8 < 9; omega) (fmGo_none (fm_six_no hw h59)))
    · dsimp only
      rw [if_neg he]
      exact fmErr_stop (by show 8 < 9; omega) (fmGo_none (fm_head_no (fun e => he e.2)))

end Go.Proofs.Ytbgiliophmofgaa
namespace Go.Proofs.Ytbgiliophmofgaa
open Go.RowKit
set_option linter.unusedVariables false

theorem fmTo_pre {s s' : Fm} {l p r : List Tok} {o : List Int} (h : FmTo s l o s' r) (hp : l = p ++ r) : o.length = p.length := by
  obtain ⟨p', h1, h2, -⟩ := h
  have : p' = p := List.append_cancel_right (h1.symm.trans hp)
  rw [h2, this]
theorem ps_app2 : ∀ (q : Ps) (a b : List (Int × Tok)), psGo q (a ++ b) = (psGo q a).bind fun q' => psGo q' b
  | q, [], b => rfl
  | q, x :: r, b => by
    rw [List.cons_append, psGo, psGo]
    cases psStep q x.1 x.2 with
    | error e => rfl
    | ok q' => exact ps_app2 q' r b
theorem ps_skip (q : Ps) (t : Tok) (r : List (Int × Tok)) : psGo q ((-1, t) :: r) = psGo q r := by
  have h : psStep q (-1) t = .ok q := by unfold psStep; rw [if_pos (by decide)]
  rw [psGo]
  show (match psStep q (-1) t with | .error e => Except.error e | .ok q' => psGo q' r) = _
  rw [h]
def psPart (k : Nat) (q : Ps) (ns : List Tok) : Except (Int × Nat) Ps := psGo q (ns.map fun t => ((k : Int), t))
def psParts : Nat → Ps → List (List Tok) → Except (Int × Nat) Ps
  | _, q, [] => .ok q
  | k, q, ns :: P => (psPart k q ns).bind fun q' => psParts (k + 1) q' P
def psThr : Ps → List Thr → Except (Int × Nat) Ps
  | q, [] => .ok q
  | q, (a, b, c) :: r => (psGo q [(8, a), (8, b), (8, c)]).bind fun q' => psThr q' r
theorem thr_len : ∀ (ts : List Thr) (p : List Tok), thrT ts p → (thrL ts).length = p.length
  | [], p, h => by
    have h : p = [] := h
    subst h; rfl
  | [(a, b, c)], p, h => by
    have h : p = [a, b, c] := h
    subst h; rfl
  | (a, b, c) :: x :: r, p, h => by
    obtain ⟨d, q, rfl, h2⟩ := h
    have := thr_len (x :: r) q h2
    simp [thrL, this]
theorem thr_ps : ∀ (ts : List Thr) (p : List Tok) (q : Ps), thrT ts p → psGo q ((thrL ts).zip p) = psThr q ts
  | [], p, q, h => by
    have h : p = [] := h
    subst h; rfl
  | [(a, b, c)], p, q, h => by
    have h : p = [a, b, c] := h
    subst h
    show psGo q [(8, a), (8, b), (8, c)] = (psGo q [(8, a), (8, b), (8, c)]).bind fun q' => .ok q'
    cases psGo q [(8, a), (8, b), (8, c)] <;> rfl
  | (a, b, c) :: x :: r, p, q, h => by
    obtain ⟨d, p', rfl, h2⟩ := h
    show psGo q ([(8, a), (8, b), (8, c)] ++ ((-1, d) :: (thrL (x :: r)).zip p')) = _
    rw [ps_app2, psThr]
    congr 1
    funext q'
    rw [ps_skip, thr_ps (x :: r) p' q' h2]
theorem zip_rep (k : Int) : ∀ ns : List Tok, (List.replicate ns.length k).zip ns = ns.map fun t => (k, t)
  | [] => rfl
  | a :: b => by
    have := zip_rep k b
    simp [List.replicate_succ, this]
def rdParts : Nat → Nat → List Tok → Rd (List (List Tok))
  | _, 0, l => .ok ([], l)
  | k, n + 1, l => match rdPart (partsW[k]?.getD []) (if k = 0 then 1 else 0) l with
    | .error e => .error e
    | .ok (ns, r) => match rdParts (k + 1) n r with
      | .error e => .error e
      | .ok (P, r') => .ok (ns :: P, r')
def rdLast (P : List (List Tok)) (x : Rd (List Thr)) : Except (List Tok) (List (List Tok) × List Thr) := match x with
  | .error e => .error e
  | .ok (ts, []) => .ok (P, ts)
  | .ok (_, t :: r) => .error (t :: r)
def rdAll (l : List Tok) : Except (List Tok) (List (List Tok) × List Thr) := match rdParts 0 8 l with
  | .error e => .error e
  | .ok (P, r) => rdLast P (rdArrs r)
theorem fm_parts : ∀ (n k m : Nat) (l : List Tok), k + n = 8 → (∀ t ∈ l, TkOk t) → match rdParts k n l with
    | .error e => FmErr ⟨k, m, 1⟩ l e
    | .ok (P, r) => ∃ m' o p, FmTo ⟨k, m, 1⟩ l o ⟨8, m', 1⟩ r ∧ l = p ++ r ∧ P.length = n ∧ ∀ q, psGo q (o.zip p) = psParts k q P
  | 0, k, m, l, hk, h => by
    have : k = 8 := by omega
    subst this
    exact ⟨m, [], [], fmTo_refl _ _, rfl, rfl, fun q => rfl⟩
  | n + 1, k, m, l, hk, h => by
    unfold rdParts
    have hp := fm_partD (k := k) (m := m) (by omega) h
    cases hq : rdPart (partsW[k]?.getD []) (if k = 0 then 1 else 0) l with
    | error e => rw [hq] at hp; exact hp
    | ok x =>
      obtain ⟨ns, r⟩ := x
      rw [hq] at hp
      obtain ⟨m', w, s, h1, h2⟩ := hp
      have hr : ∀ t ∈ r, TkOk t := fun t ht => h t (by rw [h2]; simp [ht])
      have ih := fm_parts n (k + 1) m' r (by omega) hr
      dsimp only
      cases hz : rdParts (k + 1) n r with
      | error e => rw [hz] at ih; exact fmTo_err h1 ih
      | ok y =>
        obtain ⟨P, r'⟩ := y
        rw [hz] at ih
        obtain ⟨m2, o, p, i1, i2, i3, i4⟩ := ih
        refine ⟨m2, _, (w :: (ns ++ [s])) ++ p, fmTo_trans h1 i1, by rw [h2, i2]; simp, by simp [i3], fun q => ?_⟩
        rw [List.zip_append (by simp), ps_app2]
        show (psGo q ((-1, w) :: (List.replicate ns.length (k : Int) ++ [-1]).zip (ns ++ [s]))).bind _ = _
        rw [ps_skip, List.zip_append (by simp), ps_app2, psParts]
        have e : (List.replicate ns.length (k : Int)).zip ns = ns.map fun t => ((k : Int), t) := by
          exact zip_rep _ ns
        rw [e]
        unfold psPart
        cases psGo q (ns.map fun t => ((k : Int), t)) with
        | error e => rfl
        | ok q' =>
          show (psGo q' [(-1, s)]).bind _ = _
          rw [ps_skip]
          exact i4 q'
/-- Where it fails. -/
def posE (n : Nat) (e : List Tok) : Nat := match e with
  | [] => n
  | t :: _ => t.pos
section
variable {s : Str} {T : TokR}
theorem parse_fmErr (h : ¬ 4000 < s.length) (hT : tokR (s.length + 1) 0 s = T) (he : T.2.1 = 0) {e : List Tok} (hf : FmErr ⟨0, 0, 1⟩ T.1 e) : parseL s = (proj0, 2, posE s.length e) := by
  obtain ⟨h1, h2, h3⟩ := hf
  cases e with
  | nil =>
    have hl : ¬ (fmGo ⟨0, 0, 1⟩ (T.1.map kt)).1.length < T.1.length := by
      intro hl
      have := List.drop_eq_nil_iff.1 h2
      omega
    exact parse_end h hT he rfl hl (by omega)
  | cons t r =>
    have hl : (fmGo ⟨0, 0, 1⟩ (T.1.map kt)).1.length < T.1.length := by
      by_cases hl : (fmGo ⟨0, 0, 1⟩ (T.1.map kt)).1.length < T.1.length
      · exact hl
      · rw [List.drop_of_length_le (by omega)] at h2; cases h2
    refine parse_form h hT he rfl hl (t := t) ?_
    have := congrArg List.head? h2
    rw [List.head?_drop] at this
    exact this
theorem parse_all (h : ¬ 4000 < s.length) (hT : tokR (s.length + 1) 0 s = T) (he : T.2.1 = 0) : match rdAll T.1 with
    | .error e => parseL s = (proj0, 2, posE s.length e)
    | .ok (P, ts) => P.length = 8 ∧ parseL s = match (psParts 0 ps0 P).bind fun q => psThr q ts with
      | .error e => (proj0, e)
      | .ok q => (psEnd q, 0, 0) := by
  have hok : ∀ t ∈ T.1, TkOk t := by rw [← hT]; exact tokR_ok _ _ _
  unfold rdAll
  have hp := fm_parts 8 0 0 T.1 rfl hok
  cases hq : rdParts 0 8 T.1 with
  | error e => rw [hq] at hp; exact parse_fmErr h hT he hp
  | ok x =>
    obtain ⟨P, r⟩ := x
    rw [hq] at hp
    obtain ⟨m', o, p, i1, i2, i3, i4⟩ := hp
    have hr : ∀ t ∈ r, TkOk t := fun t ht => hok t (by rw [i2]; simp [ht])
    have ha := fm_arrs (m := m') hr
    show match rdLast P (rdArrs r) with | .error e => _ | .ok (P, ts) => _
    cases hz : rdArrs r with
    | error e =>
      rw [hz] at ha
      exact parse_fmErr h hT he (fmTo_err i1 ha)
    | ok y =>
      obtain ⟨ts, r'⟩ := y
      rw [hz] at ha
      obtain ⟨m2, w, s', p', j1, j2, j3⟩ := ha
      have hto := fmTo_trans i1 j1
      cases r' with
      | cons t r2 =>
        have hs : fmStep ⟨9, m2, 1⟩ (kt t) = none := fm_head_no (fun e => by omega)
        obtain ⟨p2, k1, k2, k3⟩ := hto
        rw [fmGo_none hs] at k3
        dsimp only at k3
        rw [List.append_nil] at k3
        have hl : (fmGo ⟨0, 0, 1⟩ (T.1.map kt)).1.length < T.1.length := by
          rw [k3, k1]
          simp only [List.length_append, List.length_cons] at k2 ⊢
          omega
        refine parse_form h hT he rfl hl (t := t) ?_
        rw [k3]
        dsimp only
        rw [k2, k1, List.getElem?_append_right (Nat.le_refl _), Nat.sub_self]
        rfl
      | nil =>
        have hpr : T.1 = (p ++ (w :: (p' ++ [s']))) ++ [] := by rw [i2, j2]; simp
        have hlen := fmTo_pre hto hpr
        obtain ⟨p2, k1, k2, k3⟩ := hto
        rw [fm_nil] at k3
        dsimp only at k3
        rw [List.append_nil] at k3
        refine ⟨i3, ?_⟩
        have hl : ¬ (fmGo ⟨0, 0, 1⟩ (T.1.map kt)).1.length < T.1.length := by
          rw [k3, k1]
          simp only [List.append_nil]
          omega
        rw [parse_rest h hT he rfl hl (by rw [k3]), k3]
        dsimp only
        have hop : o.length = p.length := fmTo_pre i1 i2
        rw [hpr, List.append_nil, List.zip_append hop, ps_app2, i4]
        have e2 : ∀ q, psGo q ((-1 :: (thrL ts ++ [-1])).zip (w :: (p' ++ [s']))) = psThr q ts := fun q => by
          show psGo q ((-1, w) :: (thrL ts ++ [-1]).zip (p' ++ [s'])) = _
          rw [ps_skip, List.zip_append (thr_len ts p' j3), ps_app2, thr_ps ts p' q j3]
          cases psThr q ts with
          | error e => rfl
          | ok q' =>
            show psGo q' [(-1, s')] = _
            rw [ps_skip]; rfl
        simp only [e2]
        cases (psParts 0 ps0 P).bind fun q' => psThr q' ts <;> rfl
end

end Go.Proofs.Ytbgiliophmofgaa
namespace Go.Proofs.Ytbgiliophmofgaa
open Go.RowKit
set_option linter.unusedVariables false

def appT (l : List Tok) (r : TokR) : TokR := if r.2.1 = 0 then (l ++ r.1, 0, 0) else ([], r.2.1, r.2.2)
theorem appT_cons (l : List Tok) (t : Tok) (r : TokR) : appT l (consT t r) = appT (l ++ [t]) r := by
  unfold appT consT
  by_cases h : r.2.1 = 0
  · rw [if_pos h, if_pos rfl, if_pos h]; simp
  · rw [if_neg h, if_neg h, if_neg h]
theorem consT_wf (t : Tok) (r : TokR) : appT [] (consT t r) = consT t r := by
  unfold appT consT
  by_cases h : r.2.1 = 0
  · rw [if_pos h, if_pos rfl]; rfl
  · rw [if_neg h, if_neg h]
theorem tokR_wf : ∀ (f p : Nat) (s : Str), appT [] (tokR f p s) = tokR f p s
  | 0, _, _ => rfl
  | _ + 1, _, [] => rfl
  | f + 1, p, c :: r => by
    rw [tokR]
    split
    · exact tokR_wf f _ _
    · split
      · exact consT_wf _ _
      · split
        · rfl
        · split
          · rfl
          · exact consT_wf _ _
def chN (s : Str) (p : Nat) : Nat := (s[p]?.getD 0).toNat
theorem drop_at {s : Str} {p : Nat} (h : p < s.length) : s.drop p = (s[p]?.getD 0) :: s.drop (p + 1) := by
  rw [List.drop_eq_getElem_cons h, List.getElem?_eq_getElem h, Option.getD_some]
theorem ch_eq {c : UInt8} {n : Nat} (hn : n < 256) (h : c.toNat = n) : c = UInt8.ofNat n := by
  apply UInt8.toNat_inj.1
  rw [h, UInt8.toNat_ofNat', Nat.mod_eq_of_lt hn]
section
variable {s : Str} {p f : Nat}
theorem step_blank (h : p < s.length) (hf : s.length - p < f) (hc : chN s p = 32 ∨ chN s p = 10) : tokR f p (s.drop p) = tokR (f - 1) (p + 1) (s.drop (p + 1)) := by
  obtain ⟨g, rfl⟩ : ∃ g, f = g + 1 := ⟨f - 1, by omega⟩
  rw [drop_at h, tokR, if_pos (by
    rcases hc with hc | hc
    · exact .inl (ch_eq (n := 32) (by omega) hc)
    · exact .inr (ch_eq (n := 10) (by omega) hc))]
  rfl
theorem ch_not {c : UInt8} {n : Nat} (h : c.toNat ≠ n) (hn : n < 256) : c ≠ UInt8.ofNat n := fun e => h (by rw [e, UInt8.toNat_ofNat', Nat.mod_eq_of_lt hn])
theorem step_sign (h : p < s.length) (hf : s.length - p < f) (hc : chN s p = 59 ∨ chN s p = 44) : tokR f p (s.drop p) = consT ⟨false, [s[p]?.getD 0], p⟩ (tokR (f - 1) (p + 1) (s.drop (p + 1))) := by
  obtain ⟨g, rfl⟩ : ∃ g, f = g + 1 := ⟨f - 1, by omega⟩
  have hn : chN s p ≠ 32 ∧ chN s p ≠ 10 := by omega
  rw [drop_at h, tokR, if_neg (by
    rintro (e | e)
    · exact ch_not hn.1 (by omega) e
    · exact ch_not hn.2 (by omega) e), if_pos (by
    rcases hc with hc | hc
    · exact .inl (ch_eq (n := 59) (by omega) hc)
    · exact .inr (ch_eq (n := 44) (by omega) hc))]
  rfl
/-- What stands in a name behind its first byte. -/
def twL (s : Str) (p : Nat) : Str := (s.drop (p + 1)).takeWhile insB
theorem step_other (h : p < s.length) (hf : s.length - p < f) (h1 : chN s p ≠ 32) (h2 : chN s p ≠ 10) (h3 : chN s p ≠ 59) (h4 : chN s p ≠ 44) : tokR f p (s.drop p) = if letN (chN s p) = false then ([], 2, p) else if 16 < (twL s p).length + 1 then ([], 1, p) else consT ⟨true, (s[p]?.getD 0) :: twL s p, p⟩ (tokR (f - 1) (p + 1 + (twL s p).length) (s.drop (p + 1 + (twL s p).length))) := by
  obtain ⟨g, rfl⟩ : ∃ g, f = g + 1 := ⟨f - 1, by omega⟩
  rw [drop_at h, tokR, if_neg (by
    rintro (e | e)
    · exact ch_not h1 (by omega) e
    · exact ch_not h2 (by omega) e), if_neg (by
    rintro (e | e)
    · exact ch_not h3 (by omega) e
    · exact ch_not h4 (by omega) e), List.drop_drop]
  rfl
theorem tw_le : (twL s p).length ≤ s.length - (p + 1) := by
  unfold twL
  have := (List.takeWhile_prefix insB (l := s.drop (p + 1))).length_le
  rw [List.length_drop] at this; exact this
theorem takeW_at {α : Type} (f : α → Bool) : ∀ (l : List α) (j : Nat) (x : α), l[j]? = some x → j < (l.takeWhile f).length → f x = true
  | [], j, x, h, _ => by simp at h
  | a :: r, j, x, h, hj => by
    by_cases ha : f a = true
    · rw [List.takeWhile_cons_of_pos ha, List.length_cons] at hj
      cases j with
      | zero =>
        have : a = x := by simpa using h
        rw [← this]; exact ha
      | succ j => exact takeW_at f r j x (by simpa using h) (by omega)
    · rw [List.takeWhile_cons_of_neg ha] at hj; simp at hj
theorem takeW_end {α : Type} (f : α → Bool) : ∀ (l : List α) (x : α), l[(l.takeWhile f).length]? = some x → f x = false
  | [], x, h => by simp at h
  | a :: r, x, h => by
    by_cases ha : f a = true
    · rw [List.takeWhile_cons_of_pos ha, List.length_cons, List.getElem?_cons_succ] at h
      exact takeW_end f r x h
    · rw [List.takeWhile_cons_of_neg ha] at h
      have : a = x := by simpa using h
      rw [← this]; simpa using ha
theorem tw_on {j : Nat} (hj : j < (twL s p).length) : p + 1 + j < s.length ∧ insN (chN s (p + 1 + j)) = true := by
  have h1 := tw_le (s := s) (p := p)
  refine ⟨by omega, ?_⟩
  have h2 : (s.drop (p + 1))[j]? = some (s[p + 1 + j]?.getD 0) := by
    rw [List.getElem?_drop, List.getElem?_eq_getElem (by omega), Option.getD_some]
  exact takeW_at insB _ j _ h2 hj
theorem tw_off {j : Nat} (hj : j = (twL s p).length) (hl : p + 1 + j < s.length) : insN (chN s (p + 1 + j)) = false := by
  have h2 : (s.drop (p + 1))[(twL s p).length]? = some (s[p + 1 + j]?.getD 0) := by
    rw [← hj, List.getElem?_drop, List.getElem?_eq_getElem (by omega), Option.getD_some]
  exact takeW_end insB _ _ h2
end

end Go.Proofs.Ytbgiliophmofgaa
namespace Go.Proofs.Ytbgiliophmofgaa
open Go.RowKit
set_option linter.unusedVariables false

theorem Try.infoToken : (Try.prog.info? 56).map (fun i => (i.zero, i.size, i.bytes)) = some (some (.agg #[.int .i64 0, .string ⟨#[]⟩, .int .i64 0]), 3, 32) := by kernel_rfl
def tkcells (t : Tok) : List Value := [.int .i64 (if t.word = true then 1 else 3), strV t.text, .int .i64 (t.pos : Int)]
def tkflat (L : List Tok) : List Value := L.flatMap tkcells
abbrev OwnTk (W : World) (B : Nat) (v : Value) (L : List Tok) : Prop := W.ownsRow B 56 3 v L.length (tkflat L)
theorem ownTk_snoc {W : World} {B : Nat} {v : Value} {L : List Tok} {t : Tok} {cs : List Value} (hc : tkcells t = cs) (h : W.ownsRow B 56 3 v (L.length + 1) (tkflat L ++ cs)) : OwnTk W B v (L ++ [t]) := by
  show W.ownsRow B 56 3 v (L ++ [t]).length (tkflat (L ++ [t]))
  have e : tkflat (L ++ [t]) = tkflat L ++ cs := by unfold tkflat; rw [List.flatMap_append, ← hc]; simp
  rw [e, List.length_append]; exact h
theorem own_low16 {W : World} {B B' s n : Nat} {e : TypeId} {v : Value} {xs : List Value} (h : W.ownsRow B e s v n xs) (hB : B' ≤ B) : W.ownsRow B' e s v n xs := ⟨h.1, h.2.imp id fun ⟨g, cap, cur, h1, h2, h3⟩ => ⟨g, cap, cur, h1, Nat.le_trans hB h2, h3⟩⟩
theorem str_at {s : Str} {S : ByteArray} (hS : S = ⟨s.toArray⟩) {k : Nat} : ∀ h, (S[k]'h).toNat = chN s k := by
  subst hS
  intro h
  have hk : k < s.length := by simpa [ByteArray.size] using h
  unfold chN
  rw [List.getElem?_eq_getElem hk, Option.getD_some]
  rfl

end Go.Proofs.Ytbgiliophmofgaa
namespace Go.Proofs.Ytbgiliophmofgaa
open Go.RowKit
set_option linter.unusedVariables false

theorem Try.infoStr : (Try.prog.info? 9).map (fun i => (i.zero, i.size, i.bytes)) = some (some (.string ⟨#[]⟩), 1, 16) := by kernel_rfl
/-- A row of strings, of the call's own. -/
abbrev OwnSr (W : World) (B : Nat) (v : Value) (xs : List Str) : Prop := W.ownsRow B 9 1 v xs.length (xs.map strV)
theorem OwnSr.at {W : World} {B : Nat} {v : Value} {xs : List Str} (h : OwnSr W B v xs) : ∃ a cap, v = .slice a xs.length cap ∧ AtS W a xs ∧ xs.length ≤ cap ∧ cap ≤ maxLen ∧ (a = none → cap = 0) := by
  rcases h.2 with ⟨rfl, hn⟩ | ⟨g, cap, cur, rfl, hg, hh, hnc, hcm, hcs, ht⟩
  · have : xs = [] := List.eq_nil_of_length_eq_zero hn
    subst this
    exact ⟨none, 0, rfl, .inl rfl, Nat.le_refl _, Nat.zero_le _, fun _ => rfl⟩
  · refine ⟨_, cap, rfl, .inr ⟨g, 0, rfl, (Array.getElem?_eq_some_iff.1 hh).1, fun j hj => ?_⟩, hnc, hcm, fun h => by cases h⟩
    have := h.cells (g := g) rfl j (strV (xs[j]?.getD [])) (by rw [List.getElem?_map, List.getElem?_eq_getElem hj]; rfl)
    rwa [addr0_add] at this
theorem cells_type {a b : Array Value} {s t : TypeId} (h : some (Obj.cells a s (0, 0)) = some (Obj.cells b t (0, 0))) : s = t := by
  injection h with h
  injection h
section
variable {w W : World} {lv : Value} {T : List Tok} {pb rb : Nat} {vs ve va : Value} {rv : Nat → Value} {st ev : List Str} {ls : Nat → List Int} {A : List Arr}
theorem own_blk {V : World} {B s n b : Nat} {e t : TypeId} {v : Value} {xs : List Value} {cs : Array Value} (ho : V.ownsRow B e s v n xs) (hb : V.heap[b]? = some (.cells cs t (0, 0))) (he : t ≠ e) : v.ownBlock ≠ some b := fun hk => by
  obtain ⟨c2, h2⟩ := own_type ho hk
  rw [hb] at h2; cases h2; exact he rfl
end

end Go.Proofs.Ytbgiliophmofgaa
namespace Go.Proofs.Ytbgiliophmofgaa
open Go.RowKit
set_option linter.unusedVariables false

theorem plcI_mem {l : List Str} {s : Str} : s ∈ l ↔ 0 ≤ plcI l s := by
  unfold plcI plcS
  cases hf : l.findIdx? (fun x => decide (x = s)) with
  | none =>
    rw [List.findIdx?_eq_none_iff] at hf
    constructor
    · intro h
      have := hf s h
      simp at this
    · intro h; exact absurd h (by show ¬ (0 : Int) ≤ -1; omega)
  | some n =>
    obtain ⟨h1, h2, -⟩ := List.findIdx?_eq_some_iff_getElem.1 hf
    constructor
    · intro _; show (0 : Int) ≤ (n : Int); omega
    · intro _
      have : l[n] = s := by simpa using h2
      rw [← this]; exact List.getElem_mem h1

theorem plcI_none {l : List Str} {s : Str} (h : ¬ 0 ≤ plcI l s) : plcS l s = none := by
  unfold plcI at h
  cases hf : plcS l s with
  | none => rfl
  | some n => rw [hf] at h; exact absurd (show (0 : Int) ≤ (n : Int) by omega) h
theorem plcI_some {l : List Str} {s : Str} (h : 0 ≤ plcI l s) : plcS l s = some (plcI l s).toNat ∧ (plcI l s).toNat < l.length := by
  unfold plcI at h ⊢
  cases hf : plcS l s with
  | none => rw [hf] at h; exact absurd h (by show ¬ (0 : Int) ≤ -1; omega)
  | some n =>
    refine ⟨by simp, ?_⟩
    unfold plcS at hf
    obtain ⟨h1, -, -⟩ := List.findIdx?_eq_some_iff_getElem.1 hf
    simpa using h1
section
variable {q : Ps} {t : Tok}
theorem ps_none {k : Int} (h2 : 2 ≤ k) (h : plcS (if k < 5 ∨ (k = 8 ∧ q.three.length = 1) then q.events else q.states) t.text = none) : psStep q k t = .error (4, t.pos) := by
  unfold psStep
  rw [if_neg (by omega), if_neg (by omega), if_neg (by omega), h]
theorem ps_row_twice {k : Int} {n : Nat} (h2 : 2 ≤ k) (h8 : k < 8) (h : plcS (if k < 5 ∨ (k = 8 ∧ q.three.length = 1) then q.events else q.states) t.text = some n) (hm : (n : Int) ∈ q.rows k.toNat) : psStep q k t = .error (5, t.pos) := by
  unfold psStep
  rw [if_neg (by omega), if_neg (by omega), if_neg (by omega), h]
  show (if k < 8 then (if (n : Int) ∈ q.rows k.toNat then _ else _) else _) = _
  rw [if_pos h8, if_pos hm]
theorem ps_row_ok {k : Int} {n : Nat} (h2 : 2 ≤ k) (h8 : k < 8) (h : plcS (if k < 5 ∨ (k = 8 ∧ q.three.length = 1) then q.events else q.states) t.text = some n) (hm : ¬ (n : Int) ∈ q.rows k.toNat) : psStep q k t = .ok { q with rows := fun j => if j = k.toNat then q.rows k.toNat ++ [(n : Int)] else q.rows j } := by
  unfold psStep
  rw [if_neg (by omega), if_neg (by omega), if_neg (by omega), h]
  show (if k < 8 then (if (n : Int) ∈ q.rows k.toNat then _ else _) else _) = _
  rw [if_pos h8, if_neg hm]
theorem ps_arr_go {n : Nat} (h : plcS (if (8 : Int) < 5 ∨ ((8 : Int) = 8 ∧ q.three.length = 1) then q.events else q.states) t.text = some n) : psStep q 8 t = psArr q (n : Int) t.pos := by
  unfold psStep
  rw [if_neg (by omega), if_neg (by omega), if_neg (by omega), h]
  rfl
end

end Go.Proofs.Ytbgiliophmofgaa
namespace Go.Proofs.Ytbgiliophmofgaa
open Go.RowKit
set_option linter.unusedVariables false

set_option maxHeartbeats 1000000 in
theorem isLetter_nat (n : Nat) (w : World) : Calls Try.prog 62 #[.int .u8 (n : Int)] w fun e w' => e = .returned (.bool (letN n)) ∧ w' = w := by
  obtain ⟨b, HB⟩ : ∃ b, Hid (((decide (97 ≤ n) && decide (n ≤ 122)) || (decide (65 ≤ n) && decide (n ≤ 90))) = b) := ⟨_, rfl⟩
  have HC : Hid (letN n = b) := HB.out
  rw [HC.out]
  clear HC
  by_cases h1 : 97 ≤ n
  · by_cases h2 : n ≤ 122
    · have hb : b = true := by rw [← HB.out, decide_eq_true h1, decide_eq_true h2]; rfl
      subst hb
      clear HB
      go_enter Try.func62, Try.ntmps62
      go_wp2
      go_ret
      exact ⟨rfl, rfl⟩
    · have h4 : ¬ n ≤ 90 := by omega
      have hb : b = false := by rw [← HB.out, decide_eq_true h1, decide_eq_false h2, decide_eq_false h4]; simp
      subst hb
      have h3 : 65 ≤ n := by omega
      have g2 : decide ((n : Int) ≤ 122) = false := by simp; omega
      have g4 : decide ((n : Int) ≤ 90) = false := by simp; omega
      clear h2 h4 HB
      go_enter Try.func62, Try.ntmps62
      go_wp2
      go_ret
      exact ⟨rfl, rfl⟩
  · have g1 : n < 97 := by omega
    by_cases h3 : 65 ≤ n
    · by_cases h4 : n ≤ 90
      · have hb : b = true := by rw [← HB.out, decide_eq_true h3, decide_eq_true h4]; simp
        subst hb
        have g4 : decide ((n : Int) ≤ 90) = true := by simp; omega
        clear HB h1
        go_enter Try.func62, Try.ntmps62
        go_wp2
        go_ret
        exact ⟨rfl, rfl⟩
      · have hb : b = false := by rw [← HB.out, decide_eq_false h1, decide_eq_false h4]; simp
        subst hb
        have g4 : decide ((n : Int) ≤ 90) = false := by simp; omega
        clear HB h1 h4
        go_enter Try.func62, Try.ntmps62
        go_wp2
        go_ret
        exact ⟨rfl, rfl⟩
    · have hb : b = false := by rw [← HB.out, decide_eq_false h1, decide_eq_false h3]; simp
      subst hb
      have g3 : n < 65 := by omega
      clear HB h1 h3
      go_enter Try.func62, Try.ntmps62
      go_wp2
      go_ret
      exact ⟨rfl, rfl⟩
def innN (n : Nat) : Bool := (decide (48 ≤ n) && decide (n ≤ 57)) || decide (n = 95)
theorem insN_or (n : Nat) : insN n = (letN n || innN n) := by unfold insN innN; rw [Bool.or_assoc]
set_option maxHeartbeats 1000000 in
theorem isInner_nat (n : Nat) (w : World) : Calls Try.prog 63 #[.int .u8 (n : Int)] w fun e w' => e = .returned (.bool (innN n)) ∧ w' = w := by
  obtain ⟨b, HB⟩ : ∃ b, Hid (((decide (48 ≤ n) && decide (n ≤ 57)) || decide (n = 95)) = b) := ⟨_, rfl⟩
  have HC : Hid (innN n = b) := by show _ = _; unfold innN; exact HB.out
  rw [HC.out]
  clear HC
  go_enter Try.func63, Try.ntmps63
  by_cases h1 : 48 ≤ n
  · by_cases h2 : n ≤ 57
    · have hb : b = true := by rw [← HB.out, decide_eq_true h1, decide_eq_true h2]; rfl
      subst hb
      have g2 : decide ((n : Int) ≤ 57) = true := by simp; omega
      clear HB
      go_wp2
      go_ret
      exact ⟨rfl, rfl⟩
    · have g2 : decide ((n : Int) ≤ 57) = false := by simp; omega
      by_cases h3 : n = 95
      · have hb : b = true := by rw [← HB.out, decide_eq_true h3]; simp
        subst hb
        have e3 : ((n : Int) == 95) = true := beq_iff_eq.2 (by omega)
        clear HB h2 h3
        go_wp2
        go_ret
        exact ⟨rfl, rfl⟩
      · have hb : b = false := by rw [← HB.out, decide_eq_false h2, decide_eq_false h3]; simp
        subst hb
        have e3 : ((n : Int) == 95) = false := beq_eq_false_iff_ne.2 (by omega)
        clear HB h2 h3
        go_wp2
        go_ret
        exact ⟨rfl, rfl⟩
  · have g1 : n < 48 := by omega
    have hb : b = false := by rw [← HB.out, decide_eq_false h1, decide_eq_false (show ¬ n = 95 by omega)]; simp
    subst hb
    have e3 : ((n : Int) == 95) = false := beq_eq_false_iff_ne.2 (by omega)
    clear HB h1
    go_wp2
    go_ret
    exact ⟨rfl, rfl⟩
set_option maxHeartbeats 1000000 in
theorem isBlank_nat (n : Nat) (w : World) : Calls Try.prog 38 #[.int .u8 (n : Int)] w fun e w' => e = .returned (.bool (decide (n = 32 ∨ n = 10))) ∧ w' = w := by
  go_enter Try.func38, Try.ntmps38
  by_cases h1 : n = 32
  · subst h1
    go_wp2
    go_ret
    exact ⟨rfl, rfl⟩
  · have b1 : ((n : Int) == 32) = false := beq_eq_false_iff_ne.2 (by omega)
    by_cases h2 : n = 10
    · subst h2
      go_wp2
      go_ret
      exact ⟨rfl, rfl⟩
    · have b2 : ((n : Int) == 10) = false := beq_eq_false_iff_ne.2 (by omega)
      have HD : Hid (decide (n = 32 ∨ n = 10) = false) := decide_eq_false (fun h => h.elim h1 h2)
      rw [HD.out]
      clear h1 h2
      go_wp2
      go_ret
      exact ⟨rfl, rfl⟩
set_option maxRecDepth 100000 in
set_option maxHeartbeats 1000000 in
theorem isSign_any (s : Str) (w : World) : Calls Try.prog 39 #[strV s] w fun e w' => e = .returned (.bool (decide (s = [59] ∨ s = [44]))) ∧ w' = w := by
  go_enter Try.func39, Try.ntmps39
  by_cases h1 : s = [59]
  · subst h1
    go_wp2
    go_ret
    exact ⟨rfl, rfl⟩
  · have b1 : (s == [59]) = false := beq_eq_false_iff_ne.2 h1
    have d1 : decide (s = [59]) = false := decide_eq_false h1
    by_cases h2 : s = [44]
    · subst h2
      go_wp2
      go_ret
      exact ⟨rfl, rfl⟩
    · have b2 : (s == [44]) = false := beq_eq_false_iff_ne.2 h2
      have d2 : decide (s = [44]) = false := decide_eq_false h2
      have HD : Hid (decide (s = [59] ∨ s = [44]) = false) := decide_eq_false (fun h => h.elim h1 h2)
      rw [HD.out]
      clear h1 h2
      go_wp2
      go_ret
      exact ⟨rfl, rfl⟩
/-- A call that gives up. -/
abbrev Pn (c : Int) (p : Int) : Ending := .panicked [{ v := .iface 31 (.agg #[.int .i64 c, .int .i64 p]), recovered := false }]
set_option maxHeartbeats 1000000 in
theorem giveUp_any (c p : Int) (w : World) : Calls Try.prog 18 #[.int .i64 c, .int .i64 p] w fun e w' => e = Pn c p ∧ w' = w := by
  go_enter Try.func18, Try.ntmps18
  go_wp2
  exact ⟨rfl, rfl, rfl⟩
/-- The longest name that a text begins with. -/
def nmP (s : Str) : Str := match s with
  | [] => []
  | c :: r => if letB c = true then c :: r.takeWhile insB else []
section
variable {s : Str}
theorem nm_cons (h : 0 < s.length) (hl : letN (chN s 0) = true) : nmP s = (s[0]?.getD 0) :: twL s 0 := by
  cases s with
  | nil => simp at h
  | cons c r =>
    have hl : letB c = true := hl
    show (if letB c = true then c :: r.takeWhile insB else []) = _
    rw [if_pos hl]
    rfl
theorem nm_none (hl : letN (chN s 0) = false) : nmP s = [] := by
  cases s with
  | nil => rfl
  | cons c r =>
    have hl : letB c = false := hl
    show (if letB c = true then c :: r.takeWhile insB else []) = _
    rw [if_neg (by rw [hl]; simp)]
theorem nm_le : (nmP s).length ≤ s.length := by
  cases s with
  | nil => simp [nmP]
  | cons c r =>
    show (if letB c = true then c :: r.takeWhile insB else []).length ≤ _
    split
    · have := (List.takeWhile_prefix insB (l := r)).length_le
      simp; omega
    · simp
theorem nm_take : s.take (nmP s).length = nmP s := by
  cases s with
  | nil => rfl
  | cons c r =>
    show (c :: r).take (if letB c = true then c :: r.takeWhile insB else []).length = if letB c = true then c :: r.takeWhile insB else []
    split
    · rw [List.length_cons, List.take_succ_cons]
      congr 1
      exact (List.prefix_iff_eq_take.1 (List.takeWhile_prefix insB)).symm
    · rfl
theorem nm_first (h : 0 < (nmP s).length) : letN (chN s 0) = true := by
  cases hl : letN (chN s 0) with
  | true => rfl
  | false => rw [nm_none hl] at h; simp at h
theorem nm_on {k : Nat} (h : k < (nmP s).length) (hk : 0 < k) : insN (chN s k) = true := by
  have h0 := nm_first (show 0 < (nmP s).length by omega)
  have hl := nm_le (s := s)
  rw [nm_cons (by omega) h0, List.length_cons] at h
  have := (tw_on (s := s) (p := 0) (j := k - 1) (by omega)).2
  rw [show 0 + 1 + (k - 1) = k by omega] at this
  exact this
theorem nm_off {k : Nat} (h : k = (nmP s).length) (hl : k < s.length) : if k = 0 then letN (chN s 0) = false else insN (chN s k) = false := by
  by_cases hk : k = 0
  · rw [if_pos hk]
    cases h0 : letN (chN s 0) with
    | false => rfl
    | true => rw [nm_cons (by omega) h0, List.length_cons] at h; omega
  · rw [if_neg hk]
    have h0 := nm_first (show 0 < (nmP s).length by omega)
    rw [nm_cons (by omega) h0, List.length_cons] at h
    have := tw_off (s := s) (p := 0) (j := k - 1) (by omega) (by omega)
    rw [show 0 + 1 + (k - 1) = k by omega] at this
    exact this
end
set_option maxRecDepth 100000 in
set_option maxHeartbeats 4000000 in
theorem name_any (s : Str) (hs : s.length ≤ maxLen) (w : World) : Calls Try.prog 37 #[strV s] w fun e w' => e = .returned (strV (nmP s)) ∧ w' = w := by
  unfold maxLen at hs
  have hsz : (⟨s.toArray⟩ : ByteArray).size = s.length := by simp [ByteArray.size]
  obtain ⟨S, HS⟩ : ∃ S : ByteArray, Hid (S = ⟨s.toArray⟩) := ⟨_, rfl⟩
  have e0 : strV s = .string S := by rw [HS.out]
  rw [e0]
  rw [← HS.out] at hsz
  clear e0
  go_enter Try.func37, Try.ntmps37
  go_wp2
  go_loopw [6] (fun i wr => ∃ k : Nat, i = .int .i64 (k : Int) ∧ k ≤ (nmP s).length ∧ k ≤ s.length ∧ wr = w) (fun i _ => s.length - (intOf i).toNat)
  case atStart => exact ⟨0, rfl, Nat.zero_le _, Nat.zero_le _, rfl⟩
  case round =>
    obtain ⟨k, rfl, hkn, hks, rfl⟩ := hrel
    by_cases hlt : k < s.length
    · have hkS : k < S.size := by rw [hsz]; exact hlt
      have hkI : (k : Int) < (s.length : Int) := by omega
      have hix : ∀ h, (S[k]'h).toNat = chN s k := str_at HS.out
      obtain ⟨n, HN⟩ : ∃ n, Hid (chN s k = n) := ⟨_, rfl⟩
      rw [HN.out] at hix
      obtain ⟨l, HL⟩ : ∃ l, Hid (letN n = l) := ⟨_, rfl⟩
      go_wp2_with fail
      refine (isLetter_nat n _).mono ?_
      rintro e w1 ⟨rfl, rfl⟩
      rw [HL.out]
      by_cases hin : k < (nmP s).length
      · have HIN := Hid.of hin
        clear hin hkn
        by_cases hk0 : k = 0
        · subst hk0
          have hl : l = true := by rw [← HL.out, ← HN.out]; exact nm_first HIN.out
          subst hl
          have h1 : 1 ≤ s.length := by omega
          have h2 : 1 ≤ (nmP s).length := HIN.out
          go_wp2_with fail
          go_roundw
          case rel => exact ⟨1, by go_num, h2, h1, (by first | trivial | rfl)⟩
          case measure => simp [intOf]; omega
        · have HI : Hid (insN n = true) := by show _ = _; rw [← HN.out]; exact nm_on HIN.out (by omega)
          cases l with
          | true =>
            go_wp2_with fail
            go_roundw
            case rel => exact ⟨k + 1, by go_num, HIN.out, by omega, (by first | trivial | rfl)⟩
            case measure => simp [intOf]; omega
          | false =>
            have HJ : Hid (innN n = true) := by show _ = _; have := HI.out; rw [insN_or, HL.out] at this; simpa using this
            have k0 : ((k : Int) == 0) = false := beq_eq_false_iff_ne.2 (by omega)
            clear HI
            go_wp2_with fail
            refine (isInner_nat n _).mono ?_
            rintro e w2 ⟨rfl, rfl⟩
            rw [HJ.out]
            go_wp2_with fail
            go_roundw
            case rel => exact ⟨k + 1, by go_num, HIN.out, by omega, (by first | trivial | rfl)⟩
            case measure => simp [intOf]; omega
      · have hke : k = (nmP s).length := by omega
        have HE : Hid (S.extract 0 k = ⟨(nmP s).toArray⟩) := by
          show _ = _
          rw [HS.out, ByteArray.extract_mk, Nat.sub_zero, List.drop_zero, hke, nm_take]
        have hoff := nm_off hke hlt
        clear hin hkn hke
        by_cases hk0 : k = 0
        · subst hk0
          have hl : l = false := by rw [← HL.out, ← HN.out]; simpa using hoff
          subst hl
          clear hoff
          go_wp2_with fail
          refine bodyPost_ret (v := .string (S.extract 0 0)) (by simp [results, go_sem]) rfl ⟨by rw [HE.out], rfl⟩
        · rw [if_neg hk0, HN.out, insN_or, HL.out] at hoff
          have hl : l = false := by
            cases l with
            | true => simp at hoff
            | false => rfl
          subst hl
          have HJ : Hid (innN n = false) := by show _ = _; simpa using hoff
          clear hoff
          have k0 : ((k : Int) == 0) = false := beq_eq_false_iff_ne.2 (by omega)
          go_wp2_with fail
          refine (isInner_nat n _).mono ?_
          rintro e w2 ⟨rfl, rfl⟩
          rw [HJ.out]
          go_wp2_with fail
          refine bodyPost_ret (v := .string (S.extract 0 k)) (by simp [results, go_sem]) rfl ⟨by rw [HE.out], rfl⟩
    · have hke : (nmP s).length = s.length := by have := nm_le (s := s); omega
      have HE : Hid (S = ⟨(nmP s).toArray⟩) := by
        show _ = _
        rw [HS.out, ← nm_take (s := s), hke, List.take_length]
      have hks : k = s.length := by omega
      subst hks
      clear hke hlt
      go_wp2_with fail
      refine bodyPost_ret (v := .string S) (by simp [results, go_sem]) rfl ⟨by rw [HE.out], rfl⟩

end Go.Proofs.Ytbgiliophmofgaa
