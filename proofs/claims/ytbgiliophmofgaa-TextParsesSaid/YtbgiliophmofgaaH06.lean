/-
  Plain: the arrows of a text, and all its parts. No program, no model.
  Plain: all parts of a text, and the project that they tell. No program, no model.
  Plain: one token after the other, by places in the text. No program, no model.
  A project's value, and what is said of it in a world.
  A project that came in, opened; a string that came in, opened.
  jalousieref16.Same of a project and itself.
  The walk of jalousieref16.Tokens.
-/
import Derived.Test.YtbgiliophmofgaaH05
import Derived.Test.YtbgiliophmofgaaH02
import Derived.Test.YtbgiliophmofgaaH01
import Derived.Test.YtbgiliophmofgaaH04
import Derived.Test.YtbgiliophmofgaaH03
namespace Go.Proofs.Ytbgiliophmofgaa
open Go.RowKit
set_option linter.unusedVariables false

abbrev Thr := Tok × Tok × Tok
/-- Threes of names, a comma between. -/
def rdThrees : List Tok → Rd (List Thr)
  | [] => .error []
  | a :: r => if a.word = true then match r with
    | [] => .error []
    | b :: r => if b.word = true then match r with
      | [] => .error []
      | c :: r => if c.word = true then match r with
        | [] => .ok ([(a, b, c)], [])
        | d :: r => if d.text = [44] then match rdThrees r with
          | .error e => .error e
          | .ok (l, q) => .ok ((a, b, c) :: l, q)
          else .ok ([(a, b, c)], d :: r)
        else .error (c :: r)
      else .error (b :: r)
    else .error (a :: r)
/-- Whether a name comes. -/
def headW (l : List Tok) : Bool := match l with
  | [] => false
  | t :: _ => t.word
def rdArrB (l : List Tok) : Rd (List Thr) := if headW l = true then rdThrees l else .ok ([], l)
def rdArrE (x : Rd (List Thr)) : Rd (List Thr) := match x with
  | .error e => .error e
  | .ok (ts, r) => rdEnd ts r
def rdArrs (l : List Tok) : Rd (List Thr) := match l with
  | [] => .error []
  | t :: r => if t.text = partsW[8]?.getD [] then rdArrE (rdArrB r) else .error (t :: r)
theorem next_one (m : Nat) (h : m % 3 = 0) : fmNext 8 (m + 1) = 2 ∧ fmNext 8 (m + 2) = 2 ∧ fmNext 8 (m + 3) = 12 := by
  unfold fmNext
  refine ⟨?_, ?_, ?_⟩
  · rw [if_pos ⟨rfl, by omega⟩]
  · rw [if_pos ⟨rfl, by omega⟩]
  · rw [if_neg (by omega), if_pos rfl]
/-- The tokens of threes, and to which part they belong. -/
def thrL : List Thr → List Int
  | [] => []
  | [_] => [8, 8, 8]
  | _ :: x :: r => 8 :: 8 :: 8 :: -1 :: thrL (x :: r)
def thrT : List Thr → List Tok → Prop
  | [], p => p = []
  | [(a, b, c)], p => p = [a, b, c]
  | (a, b, c) :: x :: r, p => ∃ d q, p = a :: b :: c :: d :: q ∧ thrT (x :: r) q
theorem rdThrees_ne {l : List Tok} {ts : List Thr} {r : List Tok} (h : rdThrees l = .ok (ts, r)) : ∃ x y, ts = x :: y := by
  unfold rdThrees at h
  split at h
  · cases h
  · split at h
    · split at h
      · cases h
      · split at h
        · split at h
          · cases h
          · split at h
            · split at h
              · cases h; exact ⟨_, _, rfl⟩
              · split at h
                · split at h
                  · cases h
                  · cases h; exact ⟨_, _, rfl⟩
                · cases h; exact ⟨_, _, rfl⟩
            · cases h
        · cases h
    · cases h
/-- What is told of tokens up to r, the tokens of threes. -/
structure FmThr (m n : Nat) (l : List Tok) (ts : List Thr) (r : List Tok) (s' : Fm) : Prop where
  to : FmTo ⟨8, m, n⟩ l (thrL ts) s' r
  pt : ∃ p, l = p ++ r ∧ thrT ts p
  part : s'.part = 8
  next : s'.next = 12
theorem fm_thr {k m n : Nat} {a b c : Tok} {r : List Tok} (hn : n = 2 ∨ n = 6) (hm : m % 3 = 0) (ha : a.word = true) (hb : b.word = true) (hc : c.word = true) : FmTo ⟨8, m, n⟩ (a :: b :: c :: r) [8, 8, 8] ⟨8, m + 3, 12⟩ r := by
  obtain ⟨x1, x2, x3⟩ := next_one m hm
  have s1 := fm_name_yes (k := 8) (m := m) hn ha
  rw [x1] at s1
  have s2 := fm_name_yes (k := 8) (m := m + 1) (n := 2) (.inl rfl) hb
  rw [x2] at s2
  have s3 := fm_name_yes (k := 8) (m := m + 2) (n := 2) (.inl rfl) hc
  rw [x3] at s3
  exact fmTo_cons s1 (fmTo_cons s2 (fmTo_cons s3 (fmTo_refl _ _)))
theorem fm_threes : ∀ (k : Nat) (l : List Tok) (m n : Nat), l.length < k → (∀ t ∈ l, TkOk t) → (n = 2 ∨ (n = 6 ∧ headW l = true)) → m % 3 = 0 → match rdThrees l with
    | .error e => FmErr ⟨8, m, n⟩ l e
    | .ok (ts, r) => ∃ s', FmThr m n l ts r s' ∧ (∀ s q, r = s :: q → s.word = true ∨ s.text ≠ [44])
  | 0, l, m, n, hk, h, hn, hm => (Nat.not_lt_zero _ hk).elim
  | k + 1, l, m, n, hk, h, hn, hm => by
    have hn' : n = 2 ∨ n = 6 := by omega
    obtain ⟨x1, x2, x3⟩ := next_one m hm
    unfold rdThrees
    cases l with
    | nil => exact fmErr_stop (by show 8 < 9; omega) rfl
    | cons a r =>
      dsimp only
      by_cases ha : a.word = true
      · rw [if_pos ha]
        have s1 := fm_name_yes (k := 8) (m := m) hn' ha
        rw [x1] at s1
        cases r with
        | nil => exact fmErr_cons s1 (fmErr_stop (by show 8 < 9; omega) rfl)
        | cons b r =>
          dsimp only
          by_cases hb : b.word = true
          · rw [if_pos hb]
            have s2 := fm_name_yes (k := 8) (m := m + 1) (n := 2) (.inl rfl) hb
            rw [x2] at s2
            cases r with
            | nil => exact fmErr_cons s1 (fmErr_cons s2 (fmErr_stop (by show 8 < 9; omega) rfl))
            | cons c r =>
              dsimp only
              by_cases hc : c.word = true
              · rw [if_pos hc]
                have s3 := fm_name_yes (k := 8) (m := m + 2) (n := 2) (.inl rfl) hc
                rw [x3] at s3
                have T := fm_thr (k := 8) (r := r) hn' hm ha hb hc
                cases r with
                | nil => exact ⟨_, ⟨T, ⟨[a, b, c], rfl, rfl⟩, rfl, rfl⟩, fun s q e => by cases e⟩
                | cons d r =>
                  dsimp only
                  by_cases hd : d.text = [44]
                  · rw [if_pos hd]
                    have sd := fm_comma_yes (k := 8) (m := m + 3) (h d (by simp)) hd
                    have ih := fm_threes k r (m + 3) 2 (by simp only [List.length_cons] at hk; omega) (fun x hx => h x (by simp [hx])) (.inl rfl) (by omega)
                    cases hq : rdThrees r with
                    | error e =>
                      rw [hq] at ih
                      exact fmTo_err T (fmErr_cons sd ih)
                    | ok x =>
                      obtain ⟨ts, q⟩ := x
                      rw [hq] at ih
                      obtain ⟨s', i1, i2⟩ := ih
                      obtain ⟨y, z, rfl⟩ := rdThrees_ne hq
                      refine ⟨s', ⟨fmTo_trans T (fmTo_cons sd i1.to), ?_, i1.part, i1.next⟩, i2⟩
                      obtain ⟨p, rfl, hp⟩ := i1.pt
                      exact ⟨a :: b :: c :: d :: p, rfl, d, p, rfl, hp⟩
                  · rw [if_neg hd]
                    exact ⟨_, ⟨T, ⟨[a, b, c], rfl, rfl⟩, rfl, rfl⟩, fun s q e => by cases e; exact .inr hd⟩
              · rw [if_neg hc]
                exact fmErr_cons s1 (fmErr_cons s2 (fmErr_stop (by show 8 < 9; omega) (fmGo_none (fm_two_no (by simpa using hc)))))
          · rw [if_neg hb]
            exact fmErr_cons s1 (fmErr_stop (by show 8 < 9; omega) (fmGo_none (fm_two_no (by simpa using hb))))
      · rw [if_neg ha]
        rcases hn with rfl | ⟨-, hh⟩
        · exact fmErr_stop (by show 8 < 9; omega) (fmGo_none (fm_two_no (by simpa using ha)))
        · exact absurd hh ha
/-- THE ARROWS. -/
theorem fm_arrs {m : Nat} {l : List Tok} (h : ∀ t ∈ l, TkOk t) : match rdArrs l with
    | .error e => FmErr ⟨8, m, 1⟩ l e
    | .ok (ts, r) => ∃ m' w s p, FmTo ⟨8, m, 1⟩ l (-1 :: (thrL ts ++ [-1])) ⟨9, m', 1⟩ r ∧ l = w :: (p ++ s :: r) ∧ thrT ts p := by
  unfold rdArrs
  cases l with
  | nil => exact fmErr_stop (by show 8 < 9; omega) rfl
  | cons t r =>
    have ht := h t (by simp)
    have hr : ∀ x ∈ r, TkOk x := fun x hx => h x (by simp [hx])
    by_cases he : t.text = partsW[8]?.getD []
    · dsimp only
      rw [if_pos he]
      have hs := fm_head_yes (m := m) ht (by omega) he
      rw [if_neg (by omega)] at hs
      unfold rdArrB
      by_cases hh : headW r = true
      · rw [if_pos hh]
        have ih := fm_threes (r.length + 1) r 0 6 (Nat.lt_succ_self _) hr (.inr ⟨rfl, hh⟩) rfl
        cases hq : rdThrees r with
        | error e => rw [hq] at ih; exact fmErr_cons hs ih
        | ok x =>
          obtain ⟨ts, q⟩ := x
          rw [hq] at ih
          obtain ⟨⟨p8, n, x12⟩, ⟨i1, ⟨p, hp, hpt⟩, i3, i4⟩, i2⟩ := ih
          dsimp only at i3 i4
          subst i3; subst i4
          have hqm : ∀ x ∈ q, TkOk x := fun x hx => hr x (by rw [hp]; simp [hx])
          show match rdEnd ts q with | .error e => _ | .ok (ts, r) => _
          unfold rdEnd
          cases q with
          | nil => exact fmErr_cons hs (fmTo_err i1 (fmErr_stop (by show 8 < 9; omega) rfl))
          | cons s q =>
            by_cases h59 : s.text = [59]
            · dsimp only
              rw [if_pos h59]
              exact ⟨n, t, s, p, fmTo_cons hs (fmTo_trans i1 (fmTo_cons (fm_end_yes (hqm s (by simp)) (.inr rfl) h59) (fmTo_refl _ _))), by rw [hp], hpt⟩
            · dsimp only
              rw [if_neg h59]
              refine fmErr_cons hs (fmTo_err i1 (fmErr_stop (by show 8 < 9; omega) (fmGo_none ?_)))
              rcases i2 s q rfl with e | e
              · rw [fmStep_def]
                have := word_sign (hqm s (by simp)) e
                simp [this.1, this.2]
              · exact fm_twelve_no h59 e
      · rw [if_neg hh]
        unfold rdArrE
        dsimp only
        unfold rdEnd
        cases r with
        | nil => exact fmErr_cons hs (fmErr_stop (by show 8 < 9; omega) rfl)
        | cons s q =>
          have hw : s.word = false := by
            have : ¬ s.word = true := hh
            simpa using this
          by_cases h59 : s.text = [59]
          · dsimp only
            rw [if_pos h59]
            exact ⟨0, t, s, [], fmTo_cons hs (fmTo_cons (fm_end_yes (hr s (by simp)) (.inl rfl) h59) (fmTo_refl _ _)), rfl, rfl⟩
          · dsimp only
            rw [if_neg h59]
            exact fmErr_cons hs (fmErr_stop (by show 8 < 9; omega) (fmGo_none (fm_six_no hw h59)))
    · dsimp only
      rw [if_neg he]
      exact fmErr_stop (by show 8 < 9; omega) (fmGo_none (fm_head_no (fun e => he e.2)))

end Go.Proofs.Ytbgiliophmofgaa
namespace Go.Proofs.Ytbgiliophmofgaa
open Go.RowKit
set_option linter.unusedVariables false

theorem fmTo_pre {s s' : Fm} {l p r : List Tok} {o : List Int} (h : FmTo s l o s' r) (hp : l = p ++ r) : o.length = p.length := by
  obtain ⟨p', h1, h2, -⟩ := h
  have : p' = p := List.append_cancel_right (h1.symm.trans hp)
  rw [h2, this]
theorem ps_app2 : ∀ (q : Ps) (a b : List (Int × Tok)), psGo q (a ++ b) = (psGo q a).bind fun q' => psGo q' b
  | q, [], b => rfl
  | q, x :: r, b => by
    rw [List.cons_append, psGo, psGo]
    cases psStep q x.1 x.2 with
    | error e => rfl
    | ok q' => exact ps_app2 q' r b
theorem ps_skip (q : Ps) (t : Tok) (r : List (Int × Tok)) : psGo q ((-1, t) :: r) = psGo q r := by
  have h : psStep q (-1) t = .ok q := by unfold psStep; rw [if_pos (by decide)]
  rw [psGo]
  show (match psStep q (-1) t with | .error e => Except.error e | .ok q' => psGo q' r) = _
  rw [h]
def psPart (k : Nat) (q : Ps) (ns : List Tok) : Except (Int × Nat) Ps := psGo q (ns.map fun t => ((k : Int), t))
def psParts : Nat → Ps → List (List Tok) → Except (Int × Nat) Ps
  | _, q, [] => .ok q
  | k, q, ns :: P => (psPart k q ns).bind fun q' => psParts (k + 1) q' P
def psThr : Ps → List Thr → Except (Int × Nat) Ps
  | q, [] => .ok q
  | q, (a, b, c) :: r => (psGo q [(8, a), (8, b), (8, c)]).bind fun q' => psThr q' r
theorem thr_len : ∀ (ts : List Thr) (p : List Tok), thrT ts p → (thrL ts).length = p.length
  | [], p, h => by
    have h : p = [] := h
    subst h; rfl
  | [(a, b, c)], p, h => by
    have h : p = [a, b, c] := h
    subst h; rfl
  | (a, b, c) :: x :: r, p, h => by
    obtain ⟨d, q, rfl, h2⟩ := h
    have := thr_len (x :: r) q h2
    simp [thrL, this]
theorem thr_ps : ∀ (ts : List Thr) (p : List Tok) (q : Ps), thrT ts p → psGo q ((thrL ts).zip p) = psThr q ts
  | [], p, q, h => by
    have h : p = [] := h
    subst h; rfl
  | [(a, b, c)], p, q, h => by
    have h : p = [a, b, c] := h
    subst h
    show psGo q [(8, a), (8, b), (8, c)] = (psGo q [(8, a), (8, b), (8, c)]).bind fun q' => .ok q'
    cases psGo q [(8, a), (8, b), (8, c)] <;> rfl
  | (a, b, c) :: x :: r, p, q, h => by
    obtain ⟨d, p', rfl, h2⟩ := h
    show psGo q ([(8, a), (8, b), (8, c)] ++ ((-1, d) :: (thrL (x :: r)).zip p')) = _
    rw [ps_app2, psThr]
    congr 1
    funext q'
    rw [ps_skip, thr_ps (x :: r) p' q' h2]
theorem zip_rep (k : Int) : ∀ ns : List Tok, (List.replicate ns.length k).zip ns = ns.map fun t => (k, t)
  | [] => rfl
  | a :: b => by
    have := zip_rep k b
    simp [List.replicate_succ, this]
def rdParts : Nat → Nat → List Tok → Rd (List (List Tok))
  | _, 0, l => .ok ([], l)
  | k, n + 1, l => match rdPart (partsW[k]?.getD []) (if k = 0 then 1 else 0) l with
    | .error e => .error e
    | .ok (ns, r) => match rdParts (k + 1) n r with
      | .error e => .error e
      | .ok (P, r') => .ok (ns :: P, r')
def rdLast (P : List (List Tok)) (x : Rd (List Thr)) : Except (List Tok) (List (List Tok) × List Thr) := match x with
  | .error e => .error e
  | .ok (ts, []) => .ok (P, ts)
  | .ok (_, t :: r) => .error (t :: r)
def rdAll (l : List Tok) : Except (List Tok) (List (List Tok) × List Thr) := match rdParts 0 8 l with
  | .error e => .error e
  | .ok (P, r) => rdLast P (rdArrs r)
theorem fm_parts : ∀ (n k m : Nat) (l : List Tok), k + n = 8 → (∀ t ∈ l, TkOk t) → match rdParts k n l with
    | .error e => FmErr ⟨k, m, 1⟩ l e
    | .ok (P, r) => ∃ m' o p, FmTo ⟨k, m, 1⟩ l o ⟨8, m', 1⟩ r ∧ l = p ++ r ∧ P.length = n ∧ ∀ q, psGo q (o.zip p) = psParts k q P
  | 0, k, m, l, hk, h => by
    have : k = 8 := by omega
    subst this
    exact ⟨m, [], [], fmTo_refl _ _, rfl, rfl, fun q => rfl⟩
  | n + 1, k, m, l, hk, h => by
    unfold rdParts
    have hp := fm_partD (k := k) (m := m) (by omega) h
    cases hq : rdPart (partsW[k]?.getD []) (if k = 0 then 1 else 0) l with
    | error e => rw [hq] at hp; exact hp
    | ok x =>
      obtain ⟨ns, r⟩ := x
      rw [hq] at hp
      obtain ⟨m', w, s, h1, h2⟩ := hp
      have hr : ∀ t ∈ r, TkOk t := fun t ht => h t (by rw [h2]; simp [ht])
      have ih := fm_parts n (k + 1) m' r (by omega) hr
      dsimp only
      cases hz : rdParts (k + 1) n r with
      | error e => rw [hz] at ih; exact fmTo_err h1 ih
      | ok y =>
        obtain ⟨P, r'⟩ := y
        rw [hz] at ih
        obtain ⟨m2, o, p, i1, i2, i3, i4⟩ := ih
        refine ⟨m2, _, (w :: (ns ++ [s])) ++ p, fmTo_trans h1 i1, by rw [h2, i2]; simp, by simp [i3], fun q => ?_⟩
        rw [List.zip_append (by simp), ps_app2]
        show (psGo q ((-1, w) :: (List.replicate ns.length (k : Int) ++ [-1]).zip (ns ++ [s]))).bind _ = _
        rw [ps_skip, List.zip_append (by simp), ps_app2, psParts]
        have e : (List.replicate ns.length (k : Int)).zip ns = ns.map fun t => ((k : Int), t) := by
          exact zip_rep _ ns
        rw [e]
        unfold psPart
        cases psGo q (ns.map fun t => ((k : Int), t)) with
        | error e => rfl
        | ok q' =>
          show (psGo q' [(-1, s)]).bind _ = _
          rw [ps_skip]
          exact i4 q'
/-- Where it fails. -/
def posE (n : Nat) (e : List Tok) : Nat := match e with
  | [] => n
  | t :: _ => t.pos
section
variable {s : Str} {T : TokR}
theorem parse_fmErr (h : ¬ 4000 < s.length) (hT : tokR (s.length + 1) 0 s = T) (he : T.2.1 = 0) {e : List Tok} (hf : FmErr ⟨0, 0, 1⟩ T.1 e) : parseL s = (proj0, 2, posE s.length e) := by
  obtain ⟨h1, h2, h3⟩ := hf
  cases e with
  | nil =>
    have hl : ¬ (fmGo ⟨0, 0, 1⟩ (T.1.map kt)).1.length < T.1.length := by
      intro hl
      have := List.drop_eq_nil_iff.1 h2
      omega
    exact parse_end h hT he rfl hl (by omega)
  | cons t r =>
    have hl : (fmGo ⟨0, 0, 1⟩ (T.1.map kt)).1.length < T.1.length := by
      by_cases hl : (fmGo ⟨0, 0, 1⟩ (T.1.map kt)).1.length < T.1.length
      · exact hl
      · rw [List.drop_of_length_le (by omega)] at h2; cases h2
    refine parse_form h hT he rfl hl (t := t) ?_
    have := congrArg List.head? h2
    rw [List.head?_drop] at this
    exact this
theorem parse_all (h : ¬ 4000 < s.length) (hT : tokR (s.length + 1) 0 s = T) (he : T.2.1 = 0) : match rdAll T.1 with
    | .error e => parseL s = (proj0, 2, posE s.length e)
    | .ok (P, ts) => P.length = 8 ∧ parseL s = match (psParts 0 ps0 P).bind fun q => psThr q ts with
      | .error e => (proj0, e)
      | .ok q => (psEnd q, 0, 0) := by
  have hok : ∀ t ∈ T.1, TkOk t := by rw [← hT]; exact tokR_ok _ _ _
  unfold rdAll
  have hp := fm_parts 8 0 0 T.1 rfl hok
  cases hq : rdParts 0 8 T.1 with
  | error e => rw [hq] at hp; exact parse_fmErr h hT he hp
  | ok x =>
    obtain ⟨P, r⟩ := x
    rw [hq] at hp
    obtain ⟨m', o, p, i1, i2, i3, i4⟩ := hp
    have hr : ∀ t ∈ r, TkOk t := fun t ht => hok t (by rw [i2]; simp [ht])
    have ha := fm_arrs (m := m') hr
    show match rdLast P (rdArrs r) with | .error e => _ | .ok (P, ts) => _
    cases hz : rdArrs r with
    | error e =>
      rw [hz] at ha
      exact parse_fmErr h hT he (fmTo_err i1 ha)
    | ok y =>
      obtain ⟨ts, r'⟩ := y
      rw [hz] at ha
      obtain ⟨m2, w, s', p', j1, j2, j3⟩ := ha
      have hto := fmTo_trans i1 j1
      cases r' with
      | cons t r2 =>
        have hs : fmStep ⟨9, m2, 1⟩ (kt t) = none := fm_head_no (fun e => by omega)
        obtain ⟨p2, k1, k2, k3⟩ := hto
        rw [fmGo_none hs] at k3
        dsimp only at k3
        rw [List.append_nil] at k3
        have hl : (fmGo ⟨0, 0, 1⟩ (T.1.map kt)).1.length < T.1.length := by
          rw [k3, k1]
          simp only [List.length_append, List.length_cons] at k2 ⊢
          omega
        refine parse_form h hT he rfl hl (t := t) ?_
        rw [k3]
        dsimp only
        rw [k2, k1, List.getElem?_append_right (Nat.le_refl _), Nat.sub_self]
        rfl
      | nil =>
        have hpr : T.1 = (p ++ (w :: (p' ++ [s']))) ++ [] := by rw [i2, j2]; simp
        have hlen := fmTo_pre hto hpr
        obtain ⟨p2, k1, k2, k3⟩ := hto
        rw [fm_nil] at k3
        dsimp only at k3
        rw [List.append_nil] at k3
        refine ⟨i3, ?_⟩
        have hl : ¬ (fmGo ⟨0, 0, 1⟩ (T.1.map kt)).1.length < T.1.length := by
          rw [k3, k1]
          simp only [List.append_nil]
          omega
        rw [parse_rest h hT he rfl hl (by rw [k3]), k3]
        dsimp only
        have hop : o.length = p.length := fmTo_pre i1 i2
        rw [hpr, List.append_nil, List.zip_append hop, ps_app2, i4]
        have e2 : ∀ q, psGo q ((-1 :: (thrL ts ++ [-1])).zip (w :: (p' ++ [s']))) = psThr q ts := fun q => by
          show psGo q ((-1, w) :: (thrL ts ++ [-1]).zip (p' ++ [s'])) = _
          rw [ps_skip, List.zip_append (thr_len ts p' j3), ps_app2, thr_ps ts p' q j3]
          cases psThr q ts with
          | error e => rfl
          | ok q' =>
            show psGo q' [(-1, s')] = _
            rw [ps_skip]; rfl
        simp only [e2]
        cases (psParts 0 ps0 P).bind fun q' => psThr q' ts <;> rfl
end

end Go.Proofs.Ytbgiliophmofgaa
namespace Go.Proofs.Ytbgiliophmofgaa
open Go.RowKit
set_option linter.unusedVariables false

def appT (l : List Tok) (r : TokR) : TokR := if r.2.1 = 0 then (l ++ r.1, 0, 0) else ([], r.2.1, r.2.2)
theorem appT_cons (l : List Tok) (t : Tok) (r : TokR) : appT l (consT t r) = appT (l ++ [t]) r := by
  unfold appT consT
  by_cases h : r.2.1 = 0
  · rw [if_pos h, if_pos rfl, if_pos h]; simp
  · rw [if_neg h, if_neg h, if_neg h]
theorem consT_wf (t : Tok) (r : TokR) : appT [] (consT t r) = consT t r := by
  unfold appT consT
  by_cases h : r.2.1 = 0
  · rw [if_pos h, if_pos rfl]; rfl
  · rw [if_neg h, if_neg h]
theorem tokR_wf : ∀ (f p : Nat) (s : Str), appT [] (tokR f p s) = tokR f p s
  | 0, _, _ => rfl
  | _ + 1, _, [] => rfl
  | f + 1, p, c :: r => by
    rw [tokR]
    split
    · exact tokR_wf f _ _
    · split
      · exact consT_wf _ _
      · split
        · rfl
        · split
          · rfl
          · exact consT_wf _ _
def chN (s : Str) (p : Nat) : Nat := (s[p]?.getD 0).toNat
theorem drop_at {s : Str} {p : Nat} (h : p < s.length) : s.drop p = (s[p]?.getD 0) :: s.drop (p + 1) := by
  rw [List.drop_eq_getElem_cons h, List.getElem?_eq_getElem h, Option.getD_some]
theorem ch_eq {c : UInt8} {n : Nat} (hn : n < 256) (h : c.toNat = n) : c = UInt8.ofNat n := by
  apply UInt8.toNat_inj.1
  rw [h, UInt8.toNat_ofNat', Nat.mod_eq_of_lt hn]
section
variable {s : Str} {p f : Nat}
theorem step_blank (h : p < s.length) (hf : s.length - p < f) (hc : chN s p = 32 ∨ chN s p = 10) : tokR f p (s.drop p) = tokR (f - 1) (p + 1) (s.drop (p + 1)) := by
  obtain ⟨g, rfl⟩ : ∃ g, f = g + 1 := ⟨f - 1, by omega⟩
  rw [drop_at h, tokR, if_pos (by
    rcases hc with hc | hc
    · exact .inl (ch_eq (n := 32) (by omega) hc)
    · exact .inr (ch_eq (n := 10) (by omega) hc))]
  rfl
theorem ch_not {c : UInt8} {n : Nat} (h : c.toNat ≠ n) (hn : n < 256) : c ≠ UInt8.ofNat n := fun e => h (by rw [e, UInt8.toNat_ofNat', Nat.mod_eq_of_lt hn])
theorem step_sign (h : p < s.length) (hf : s.length - p < f) (hc : chN s p = 59 ∨ chN s p = 44) : tokR f p (s.drop p) = consT ⟨false, [s[p]?.getD 0], p⟩ (tokR (f - 1) (p + 1) (s.drop (p + 1))) := by
  obtain ⟨g, rfl⟩ : ∃ g, f = g + 1 := ⟨f - 1, by omega⟩
  have hn : chN s p ≠ 32 ∧ chN s p ≠ 10 := by omega
  rw [drop_at h, tokR, if_neg (by
    rintro (e | e)
    · exact ch_not hn.1 (by omega) e
    · exact ch_not hn.2 (by omega) e), if_pos (by
    rcases hc with hc | hc
    · exact .inl (ch_eq (n := 59) (by omega) hc)
    · exact .inr (ch_eq (n := 44) (by omega) hc))]
  rfl
/-- What stands in a name behind its first byte. -/
def twL (s : Str) (p : Nat) : Str := (s.drop (p + 1)).takeWhile insB
theorem step_other (h : p < s.length) (hf : s.length - p < f) (h1 : chN s p ≠ 32) (h2 : chN s p ≠ 10) (h3 : chN s p ≠ 59) (h4 : chN s p ≠ 44) : tokR f p (s.drop p) = if letN (chN s p) = false then ([], 2, p) else if 16 < (twL s p).length + 1 then ([], 1, p) else consT ⟨true, (s[p]?.getD 0) :: twL s p, p⟩ (tokR (f - 1) (p + 1 + (twL s p).length) (s.drop (p + 1 + (twL s p).length))) := by
  obtain ⟨g, rfl⟩ : ∃ g, f = g + 1 := ⟨f - 1, by omega⟩
  rw [drop_at h, tokR, if_neg (by
    rintro (e | e)
    · exact ch_not h1 (by omega) e
    · exact ch_not h2 (by omega) e), if_neg (by
    rintro (e | e)
    · exact ch_not h3 (by omega) e
    · exact ch_not h4 (by omega) e), List.drop_drop]
  rfl
theorem tw_le : (twL s p).length ≤ s.length - (p + 1) := by
  unfold twL
  have := (List.takeWhile_prefix insB (l := s.drop (p + 1))).length_le
  rw [List.length_drop] at this; exact this
theorem takeW_at {α : Type} (f : α → Bool) : ∀ (l : List α) (j : Nat) (x : α), l[j]? = some x → j < (l.takeWhile f).length → f x = true
  | [], j, x, h, _ => by simp at h
  | a :: r, j, x, h, hj => by
    by_cases ha : f a = true
    · rw [List.takeWhile_cons_of_pos ha, List.length_cons] at hj
      cases j with
      | zero =>
        have : a = x := by simpa using h
        rw [← this]; exact ha
      | succ j => exact takeW_at f r j x (by simpa using h) (by omega)
    · rw [List.takeWhile_cons_of_neg ha] at hj; simp at hj
theorem takeW_end {α : Type} (f : α → Bool) : ∀ (l : List α) (x : α), l[(l.takeWhile f).length]? = some x → f x = false
  | [], x, h => by simp at h
  | a :: r, x, h => by
    by_cases ha : f a = true
    · rw [List.takeWhile_cons_of_pos ha, List.length_cons, List.getElem?_cons_succ] at h
      exact takeW_end f r x h
    · rw [List.takeWhile_cons_of_neg ha] at h
      have : a = x := by simpa using h
      rw [← this]; simpa using ha
theorem tw_on {j : Nat} (hj : j < (twL s p).length) : p + 1 + j < s.length ∧ insN (chN s (p + 1 + j)) = true := by
  have h1 := tw_le (s := s) (p := p)
  refine ⟨by omega, ?_⟩
  have h2 : (s.drop (p + 1))[j]? = some (s[p + 1 + j]?.getD 0) := by
    rw [List.getElem?_drop, List.getElem?_eq_getElem (by omega), Option.getD_some]
  exact takeW_at insB _ j _ h2 hj
theorem tw_off {j : Nat} (hj : j = (twL s p).length) (hl : p + 1 + j < s.length) : insN (chN s (p + 1 + j)) = false := by
  have h2 : (s.drop (p + 1))[(twL s p).length]? = some (s[p + 1 + j]?.getD 0) := by
    rw [← hj, List.getElem?_drop, List.getElem?_eq_getElem (by omega), Option.getD_some]
  exact takeW_end insB _ _ h2
theorem word_take (h : p < s.length) : (s.drop p).take ((twL s p).length + 1) = (s[p]?.getD 0) :: twL s p := by
  rw [drop_at h, List.take_succ_cons]
  congr 1
  exact (List.prefix_iff_eq_take.1 (List.takeWhile_prefix insB)).symm
end

end Go.Proofs.Ytbgiliophmofgaa
namespace Go.Proofs.Ytbgiliophmofgaa
open Go.RowKit
set_option linter.unusedVariables false

/-- A row of strings, with its capacity. -/
structure SlS (w : World) (a : Option Addr) (c : Nat) (xs : List Str) : Prop where
  at_ : AtS w a xs
  le : xs.length ≤ c
  max : c ≤ maxLen
  nil : a = none → c = 0
theorem SlS.len {w : World} {a : Option Addr} {c : Nat} {xs : List Str} (h : SlS w a c xs) : xs.length ≤ maxLen := Nat.le_trans h.le h.max
theorem SlS.below {w w' : World} {a : Option Addr} {c : Nat} {xs : List Str} {B : Nat} (h : SlS w a c xs) (hb : Below B w w') (hB : w.heap.size ≤ B) : SlS w' a c xs := ⟨h.at_.below hb hB, h.le, h.max, h.nil⟩
/-- Where a project's slices lie. -/
structure PJL where
  sa : Option Addr
  sc : Nat
  ea : Option Addr
  ec : Nat
  l : ML
  na : Option Addr
  nc : Nat
  fa : Option Addr
  fc : Nat
  ta : Option Addr
  tc : Nat
  ca : Option Addr
  cc : Nat
abbrev pjcells (p : Proj) (L : PJL) : Array Value := #[.slice L.sa p.states.length L.sc, .slice L.ea p.events.length L.ec, .int .i64 p.m.st, .int .i64 p.m.ev, .slice L.l.a1 p.m.starts.length L.l.c1, .slice L.l.a2 p.m.arrows.length L.l.c2, .slice L.l.a3 p.m.ends.length L.l.c3, .slice L.na p.seen.length L.nc, .slice L.fa p.free.length L.fc, .slice L.ta p.faults.length L.tc, .slice L.ca p.secret.length L.cc]
abbrev pjval (p : Proj) (L : PJL) : Value := .agg (pjcells p L)
structure PjAt (w : World) (p : Proj) (L : PJL) : Prop where
  s : SlS w L.sa L.sc p.states
  e : SlS w L.ea L.ec p.events
  m : MAt w p.m L.l
  n : Sl w L.na L.nc p.seen
  f : Sl w L.fa L.fc p.free
  t : Sl w L.ta L.tc p.faults
  c : Sl w L.ca L.cc p.secret
theorem PjAt.below {w w' : World} {p : Proj} {L : PJL} {B : Nat} (h : PjAt w p L) (hb : Below B w w') (hB : w.heap.size ≤ B) : PjAt w' p L :=
  ⟨h.s.below hb hB, h.e.below hb hB, h.m.below hb hB, h.n.below hb hB, h.f.below hb hB, h.t.below hb hB, h.c.below hb hB⟩
theorem pjcell_at {W : World} {b : Nat} {p : Proj} {L : PJL} (h : Blk W b 28 (pjcells p L)) : W.cell? ⟨b, 0, none⟩ = some (.slice L.sa p.states.length L.sc) ∧ W.cell? ⟨b, 1, none⟩ = some (.slice L.ea p.events.length L.ec) ∧ W.cell? ⟨b, 2, none⟩ = some (.int .i64 p.m.st) ∧ W.cell? ⟨b, 3, none⟩ = some (.int .i64 p.m.ev) ∧ W.cell? ⟨b, 4, none⟩ = some (.slice L.l.a1 p.m.starts.length L.l.c1) ∧ W.cell? ⟨b, 5, none⟩ = some (.slice L.l.a2 p.m.arrows.length L.l.c2) ∧ W.cell? ⟨b, 6, none⟩ = some (.slice L.l.a3 p.m.ends.length L.l.c3) ∧ W.cell? ⟨b, 7, none⟩ = some (.slice L.na p.seen.length L.nc) ∧ W.cell? ⟨b, 8, none⟩ = some (.slice L.fa p.free.length L.fc) ∧ W.cell? ⟨b, 9, none⟩ = some (.slice L.ta p.faults.length L.tc) ∧ W.cell? ⟨b, 10, none⟩ = some (.slice L.ca p.secret.length L.cc) :=
  ⟨h.cell 0 rfl, h.cell 1 rfl, h.cell 2 rfl, h.cell 3 rfl, h.cell 4 rfl, h.cell 5 rfl, h.cell 6 rfl, h.cell 7 rfl, h.cell 8 rfl, h.cell 9 rfl, h.cell 10 rfl⟩

end Go.Proofs.Ytbgiliophmofgaa
namespace Go.Proofs.Ytbgiliophmofgaa
open Go.ChangeShapes Go.WideShapes Go.ChangeAt Go.RowKit Go.Deep
set_option linter.unusedVariables false
set_option maxRecDepth 100000

section
variable {H : Type} {enc : TypeId × Value → H} {W : World}
theorem strV_of (S : ByteArray) : (.string S : Value) = strV S.data.toList := by
  cases S; rfl
/-- A STRING THAT CAME IN. -/
theorem open_strV {base : Nat} {v : Value} {d : DataW H} {p : List MemPlace} (hv : Value.okWide Try.prog W .any base 9 v) (h : DataW.Trod enc Try.prog W 0 (fun _ => true) true 9 v d p) : ∃ s : Str, v = strV s ∧ s.length ≤ maxLen := by
  obtain ⟨s, rfl⟩ := okWide_string Try.underlying9 hv
  obtain ⟨fuel, hf⟩ := h
  obtain ⟨s', h, hx, hs⟩ := DataW.trod_string Try.underlying9 hf
  simp [Value.cells] at h
  subst h
  exact ⟨s.data.toList, strV_of s, by rw [Array.length_toList]; exact hs⟩
end

end Go.Proofs.Ytbgiliophmofgaa
namespace Go.Proofs.Ytbgiliophmofgaa
open Go.RowKit
set_option linter.unusedVariables false

theorem sameB_selfJ : ∀ xs : List Int, sameB xs xs = true := by intro xs; simp [sameB]
theorem sameA_selfJ : ∀ l : List Arr, sameA l l = true
  | [] => rfl
  | a :: r => by simp [sameA, sameA_selfJ r]
theorem sameM_selfJ (m : Mach) : sameM m m = true := by
  rw [sameM_go rfl rfl (sameB_selfJ _) (sameB_selfJ _) rfl]; exact sameA_selfJ _

set_option maxRecDepth 100000 in
set_option maxHeartbeats 8000000 in
theorem same16_self (p : Proj) (A C : PJL) (w : World) (hA0 : PjAt w p A) (hC0 : PjAt w p C) :
    Calls Try.prog 9 #[pjval p A, pjval p C] w fun e w' => e = .returned (.bool true) ∧ Below w.heap.size w w' := by
  have hA := Hid.of hA0
  have hC := Hid.of hC0
  clear hA0 hC0
  have B : Hid (Below w.heap.size w ((w.alloc (.cells (pjcells p A) 28)).alloc (.cells (pjcells p C) 28))) := ((Below.refl _ _).alloc (Nat.le_refl _) _).alloc (by simp) _
  have K1 : Hid (Blk ((w.alloc (.cells (pjcells p A) 28)).alloc (.cells (pjcells p C) 28)) w.heap.size 28 (pjcells p A)) := (Blk.new w _ _).alloc _
  have K2 : Hid (Blk ((w.alloc (.cells (pjcells p A) 28)).alloc (.cells (pjcells p C) 28)) (w.heap.size + 1) 28 (pjcells p C)) := by
    have := Blk.new (w.alloc (.cells (pjcells p A) 28)) 28 (pjcells p C)
    rwa [World.size_alloc] at this
  go_enter Try.func9, Try.ntmps9
  obtain ⟨x0, x1, x2, x3, x4, x5, x6, x7, x8, x9, x10⟩ := pjcell_at K1.out
  obtain ⟨y0, y1, y2, y3, y4, y5, y6, y7, y8, y9, y10⟩ := pjcell_at K2.out
  go_wp2_with fail
  clear x0 x1 x2 x3 x4 x5 x6 x7 x8 x9 x10 y0 y1 y2 y3 y4 y5 y6 y7 y8 y9 y10
  revert B K1 K2
  generalize ((w.alloc (.cells (pjcells p A) 28)).alloc (.cells (pjcells p C) 28)) = V0
  intro B K1 K2
  refine (texts_any A.sa C.sa A.sc C.sc p.states p.states V0 (hA.out.s.at_.below B.out (Nat.le_refl _)) (hC.out.s.at_.below B.out (Nat.le_refl _)) hA.out.s.len).mono ?_
  rintro e1 W ⟨rfl, q, rfl⟩
  rw [decide_eq_true (rfl : _ = _)]
  replace B : Hid (Below w.heap.size w (V0.drewN q)) := below_drewN B.out q
  replace K1 : Hid (Blk (V0.drewN q) w.heap.size 28 (pjcells p A)) := K1.out
  replace K2 : Hid (Blk (V0.drewN q) (w.heap.size + 1) 28 (pjcells p C)) := K2.out
  revert B K1 K2
  generalize V0.drewN q = V1
  intro B K1 K2
  obtain ⟨x0, x1, x2, x3, x4, x5, x6, x7, x8, x9, x10⟩ := pjcell_at K1.out
  obtain ⟨y0, y1, y2, y3, y4, y5, y6, y7, y8, y9, y10⟩ := pjcell_at K2.out
  go_wp2_with fail
  clear x0 x1 x2 x3 x4 x5 x6 x7 x8 x9 x10 y0 y1 y2 y3 y4 y5 y6 y7 y8 y9 y10
  refine (texts_any A.ea C.ea A.ec C.ec p.events p.events V1 (hA.out.e.at_.below B.out (Nat.le_refl _)) (hC.out.e.at_.below B.out (Nat.le_refl _)) hA.out.e.len).mono ?_
  rintro e1 W ⟨rfl, q, rfl⟩
  rw [decide_eq_true (rfl : _ = _)]
  replace B : Hid (Below w.heap.size w (V1.drewN q)) := below_drewN B.out q
  replace K1 : Hid (Blk (V1.drewN q) w.heap.size 28 (pjcells p A)) := K1.out
  replace K2 : Hid (Blk (V1.drewN q) (w.heap.size + 1) 28 (pjcells p C)) := K2.out
  revert B K1 K2
  generalize V1.drewN q = V2
  intro B K1 K2
  obtain ⟨x0, x1, x2, x3, x4, x5, x6, x7, x8, x9, x10⟩ := pjcell_at K1.out
  obtain ⟨y0, y1, y2, y3, y4, y5, y6, y7, y8, y9, y10⟩ := pjcell_at K2.out
  go_wp2_with fail
  clear x0 x1 x2 x3 x4 x5 x6 x7 x8 x9 x10 y0 y1 y2 y3 y4 y5 y6 y7 y8 y9 y10
  refine (refMSame_any p.m p.m A.l C.l V2 (hA.out.m.below B.out (Nat.le_refl _)) (hC.out.m.below B.out (Nat.le_refl _))).mono ?_
  rintro e1 V3 ⟨rfl, hb⟩
  rw [sameM_selfJ]
  replace B := Hid.of (B.out.trans (hb.mono B.out.size))
  replace K1 := Hid.of (K1.out.below hb K1.out.lt)
  replace K2 := Hid.of (K2.out.below hb K2.out.lt)
  clear hb
  obtain ⟨x0, x1, x2, x3, x4, x5, x6, x7, x8, x9, x10⟩ := pjcell_at K1.out
  obtain ⟨y0, y1, y2, y3, y4, y5, y6, y7, y8, y9, y10⟩ := pjcell_at K2.out
  go_wp2_with fail
  clear x0 x1 x2 x3 x4 x5 x6 x7 x8 x9 x10 y0 y1 y2 y3 y4 y5 y6 y7 y8 y9 y10
  refine (same_any A.na C.na A.nc C.nc p.seen p.seen V3 (hA.out.n.at_.below B.out (Nat.le_refl _)) (hC.out.n.at_.below B.out (Nat.le_refl _)) hA.out.n.len hC.out.n.len).mono ?_
  rintro e1 W ⟨rfl, q, rfl⟩
  rw [sameB_selfJ]
  replace B : Hid (Below w.heap.size w (V3.drewN q)) := below_drewN B.out q
  replace K1 : Hid (Blk (V3.drewN q) w.heap.size 28 (pjcells p A)) := K1.out
  replace K2 : Hid (Blk (V3.drewN q) (w.heap.size + 1) 28 (pjcells p C)) := K2.out
  revert B K1 K2
  generalize V3.drewN q = V4
  intro B K1 K2
  obtain ⟨x0, x1, x2, x3, x4, x5, x6, x7, x8, x9, x10⟩ := pjcell_at K1.out
  obtain ⟨y0, y1, y2, y3, y4, y5, y6, y7, y8, y9, y10⟩ := pjcell_at K2.out
  go_wp2_with fail
  clear x0 x1 x2 x3 x4 x5 x6 x7 x8 x9 x10 y0 y1 y2 y3 y4 y5 y6 y7 y8 y9 y10
  refine (same_any A.fa C.fa A.fc C.fc p.free p.free V4 (hA.out.f.at_.below B.out (Nat.le_refl _)) (hC.out.f.at_.below B.out (Nat.le_refl _)) hA.out.f.len hC.out.f.len).mono ?_
  rintro e1 W ⟨rfl, q, rfl⟩
  rw [sameB_selfJ]
  replace B : Hid (Below w.heap.size w (V4.drewN q)) := below_drewN B.out q
  replace K1 : Hid (Blk (V4.drewN q) w.heap.size 28 (pjcells p A)) := K1.out
  replace K2 : Hid (Blk (V4.drewN q) (w.heap.size + 1) 28 (pjcells p C)) := K2.out
  revert B K1 K2
  generalize V4.drewN q = V5
  intro B K1 K2
  obtain ⟨x0, x1, x2, x3, x4, x5, x6, x7, x8, x9, x10⟩ := pjcell_at K1.out
  obtain ⟨y0, y1, y2, y3, y4, y5, y6, y7, y8, y9, y10⟩ := pjcell_at K2.out
  go_wp2_with fail
  clear x0 x1 x2 x3 x4 x5 x6 x7 x8 x9 x10 y0 y1 y2 y3 y4 y5 y6 y7 y8 y9 y10
  refine (same_any A.ta C.ta A.tc C.tc p.faults p.faults V5 (hA.out.t.at_.below B.out (Nat.le_refl _)) (hC.out.t.at_.below B.out (Nat.le_refl _)) hA.out.t.len hC.out.t.len).mono ?_
  rintro e1 W ⟨rfl, q, rfl⟩
  rw [sameB_selfJ]
  replace B : Hid (Below w.heap.size w (V5.drewN q)) := below_drewN B.out q
  replace K1 : Hid (Blk (V5.drewN q) w.heap.size 28 (pjcells p A)) := K1.out
  replace K2 : Hid (Blk (V5.drewN q) (w.heap.size + 1) 28 (pjcells p C)) := K2.out
  revert B K1 K2
  generalize V5.drewN q = V6
  intro B K1 K2
  obtain ⟨x0, x1, x2, x3, x4, x5, x6, x7, x8, x9, x10⟩ := pjcell_at K1.out
  obtain ⟨y0, y1, y2, y3, y4, y5, y6, y7, y8, y9, y10⟩ := pjcell_at K2.out
  go_wp2_with fail
  clear x0 x1 x2 x3 x4 x5 x6 x7 x8 x9 x10 y0 y1 y2 y3 y4 y5 y6 y7 y8 y9 y10
  refine (same_any A.ca C.ca A.cc C.cc p.secret p.secret V6 (hA.out.c.at_.below B.out (Nat.le_refl _)) (hC.out.c.at_.below B.out (Nat.le_refl _)) hA.out.c.len hC.out.c.len).mono ?_
  rintro e1 W ⟨rfl, q, rfl⟩
  rw [sameB_selfJ]
  replace B : Hid (Below w.heap.size w (V6.drewN q)) := below_drewN B.out q
  replace K1 : Hid (Blk (V6.drewN q) w.heap.size 28 (pjcells p A)) := K1.out
  replace K2 : Hid (Blk (V6.drewN q) (w.heap.size + 1) 28 (pjcells p C)) := K2.out
  revert B K1 K2
  generalize V6.drewN q = V7
  intro B K1 K2
  go_wp2_with fail
  exact bodyPost_ret (v := .bool true) (by simp [results, go_sem]) rfl ⟨rfl, B.out⟩

end Go.Proofs.Ytbgiliophmofgaa
namespace Go.Proofs.Ytbgiliophmofgaa
open Go.RowKit
set_option linter.unusedVariables false

theorem Try.infoToken : (Try.prog.info? 56).map (fun i => (i.zero, i.size, i.bytes)) = some (some (.agg #[.int .i64 0, .string ⟨#[]⟩, .int .i64 0]), 3, 32) := by kernel_rfl
def tkcells (t : Tok) : List Value := [.int .i64 (if t.word = true then 1 else 3), strV t.text, .int .i64 (t.pos : Int)]
def tkflat (L : List Tok) : List Value := L.flatMap tkcells
abbrev OwnTk (W : World) (B : Nat) (v : Value) (L : List Tok) : Prop := W.ownsRow B 56 3 v L.length (tkflat L)
theorem ownTk_snoc {W : World} {B : Nat} {v : Value} {L : List Tok} {t : Tok} {cs : List Value} (hc : tkcells t = cs) (h : W.ownsRow B 56 3 v (L.length + 1) (tkflat L ++ cs)) : OwnTk W B v (L ++ [t]) := by
  show W.ownsRow B 56 3 v (L ++ [t]).length (tkflat (L ++ [t]))
  have e : tkflat (L ++ [t]) = tkflat L ++ cs := by unfold tkflat; rw [List.flatMap_append, ← hc]; simp
  rw [e, List.length_append]; exact h
theorem own_low16 {W : World} {B B' s n : Nat} {e : TypeId} {v : Value} {xs : List Value} (h : W.ownsRow B e s v n xs) (hB : B' ≤ B) : W.ownsRow B' e s v n xs := ⟨h.1, h.2.imp id fun ⟨g, cap, cur, h1, h2, h3⟩ => ⟨g, cap, cur, h1, Nat.le_trans hB h2, h3⟩⟩
theorem results_fault {fn : Func} {p u : Tmp} (h : fn.results = #[.tmp u, .cell p 31]) (tmps : Array Value) (w : World) (g : Nat) (x a b : Value) (hp : tmps.getD p undef = .pointer (some ⟨g, 0, none⟩)) (hu : tmps.getD u undef = x) (hB : Blk w g 31 #[a, b]) :
    (results fn tmps).run Try.prog w = .ok (.tuple #[x, .agg #[a, b]]) w := by
  have x0 : w.cell? ⟨g, 0, none⟩ = some a := hB.cell 0 rfl
  have x1 : w.cell? ⟨g, 1, none⟩ = some b := hB.cell 1 rfl
  have e : (results fn tmps).run Try.prog w = ((asAddr (tmps.getD p undef)).run Try.prog w).andThen fun a w₁ => ((loadVar 31 a).run Try.prog w₁).andThen fun r w₂ => .ok (.tuple #[tmps.getD u undef, r]) w₂ := by
    simp only [results, h]
    simp [Sem.run_bind, Result.andThen]
  rw [e, hp, hu]
  go_simp
theorem str_at {s : Str} {S : ByteArray} (hS : S = ⟨s.toArray⟩) {k : Nat} : ∀ h, (S[k]'h).toNat = chN s k := by
  subst hS
  intro h
  have hk : k < s.length := by simpa [ByteArray.size] using h
  unfold chN
  rw [List.getElem?_eq_getElem hk, Option.getD_some]
  rfl

set_option maxRecDepth 100000 in
set_option maxHeartbeats 8000000 in
theorem tokens_any (s : Str) (hs : s.length ≤ 4000) (w : World) :
    Calls Try.prog 22 #[strV s] w fun e w' => ∃ v, e = .returned (.tuple #[v, .agg #[.int .i64 (tokR (s.length + 1) 0 s).2.1, .int .i64 ((tokR (s.length + 1) 0 s).2.2 : Int)]]) ∧ OwnTk w' w.heap.size v (tokR (s.length + 1) 0 s).1 ∧ Below w.heap.size w w' := by
  obtain ⟨i0, hi, hz0, hz1, hz2⟩ := info_parts Try.infoToken
  have hsz : (⟨s.toArray⟩ : ByteArray).size = s.length := by simp [ByteArray.size]
  obtain ⟨S, HS⟩ : ∃ S : ByteArray, Hid (S = ⟨s.toArray⟩) := ⟨_, rfl⟩
  have e0 : strV s = .string S := by rw [HS.out]
  rw [e0]
  rw [← HS.out] at hsz
  clear e0
  obtain ⟨T, HT⟩ : ∃ T, Hid (tokR (s.length + 1) 0 s = T) := ⟨_, rfl⟩
  rw [HT.out]
  have BF : Hid (Below w.heap.size w (w.alloc (.cells #[.int .i64 0, .int .i64 0] 31))) := (Below.refl _ _).alloc (Nat.le_refl _) _
  have KF : Hid (Blk (w.alloc (.cells #[.int .i64 0, .int .i64 0] 31)) w.heap.size 31 #[.int .i64 0, .int .i64 0]) := Blk.new w _ _
  go_enter Try.func22, Try.ntmps22
  go_wp2_with fail
  revert BF KF
  generalize w.alloc (.cells #[.int .i64 0, .int .i64 0] 31) = V
  intro BF KF
  go_loopw [4, 5] (fun v i wr => ∃ (p f : Nat) (l : List Tok), i = .int .i64 p ∧ p ≤ s.length ∧ l.length ≤ p ∧ Hid (s.length - p < f) ∧ Hid (T = appT l (tokR f p (s.drop p))) ∧ Hid (OwnTk wr (w.heap.size + 1) v l) ∧ Hid (Blk wr w.heap.size 31 #[.int .i64 0, .int .i64 0]) ∧ Hid (Below w.heap.size w wr)) (fun _ i _ => s.length - (intOf i).toNat)
  case atStart => exact ⟨0, s.length + 1, [], rfl, Nat.zero_le _, Nat.le_refl _, (by show _ < _; omega), (by show T = _; rw [← HT.out, List.drop_zero, tokR_wf]), World.ownsRow_nil _ _ _ _, KF, BF⟩
  case round =>
    clear BF KF
    obtain ⟨p, f, l, rfl, hp, hlp, HF, HI, HO, HK, HB⟩ := hrel
    obtain ⟨va, vc, hv, -, -, -⟩ := own_form2 HO.out
    subst hv
    by_cases hlt : p < s.length
    · have hpS : p < S.size := by rw [hsz]; exact hlt
      have hpI : (p : Int) < (s.length : Int) := by omega
      have hix : ∀ h, (S[p]'h).toNat = chN s p := str_at HS.out
      have HBA : Hid (w.heap.size + 1 ≤ wr.heap.size) := HK.out.lt
      obtain ⟨n, HN⟩ : ∃ n, Hid (chN s p = n) := ⟨_, rfl⟩
      rw [HN.out] at hix
      by_cases hb : n = 32 ∨ n = 10
      · have HI2 : Hid (T = appT l (tokR (f - 1) (p + 1) (s.drop (p + 1)))) := by show _ = _; rw [HI.out, step_blank hlt HF.out (by rw [HN.out]; exact hb)]
        have hf2 : Hid (s.length - (p + 1) < f - 1) := by show _ < _; have := HF.out; omega
        rcases hb with hb | hb
        · subst hb
          go_wp2_with fail
          go_roundw
          case rel => exact ⟨p + 1, f - 1, l, by go_num, by omega, by omega, hf2, HI2, HO, HK, HB⟩
          case measure => simp [intOf]; omega
        · subst hb
          go_wp2_with fail
          go_roundw
          case rel => exact ⟨p + 1, f - 1, l, by go_num, by omega, by omega, hf2, HI2, HO, HK, HB⟩
          case measure => simp [intOf]; omega
      · by_cases hg : n = 59 ∨ n = 44
        · have HI2 : Hid (T = appT (l ++ [⟨false, [s[p]?.getD 0], p⟩]) (tokR (f - 1) (p + 1) (s.drop (p + 1)))) := by show _ = _; rw [HI.out, step_sign hlt HF.out (by rw [HN.out]; exact hg), appT_cons]
          have HEX : Hid (S.extract p (p + 1) = ⟨[s[p]?.getD 0].toArray⟩) := by
            show _ = _
            rw [HS.out, ByteArray.extract_mk, show p + 1 - p = 1 by omega, drop_at hlt]; rfl
          rcases hg with hg | hg
          · subst hg
            go_wp2_with (at_builtin; refine wpList_append_block _ rfl (.tmp 29) (.tmp 37) 42 rfl (w.heap.size + 1) 56 i0 _ 3 32 Try.underlying42 hi hz0 hz1 hz2 rfl (by decide) _ _ _ rfl (World.ownsRow.alloc HO.out _) ⟨wr.heap.size, 0, none⟩ 1 1 [.int .i64 3, .string (S.extract p (p + 1)), .int .i64 (p : Int)] rfl rfl (cells_three wr wr rfl _ _ _ _) (by intro u hu; simp at hu; rcases hu with rfl | rfl | rfl <;> rfl) (by decide) (by unfold maxLen; omega) (by omega) (Nat.le_trans HBA.out (by simp)) ?_)
            intro v9 W2 o9 g9 n9
            have HO2 : Hid (OwnTk W2 (w.heap.size + 1) v9 (l ++ [⟨false, [s[p]?.getD 0], p⟩])) := ownTk_snoc (by rw [HEX.out]; rfl) o9
            have HK2 : Hid (Blk W2 w.heap.size 31 #[.int .i64 0, .int .i64 0]) := (g9.block _ (Nat.lt_of_lt_of_le HK.out.lt (by simp)) (fun e => by have := (World.ownsRow.lt HO.out _ e.symm).1; omega)).trans ((Below.heap_alloc wr _ _ HK.out.lt).trans HK.out)
            have HB2 : Hid (Below w.heap.size w W2) := (HB.out.alloc HB.out.size _).grown g9 (Nat.le_trans HB.out.size (by simp)) (fun k hk => Nat.le_trans (Nat.le_succ _) (World.ownsRow.lt HO.out k hk).1)
            obtain ⟨va2, vc2, hv2, -, -, -⟩ := own_form2 HO2.out
            have hl2 : (l ++ [(⟨false, [s[p]?.getD 0], p⟩ : Tok)]).length = l.length + 1 := by simp
            rw [hl2] at hv2
            subst hv2
            clear o9 g9 n9 HO HK HB HBA
            go_wp2_with fail
            go_roundw
            case rel => exact ⟨p + 1, f - 1, l ++ [⟨false, [s[p]?.getD 0], p⟩], by go_num, by omega, by rw [hl2]; omega, (by show _ < _; have := HF.out; omega), HI2, HO2, HK2, HB2⟩
            case measure => simp [intOf]; omega
          · subst hg
            go_wp2_with (at_builtin; refine wpList_append_block _ rfl (.tmp 29) (.tmp 37) 42 rfl (w.heap.size + 1) 56 i0 _ 3 32 Try.underlying42 hi hz0 hz1 hz2 rfl (by decide) _ _ _ rfl (World.ownsRow.alloc HO.out _) ⟨wr.heap.size, 0, none⟩ 1 1 [.int .i64 3, .string (S.extract p (p + 1)), .int .i64 (p : Int)] rfl rfl (cells_three wr wr rfl _ _ _ _) (by intro u hu; simp at hu; rcases hu with rfl | rfl | rfl <;> rfl) (by decide) (by unfold maxLen; omega) (by omega) (Nat.le_trans HBA.out (by simp)) ?_)
            intro v9 W2 o9 g9 n9
            have HO2 : Hid (OwnTk W2 (w.heap.size + 1) v9 (l ++ [⟨false, [s[p]?.getD 0], p⟩])) := ownTk_snoc (by rw [HEX.out]; rfl) o9
            have HK2 : Hid (Blk W2 w.heap.size 31 #[.int .i64 0, .int .i64 0]) := (g9.block _ (Nat.lt_of_lt_of_le HK.out.lt (by simp)) (fun e => by have := (World.ownsRow.lt HO.out _ e.symm).1; omega)).trans ((Below.heap_alloc wr _ _ HK.out.lt).trans HK.out)
            have HB2 : Hid (Below w.heap.size w W2) := (HB.out.alloc HB.out.size _).grown g9 (Nat.le_trans HB.out.size (by simp)) (fun k hk => Nat.le_trans (Nat.le_succ _) (World.ownsRow.lt HO.out k hk).1)
            obtain ⟨va2, vc2, hv2, -, -, -⟩ := own_form2 HO2.out
            have hl2 : (l ++ [(⟨false, [s[p]?.getD 0], p⟩ : Tok)]).length = l.length + 1 := by simp
            rw [hl2] at hv2
            subst hv2
            clear o9 g9 n9 HO HK HB HBA
            go_wp2_with fail
            go_roundw
            case rel => exact ⟨p + 1, f - 1, l ++ [⟨false, [s[p]?.getD 0], p⟩], by go_num, by omega, by rw [hl2]; omega, (by show _ < _; have := HF.out; omega), HI2, HO2, HK2, HB2⟩
            case measure => simp [intOf]; omega
        · have m1 : n ≠ 32 := fun e => hb (Or.inl e)
          have m2 : n ≠ 10 := fun e => hb (Or.inr e)
          have m3 : n ≠ 59 := fun e => hg (Or.inl e)
          have m4 : n ≠ 44 := fun e => hg (Or.inr e)
          have HST := Hid.of (step_other hlt HF.out (by rw [HN.out]; exact m1) (by rw [HN.out]; exact m2) (by rw [HN.out]; exact m3) (by rw [HN.out]; exact m4))
          have b1 : ((n : Int) == 32) = false := beq_eq_false_iff_ne.2 (by omega)
          have b2 : ((n : Int) == 10) = false := beq_eq_false_iff_ne.2 (by omega)
          have b3 : ((n : Int) == 59) = false := beq_eq_false_iff_ne.2 (by omega)
          have b4 : ((n : Int) == 44) = false := beq_eq_false_iff_ne.2 (by omega)
          clear hb hg
          go_wp2_with fail
          refine (letter_nat n _).mono ?_
          rintro e w1 ⟨rfl, rfl⟩
          obtain ⟨lt, HLT⟩ : ∃ l, Hid (letN n = l) := ⟨_, rfl⟩
          rw [HLT.out]
          cases lt with
          | false =>
            have HTT : Hid (T = ([], 2, p)) := by show _ = _; rw [HI.out, HST.out, HN.out, HLT.out]; rfl
            clear HST HI HF HLT
            have z0 : w1.cell? ⟨w.heap.size, 0, none⟩ = some (.int .i64 0) := HK.out.cell 0 rfl
            have z1 : w1.cell? ⟨w.heap.size, 1, none⟩ = some (.int .i64 0) := HK.out.cell 1 rfl
            have fz := HK.out.frozen
            have KF2 := Hid.of ((HK.out.set 0 (.int .i64 2)).set 1 (.int .i64 (p : Int)))
            have BF2 := Hid.of ((HB.out.setCell (p := ⟨w.heap.size, 0, none⟩) (Nat.le_refl _) (.int .i64 2)).setCell (p := ⟨w.heap.size, 1, none⟩) (Nat.le_refl _) (.int .i64 (p : Int)))
            clear HK HB
            go_wp2_with fail
            refine bodyPost_ret (v := .tuple #[.slice none 0 0, .agg #[.int .i64 2, .int .i64 (p : Int)]]) (results_fault rfl _ _ _ _ _ _ rfl rfl KF2.out) rfl ⟨.slice none 0 0, by first | (rw [HTT.out]; done) | (rw [HTT.out]; rfl), by rw [HTT.out]; exact World.ownsRow_nil _ _ _ _, BF2.out⟩
          | true =>
            have HST2 : Hid (T = appT l (if 16 < (twL s p).length + 1 then ([], 1, p) else consT ⟨true, (s[p]?.getD 0) :: twL s p, p⟩ (tokR (f - 1) (p + 1 + (twL s p).length) (s.drop (p + 1 + (twL s p).length))))) := by show _ = _; rw [HI.out, HST.out, HN.out, HLT.out]; rfl
            clear HST HI HLT
            go_wp2_with fail
            obtain ⟨q, HQ⟩ : ∃ q, Hid (q = (twL s p).length) := ⟨_, rfl⟩
            have hq : p + 1 + q ≤ s.length := by have := tw_le (s := s) (p := p); have := HQ.out; omega
            go_loopw [7] (fun i wr' => ∃ k : Nat, i = .int .i64 (k : Int) ∧ 1 ≤ k ∧ k ≤ q + 1 ∧ wr' = w1) (fun i _ => q + 1 - (intOf i).toNat)
            case atStart => exact ⟨1, rfl, Nat.le_refl _, by omega, rfl⟩
            case round =>
              obtain ⟨k, rfl, hk1, hk2, rfl⟩ := hrel
              by_cases hkl : p + k < s.length
              · have hkS : p + k < S.size := by rw [hsz]; exact hkl
                have hkI : (p : Int) + (k : Int) < (s.length : Int) := by omega
                have hix2 : ∀ h, (S[p + k]'h).toNat = chN s (p + k) := str_at HS.out
                obtain ⟨m, HM⟩ : ∃ n, Hid (chN s (p + k) = n) := ⟨_, rfl⟩
                rw [HM.out] at hix2
                go_wp2_with fail
                refine (inside_nat m _).mono ?_
                rintro e w2 ⟨rfl, rfl⟩
                by_cases hkq : k ≤ q
                · have hi2 : insN m = true := by
                    have := (tw_on (s := s) (p := p) (j := k - 1) (by have := HQ.out; omega)).2
                    rw [show p + 1 + (k - 1) = p + k by omega, HM.out] at this
                    exact this
                  rw [hi2]
                  go_wp2_with fail
                  go_roundw
                  case rel => exact ⟨k + 1, by go_num, by omega, by omega, (by first | trivial | rfl)⟩
                  case measure => simp [intOf]; omega
                · have hi2 : insN m = false := by
                    have := tw_off (s := s) (p := p) (j := k - 1) (by have := HQ.out; omega) (by omega)
                    rw [show p + 1 + (k - 1) = p + k by omega, HM.out] at this
                    exact this
                  rw [hi2]
                  by_cases h16 : 16 < k
                  · have HTT : Hid (T = ([], 1, p)) := by show _ = _; rw [HST2.out, if_pos (by have := HQ.out; omega)]; rfl
                    have d16 : decide (16 < (k : Int)) = true := by simp; omega
                    have z0 : w2.cell? ⟨w.heap.size, 0, none⟩ = some (.int .i64 0) := HK.out.cell 0 rfl
                    have z1 : w2.cell? ⟨w.heap.size, 1, none⟩ = some (.int .i64 0) := HK.out.cell 1 rfl
                    have fz := HK.out.frozen
                    have KF2 := Hid.of ((HK.out.set 0 (.int .i64 1)).set 1 (.int .i64 (p : Int)))
                    have BF2 := Hid.of ((HB.out.setCell (p := ⟨w.heap.size, 0, none⟩) (Nat.le_refl _) (.int .i64 1)).setCell (p := ⟨w.heap.size, 1, none⟩) (Nat.le_refl _) (.int .i64 (p : Int)))
                    clear HK HB
                    go_wp2_with fail
                    refine bodyPost_ret (v := .tuple #[.slice none 0 0, .agg #[.int .i64 1, .int .i64 (p : Int)]]) (results_fault rfl _ _ _ _ _ _ rfl rfl KF2.out) rfl ⟨.slice none 0 0, by first | (rw [HTT.out]; done) | (rw [HTT.out]; rfl), by rw [HTT.out]; exact World.ownsRow_nil _ _ _ _, BF2.out⟩
                  · have HI2 : Hid (T = appT (l ++ [⟨true, (s[p]?.getD 0) :: twL s p, p⟩]) (tokR (f - 1) (p + k) (s.drop (p + k)))) := by show _ = _; rw [HST2.out, if_neg (by have := HQ.out; omega), appT_cons, show p + 1 + (twL s p).length = p + k by have := HQ.out; omega]
                    have HEX : Hid (S.extract p (p + k) = ⟨((s[p]?.getD 0) :: twL s p).toArray⟩) := by
                      show _ = _
                      rw [HS.out, ByteArray.extract_mk, show p + k - p = (twL s p).length + 1 by have := HQ.out; omega, word_take hlt]
                    have d16 : decide (16 < (k : Int)) = false := by simp; omega
                    go_wp2_with (at_builtin; refine wpList_append_block _ rfl (.tmp 64) (.tmp 73) 42 rfl (w.heap.size + 1) 56 i0 _ 3 32 Try.underlying42 hi hz0 hz1 hz2 rfl (by decide) _ _ _ rfl (World.ownsRow.alloc HO.out _) ⟨w2.heap.size, 0, none⟩ 1 1 [.int .i64 1, .string (S.extract p (p + k)), .int .i64 (p : Int)] rfl rfl (cells_three w2 w2 rfl _ _ _ _) (by intro u hu; simp at hu; rcases hu with rfl | rfl | rfl <;> rfl) (by decide) (by unfold maxLen; omega) (by omega) (Nat.le_trans HBA.out (by simp)) ?_)
                    intro v9 W2 o9 g9 n9
                    have HO2 : Hid (OwnTk W2 (w.heap.size + 1) v9 (l ++ [⟨true, (s[p]?.getD 0) :: twL s p, p⟩])) := ownTk_snoc (by rw [HEX.out]; rfl) o9
                    have HK2 : Hid (Blk W2 w.heap.size 31 #[.int .i64 0, .int .i64 0]) := (g9.block _ (Nat.lt_of_lt_of_le HK.out.lt (by simp)) (fun e => by have := (World.ownsRow.lt HO.out _ e.symm).1; omega)).trans ((Below.heap_alloc w2 _ _ HK.out.lt).trans HK.out)
                    have HB2 : Hid (Below w.heap.size w W2) := (HB.out.alloc HB.out.size _).grown g9 (Nat.le_trans HB.out.size (by simp)) (fun k hk => Nat.le_trans (Nat.le_succ _) (World.ownsRow.lt HO.out k hk).1)
                    obtain ⟨va2, vc2, hv2, -, -, -⟩ := own_form2 HO2.out
                    have hl2 : (l ++ [(⟨true, (s[p]?.getD 0) :: twL s p, p⟩ : Tok)]).length = l.length + 1 := by simp
                    rw [hl2] at hv2
                    subst hv2
                    clear o9 g9 n9 HO HK HB HBA
                    go_wp2_with fail
                    go_roundw
                    case rel => exact ⟨p + k, f - 1, l ++ [⟨true, (s[p]?.getD 0) :: twL s p, p⟩], by go_num, by omega, by rw [hl2]; omega, (by show _ < _; have := HF.out; omega), HI2, HO2, HK2, HB2⟩
                    case measure => simp [intOf]; omega
              · have hnI : ¬ ((p : Int) + (k : Int) < (s.length : Int)) := by omega
                have dnI : decide ((p : Int) + (k : Int) < (s.length : Int)) = false := decide_eq_false hnI
                by_cases h16 : 16 < k
                · have HTT : Hid (T = ([], 1, p)) := by show _ = _; rw [HST2.out, if_pos (by have := HQ.out; omega)]; rfl
                  have d16 : decide (16 < (k : Int)) = true := by simp; omega
                  have z0 : wr.cell? ⟨w.heap.size, 0, none⟩ = some (.int .i64 0) := HK.out.cell 0 rfl
                  have z1 : wr.cell? ⟨w.heap.size, 1, none⟩ = some (.int .i64 0) := HK.out.cell 1 rfl
                  have fz := HK.out.frozen
                  have KF2 := Hid.of ((HK.out.set 0 (.int .i64 1)).set 1 (.int .i64 (p : Int)))
                  have BF2 := Hid.of ((HB.out.setCell (p := ⟨w.heap.size, 0, none⟩) (Nat.le_refl _) (.int .i64 1)).setCell (p := ⟨w.heap.size, 1, none⟩) (Nat.le_refl _) (.int .i64 (p : Int)))
                  clear HK HB
                  go_wp2_with fail
                  refine bodyPost_ret (v := .tuple #[.slice none 0 0, .agg #[.int .i64 1, .int .i64 (p : Int)]]) (results_fault rfl _ _ _ _ _ _ rfl rfl KF2.out) rfl ⟨.slice none 0 0, by first | (rw [HTT.out]; done) | (rw [HTT.out]; rfl), by rw [HTT.out]; exact World.ownsRow_nil _ _ _ _, BF2.out⟩
                · have HI2 : Hid (T = appT (l ++ [⟨true, (s[p]?.getD 0) :: twL s p, p⟩]) (tokR (f - 1) (p + k) (s.drop (p + k)))) := by show _ = _; rw [HST2.out, if_neg (by have := HQ.out; omega), appT_cons, show p + 1 + (twL s p).length = p + k by have := HQ.out; omega]
                  have HEX : Hid (S.extract p (p + k) = ⟨((s[p]?.getD 0) :: twL s p).toArray⟩) := by
                    show _ = _
                    rw [HS.out, ByteArray.extract_mk, show p + k - p = (twL s p).length + 1 by have := HQ.out; omega, word_take hlt]
                  have d16 : decide (16 < (k : Int)) = false := by simp; omega
                  go_wp2_with (at_builtin; refine wpList_append_block _ rfl (.tmp 64) (.tmp 73) 42 rfl (w.heap.size + 1) 56 i0 _ 3 32 Try.underlying42 hi hz0 hz1 hz2 rfl (by decide) _ _ _ rfl (World.ownsRow.alloc HO.out _) ⟨wr.heap.size, 0, none⟩ 1 1 [.int .i64 1, .string (S.extract p (p + k)), .int .i64 (p : Int)] rfl rfl (cells_three wr wr rfl _ _ _ _) (by intro u hu; simp at hu; rcases hu with rfl | rfl | rfl <;> rfl) (by decide) (by unfold maxLen; omega) (by omega) (Nat.le_trans HBA.out (by simp)) ?_)
                  intro v9 W2 o9 g9 n9
                  have HO2 : Hid (OwnTk W2 (w.heap.size + 1) v9 (l ++ [⟨true, (s[p]?.getD 0) :: twL s p, p⟩])) := ownTk_snoc (by rw [HEX.out]; rfl) o9
                  have HK2 : Hid (Blk W2 w.heap.size 31 #[.int .i64 0, .int .i64 0]) := (g9.block _ (Nat.lt_of_lt_of_le HK.out.lt (by simp)) (fun e => by have := (World.ownsRow.lt HO.out _ e.symm).1; omega)).trans ((Below.heap_alloc wr _ _ HK.out.lt).trans HK.out)
                  have HB2 : Hid (Below w.heap.size w W2) := (HB.out.alloc HB.out.size _).grown g9 (Nat.le_trans HB.out.size (by simp)) (fun k hk => Nat.le_trans (Nat.le_succ _) (World.ownsRow.lt HO.out k hk).1)
                  obtain ⟨va2, vc2, hv2, -, -, -⟩ := own_form2 HO2.out
                  have hl2 : (l ++ [(⟨true, (s[p]?.getD 0) :: twL s p, p⟩ : Tok)]).length = l.length + 1 := by simp
                  rw [hl2] at hv2
                  subst hv2
                  clear o9 g9 n9 HO HK HB HBA
                  go_wp2_with fail
                  go_roundw
                  case rel => exact ⟨p + k, f - 1, l ++ [⟨true, (s[p]?.getD 0) :: twL s p, p⟩], by go_num, by omega, by rw [hl2]; omega, (by show _ < _; have := HF.out; omega), HI2, HO2, HK2, HB2⟩
                  case measure => simp [intOf]; omega
    · have hpe : p = s.length := by omega
      have HTT : Hid (T = (l, 0, 0)) := by
        show _ = _
        rw [HI.out, hpe, List.drop_length]
        obtain ⟨g, rfl⟩ : ∃ g, f = g + 1 := ⟨f - 1, by have := HF.out; omega⟩
        rw [tokR]; simp [appT]
      subst hpe
      clear hlt HI HF
      have z0 : wr.cell? ⟨w.heap.size, 0, none⟩ = some (.int .i64 0) := HK.out.cell 0 rfl
      have z1 : wr.cell? ⟨w.heap.size, 1, none⟩ = some (.int .i64 0) := HK.out.cell 1 rfl
      have fz := HK.out.frozen
      have KF2 := Hid.of ((HK.out.set 0 (.int .i64 0)).set 1 (.int .i64 0))
      have BF2 := Hid.of ((HB.out.setCell (p := ⟨w.heap.size, 0, none⟩) (Nat.le_refl _) (.int .i64 0)).setCell (p := ⟨w.heap.size, 1, none⟩) (Nat.le_refl _) (.int .i64 0))
      clear HK HB
      go_wp2_with fail
      refine bodyPost_ret (v := .tuple #[.slice va l.length vc, .agg #[.int .i64 0, .int .i64 0]]) (results_fault rfl _ _ _ _ _ _ rfl rfl KF2.out) rfl ⟨.slice va l.length vc, by first | (rw [HTT.out]; done) | (rw [HTT.out]; rfl), by rw [HTT.out]; exact own_low16 (ownsRow_set (ownsRow_set HO.out (Nat.lt_succ_self _) _) (Nat.lt_succ_self _) _) (Nat.le_succ _), BF2.out⟩

end Go.Proofs.Ytbgiliophmofgaa
