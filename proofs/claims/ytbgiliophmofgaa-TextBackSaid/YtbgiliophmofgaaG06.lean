/-
  Plain: projects as texts: tokens, their form, what they tell. No program, no model.
  Rows of strings in memory; the walk of jalousieref16.place.
  Plain: the text of a project (P4), and that it is read as that project (P5). No program, no model.
  Plain: the text of a project is read as that project (P5). No program, no model.
  Plain: the text of a project, piece by piece, as it is printed. No program, no model.
  Plain: how many tokens there are, which parts they are told to belong to; Parse's answer case by case. No program, no model.
  Plain: a text's tokens, read part by part; what is left where that fails. No program, no model.
-/
import Derived.Test.YtbgiliophmofgaaG05
import Derived.Test.YtbgiliophmofgaaG01
namespace Go.Proofs.Ytbgiliophmofgaa
open Go.RowKit
set_option linter.unusedVariables false

abbrev Str := List UInt8
/-! Tokens (P1). -/
def letN (n : Nat) : Bool := (decide (97 ≤ n) && decide (n ≤ 122)) || (decide (65 ≤ n) && decide (n ≤ 90))
def insN (n : Nat) : Bool := letN n || (decide (48 ≤ n) && decide (n ≤ 57)) || decide (n = 95)
def letB (c : UInt8) : Bool := letN c.toNat
def insB (c : UInt8) : Bool := insN c.toNat
structure Tok where
  word : Bool
  text : Str
  pos : Nat
/-- Tokens; what is wrong (0: nothing), and where. -/
abbrev TokR := List Tok × Int × Nat
def consT (t : Tok) (r : TokR) : TokR := if r.2.1 = 0 then (t :: r.1, 0, 0) else ([], r.2.1, r.2.2)
def tokR : Nat → Nat → Str → TokR
  | 0, _, _ => ([], 0, 0)
  | _ + 1, _, [] => ([], 0, 0)
  | f + 1, p, c :: r =>
    if c = 32 ∨ c = 10 then tokR f (p + 1) r
    else if c = 59 ∨ c = 44 then consT ⟨false, [c], p⟩ (tokR f (p + 1) r)
    else if letB c = false then ([], 2, p)
    else if 16 < (r.takeWhile insB).length + 1 then ([], 1, p)
    else consT ⟨true, c :: r.takeWhile insB, p⟩ (tokR f (p + 1 + (r.takeWhile insB).length) (r.drop (r.takeWhile insB).length))
def wordOk (t : Str) : Prop := ∃ c w, t = c :: w ∧ letB c = true ∧ (∀ x ∈ w, insB x = true) ∧ w.length + 1 ≤ 16
def tokOk (x : Bool × Str) : Prop := (x.1 = true ∧ wordOk x.2) ∨ (x.1 = false ∧ (x.2 = [59] ∨ x.2 = [44]))
def posT : Nat → List (Bool × Str) → List Tok
  | _, [] => []
  | p, t :: r => ⟨t.1, t.2, p + 1⟩ :: posT (p + 1 + t.2.length) r
def spcT (ts : List (Bool × Str)) : Str := ts.flatMap fun x => 32 :: x.2
theorem let_not {c : UInt8} (h : letB c = true) : ¬ (c = 32 ∨ c = 10) ∧ ¬ (c = 59 ∨ c = 44) := by
  refine ⟨?_, ?_⟩
  · rintro (rfl | rfl) <;> simp [letB, letN] at h
  · rintro (rfl | rfl) <;> simp [letB, letN] at h
theorem take_spc (ts : List (Bool × Str)) : ∀ (w : Str), (∀ x ∈ w, insB x = true) → (w ++ spcT ts).takeWhile insB = w
  | [], _ => by
    cases ts with
    | nil => rfl
    | cons t r =>
      show (32 :: (t.2 ++ spcT r)).takeWhile insB = []
      rw [List.takeWhile_cons_of_neg (by decide)]
  | c :: w, h => by
    rw [List.cons_append, List.takeWhile_cons_of_pos (h c (by simp)), take_spc ts w (fun x hx => h x (by simp [hx]))]
theorem consT_ok (t : Tok) (l : List Tok) : consT t (l, 0, 0) = (t :: l, 0, 0) := rfl
theorem tok_one {x : Bool × Str} (hx : tokOk x) {r : List (Bool × Str)} {f p : Nat} {l : List Tok} (hl : ∀ g q, (spcT r).length < g → q = p + x.2.length → tokR g q (spcT r) = (l, 0, 0)) (hf : (x.2 ++ spcT r).length < f) : tokR f p (x.2 ++ spcT r) = (⟨x.1, x.2, p⟩ :: l, 0, 0) := by
  obtain ⟨b, t⟩ := x
  cases f with
  | zero => omega
  | succ f =>
    rcases hx with ⟨hb, c, w, ht, hc, hw, hn⟩ | ⟨hb, ht⟩
    · dsimp only at hb ht hf hl ⊢
      subst hb; subst ht
      rw [List.cons_append, tokR, if_neg (let_not hc).1, if_neg (let_not hc).2, if_neg (by rw [hc]; simp), take_spc r w hw, if_neg (by omega), List.drop_left, hl f _ (by simp at hf; omega) (by simp; omega)]
      exact consT_ok _ _
    · dsimp only at hb ht hf hl ⊢
      subst hb
      rcases ht with rfl | rfl
      · rw [List.cons_append, tokR, if_neg (by decide), if_pos (.inl rfl), List.nil_append, hl f _ (by simp at hf; omega) (by simp)]
        exact consT_ok _ _
      · rw [List.cons_append, tokR, if_neg (by decide), if_pos (.inr rfl), List.nil_append, hl f _ (by simp at hf; omega) (by simp)]
        exact consT_ok _ _
/-- Tokens with a blank ahead of each are read as they are. -/
theorem tok_spc : ∀ (ts : List (Bool × Str)) (f p : Nat), (∀ x ∈ ts, tokOk x) → (spcT ts).length < f → tokR f p (spcT ts) = (posT p ts, 0, 0)
  | [], 0, p, _, h => by omega
  | [], f + 1, p, _, _ => rfl
  | t :: r, 0, p, _, h => by omega
  | t :: r, f + 1, p, h, hf => by
    have e : spcT (t :: r) = 32 :: (t.2 ++ spcT r) := rfl
    rw [e] at hf ⊢
    rw [tokR, if_pos (.inl rfl)]
    exact tok_one (h t (by simp)) (fun g q hg hq => by
      rw [hq]; exact tok_spc r g _ (fun x hx => h x (by simp [hx])) hg) (by simp at hf ⊢; omega)
theorem tok_text {t : Bool × Str} {r : List (Bool × Str)} {f : Nat} (h : ∀ x ∈ t :: r, tokOk x) (hf : (t.2 ++ spcT r).length < f) : tokR f 0 (t.2 ++ spcT r) = (⟨t.1, t.2, 0⟩ :: posT t.2.length r, 0, 0) :=
  tok_one (h t (by simp)) (fun g q hg hq => by
    rw [hq, Nat.zero_add]; exact tok_spc r g _ (fun x hx => h x (by simp [hx])) hg) hf
/-- Kinds and texts of tokens. -/
def kt (t : Tok) : Bool × Str := (t.word, t.text)
theorem posT_kt : ∀ (ts : List (Bool × Str)) (p : Nat), (posT p ts).map kt = ts
  | [], _ => rfl
  | t :: r, p => by rw [posT, List.map_cons, posT_kt r]; rfl

/-! Their form (P1, P3). -/
def partsW : List Str := [[115, 116, 97, 116, 101, 115], [101, 118, 101, 110, 116, 115], [115, 101, 101, 110], [102, 114, 101, 101], [102, 97, 117, 108, 116, 115], [115, 101, 99, 114, 101, 116], [115, 116, 97, 114, 116, 115], [101, 110, 100, 115], [97, 114, 114, 111, 119, 115]]
/-- The part, how many names stand in it so far, and what may come next (1 a part's word, 2 a name, 4 the sign ;, 8 the sign ,). -/
structure Fm where
  part : Nat
  names : Nat
  next : Nat
def fmNext (part names : Nat) : Nat := if part = 8 ∧ 0 < names % 3 then 2 else if part = 8 then 12 else 6
def fmStep (s : Fm) (t : Bool × Str) : Option (Fm × Int) :=
  if s.next = 1 ∧ s.part < 9 ∧ t.1 = true ∧ t.2 = partsW[s.part]?.getD [] then some (⟨s.part, 0, if s.part = 0 then 2 else 6⟩, -1)
  else if s.next ≠ 1 ∧ 0 < s.next &&& 2 ∧ t.1 = true then some (⟨s.part, s.names + 1, fmNext s.part (s.names + 1)⟩, s.part)
  else if s.next ≠ 1 ∧ 0 < s.next &&& 4 ∧ t.2 = [59] then some (⟨s.part + 1, s.names, 1⟩, -1)
  else if s.next ≠ 1 ∧ 0 < s.next &&& 8 ∧ t.2 = [44] then some (⟨s.part, s.names, 2⟩, -1)
  else none
/-- Of each token that is right the part that it is a name of (below 0: of none); where that ends. -/
def fmGo : Fm → List (Bool × Str) → List Int × Fm
  | s, [] => ([], s)
  | s, t :: r => match fmStep s t with
    | none => ([], s)
    | some (s', i) => (i :: (fmGo s' r).1, (fmGo s' r).2)
theorem fm_app : ∀ {s s1 : Fm} {a b : List (Bool × Str)} {oa : List Int}, fmGo s a = (oa, s1) → oa.length = a.length → fmGo s (a ++ b) = (oa ++ (fmGo s1 b).1, (fmGo s1 b).2)
  | s, s1, [], b, oa, h, hl => by
    have h : (([] : List Int), s) = (oa, s1) := h
    cases h; rfl
  | s, s1, t :: r, b, oa, h, hl => by
    rw [fmGo] at h
    rw [List.cons_append, fmGo]
    cases hs : fmStep s t with
    | none =>
      rw [hs] at h
      have h : (([] : List Int), s) = (oa, s1) := h
      cases h; simp at hl
    | some q =>
      obtain ⟨s', i⟩ := q
      rw [hs] at h
      dsimp only at h ⊢
      have h1 : oa = i :: (fmGo s' r).1 := (Prod.mk.inj h).1.symm
      have h2 : s1 = (fmGo s' r).2 := (Prod.mk.inj h).2.symm
      subst h1; subst h2
      rw [fm_app (s := s') (s1 := (fmGo s' r).2) (a := r) (b := b) (oa := (fmGo s' r).1) rfl (by simpa using hl)]
      rfl

/-! What they tell (P2, P3). -/
structure Ps where
  states : List Str
  events : List Str
  rows : Nat → List Int
  three : List Int
  first : Nat
  arrows : List Arr
def plcS (l : List Str) (s : Str) : Option Nat := l.findIdx? (fun x => decide (x = s))
def psNames (most : Nat) (l : List Str) (t : Tok) : Except (Int × Nat) (List Str) := if t.text ∈ l then .error (5, t.pos) else if most ≤ l.length then .error (1, t.pos) else .ok (l ++ [t.text])
def psArr (q : Ps) (n : Int) (p : Nat) : Except (Int × Nat) Ps := match q.three ++ [n] with
  | [a, b, c] => if q.arrows.any (fun x => decide (x.f = a ∧ x.e = b ∧ x.t = c)) = true then .error (5, if q.three = [] then p else q.first) else .ok { q with three := [], first := if q.three = [] then p else q.first, arrows := q.arrows ++ [⟨a, b, c⟩] }
  | l => .ok { q with three := l, first := if q.three = [] then p else q.first }
def psStep (q : Ps) (k : Int) (t : Tok) : Except (Int × Nat) Ps :=
  if k < 0 then .ok q
  else if k = 0 then (psNames 6 q.states t).map fun l => { q with states := l }
  else if k = 1 then (psNames 8 q.events t).map fun l => { q with events := l }
  else match plcS (if k < 5 ∨ (k = 8 ∧ q.three.length = 1) then q.events else q.states) t.text with
    | none => .error (4, t.pos)
    | some n => if k < 8 then (if (n : Int) ∈ q.rows k.toNat then .error (5, t.pos) else .ok { q with rows := fun j => if j = k.toNat then q.rows k.toNat ++ [(n : Int)] else q.rows j })
      else psArr q (n : Int) t.pos
def psGo : Ps → List (Int × Tok) → Except (Int × Nat) Ps
  | q, [] => .ok q
  | q, x :: r => match psStep q x.1 x.2 with
    | .error e => .error e
    | .ok q' => psGo q' r
theorem ps_app : ∀ {q q1 : Ps} {a b : List (Int × Tok)}, psGo q a = .ok q1 → psGo q (a ++ b) = psGo q1 b
  | q, q1, [], b, h => by
    have h : Except.ok q = Except.ok q1 := h
    cases h; rfl
  | q, q1, x :: r, b, h => by
    rw [psGo] at h
    rw [List.cons_append, psGo]
    cases hs : psStep q x.1 x.2 with
    | error e => rw [hs] at h; cases h
    | ok q' =>
      rw [hs] at h
      exact ps_app h
/-- A project. -/
structure Proj where
  states : List Str
  events : List Str
  m : Mach
  seen : List Int
  free : List Int
  faults : List Int
  secret : List Int
def proj0 : Proj := ⟨[], [], ⟨0, 0, [], [], []⟩, [], [], [], []⟩
def ps0 : Ps := ⟨[], [], fun _ => [], [], 0, []⟩
def psEnd (q : Ps) : Proj := ⟨q.states, q.events, ⟨q.states.length, q.events.length, srt (q.rows 6), srtA q.arrows, srt (q.rows 7)⟩, srt (q.rows 2), srt (q.rows 3), srt (q.rows 4), srt (q.rows 5)⟩
/-- What Parse answers: the project; what is wrong, and where. -/
def parseL (s : Str) : Proj × Int × Nat :=
  if 4000 < s.length then (proj0, 1, 0)
  else if (tokR (s.length + 1) 0 s).2.1 ≠ 0 then (proj0, (tokR (s.length + 1) 0 s).2)
  else
    let l := (tokR (s.length + 1) 0 s).1
    let o := fmGo ⟨0, 0, 1⟩ (l.map kt)
    if o.1.length < l.length then (proj0, 2, (l[o.1.length]?.map (·.pos)).getD 0)
    else if ¬ o.2.part = 9 then (proj0, 2, s.length)
    else match psGo ps0 (o.1.zip l) with
      | .error e => (proj0, e)
      | .ok q => (psEnd q, 0, 0)

end Go.Proofs.Ytbgiliophmofgaa
namespace Go.Proofs.Ytbgiliophmofgaa
open Go.RowKit
set_option linter.unusedVariables false

abbrev strV (s : Str) : Value := .string ⟨s.toArray⟩
def CellsS (w : World) (b off : Nat) (xs : List Str) : Prop := ∀ j, j < xs.length → w.cell? ⟨b, off + j, none⟩ = some (strV (xs[j]?.getD []))
theorem CellsS.at {w : World} {b off k : Nat} {xs : List Str} (hc : CellsS w b off xs) (h : k < xs.length) : ∃ x, Hid (x = xs[k]?.getD []) ∧ w.cell? ⟨b, off + k, none⟩ = some (strV x) := ⟨_, rfl, hc k h⟩
def AtS (w : World) (a : Option Addr) (xs : List Str) : Prop := xs = [] ∨ ∃ b off, a = some ⟨b, off, none⟩ ∧ b < w.heap.size ∧ CellsS w b off xs
theorem AtS.below {w w' : World} {a : Option Addr} {xs : List Str} {B : Nat} (h : AtS w a xs) (hb : Below B w w') (hB : w.heap.size ≤ B) : AtS w' a xs := by
  rcases h with h | ⟨b, off, rfl, hlt, hc⟩
  · exact .inl h
  · exact .inr ⟨b, off, rfl, Nat.lt_of_lt_of_le hlt hb.size, fun j hj => (hb.cell (p := ⟨b, off + j, none⟩) (Nat.lt_of_lt_of_le hlt hB)).trans (hc j hj)⟩
/-- Where a text stands in a row; below 0: it is not there. -/
def plcI (l : List Str) (s : Str) : Int := match plcS l s with
  | some n => (n : Int)
  | none => -1

end Go.Proofs.Ytbgiliophmofgaa
namespace Go.Proofs.Ytbgiliophmofgaa
open Go.RowKit
set_option linter.unusedVariables false

def nameAt (l : List Str) (n : Int) : Str := l[n.toNat]?.getD []
def wordsT (ns : List Str) : List (Bool × Str) := ns.map fun x => (true, x)
def endT : List (Bool × Str) := [(false, [59])]
def partW (k : Nat) : Str := partsW[k]?.getD []
def partT (k : Nat) (ns : List Str) : List (Bool × Str) := (true, partW k) :: (wordsT ns ++ endT)
def arrT (p : Proj) (a : Arr) : List (Bool × Str) := wordsT [nameAt p.states a.f, nameAt p.events a.e, nameAt p.states a.t]
def moreT (p : Proj) (r : List Arr) : List (Bool × Str) := r.flatMap fun b => (false, [44]) :: arrT p b
def arrsT (p : Proj) : List Arr → List (Bool × Str)
  | [] => []
  | a :: r => arrT p a ++ moreT p r
def rowNames (p : Proj) : Nat → List Str
  | 0 => p.states
  | 1 => p.events
  | 2 => p.seen.map (nameAt p.events)
  | 3 => p.free.map (nameAt p.events)
  | 4 => p.faults.map (nameAt p.events)
  | 5 => p.secret.map (nameAt p.states)
  | 6 => p.m.starts.map (nameAt p.states)
  | _ => p.m.ends.map (nameAt p.states)
def headT (p : Proj) (n : Nat) : List (Bool × Str) := (List.range n).flatMap fun k => partT k (rowNames p k)
def lastT (p : Proj) : List (Bool × Str) := (true, partW 8) :: (arrsT p p.m.arrows ++ endT)
/-- Its tokens. -/
def toksP (p : Proj) : List (Bool × Str) := headT p 8 ++ lastT p
def joinT : List (Bool × Str) → Str
  | [] => []
  | t :: r => t.2 ++ spcT r
/-- Its text. -/
def textL (p : Proj) : Str := joinT (toksP p)
structure MayT (p : Proj) : Prop where
  s1 : 1 ≤ p.states.length
  s6 : p.states.length ≤ 6
  e8 : p.events.length ≤ 8
  sw : ∀ x ∈ p.states, wordOk x
  ew : ∀ x ∈ p.events, wordOk x
  sn : p.states.Nodup
  en : p.events.Nodup
  m : mayB p.m = true
  ms : p.m.st = p.states.length
  me : p.m.ev = p.events.length
  seen : rowB p.m.ev p.seen = true
  free : rowB p.m.ev p.free = true
  faults : rowB p.m.ev p.faults = true
  secret : rowB p.m.st p.secret = true

/-! All are tokens. -/
theorem name_mem {l : List Str} {n : Int} (h0 : 0 ≤ n) (h1 : n < (l.length : Int)) : nameAt l n ∈ l := by
  unfold nameAt
  rw [List.getElem?_eq_getElem (by omega), Option.getD_some]
  exact List.getElem_mem _
theorem words_ok {ns : List Str} (h : ∀ x ∈ ns, wordOk x) : ∀ x ∈ wordsT ns, tokOk x := fun x hx => by
  obtain ⟨y, hy, rfl⟩ := List.mem_map.1 hx
  exact .inl ⟨rfl, h y hy⟩
theorem end_ok : ∀ x ∈ endT, tokOk x := fun x hx => by
  have : x = (false, [59]) := by simpa [endT] using hx
  rw [this]; exact .inr ⟨rfl, .inl rfl⟩
theorem partW_ok {k : Nat} (h : k < 9) : wordOk (partW k) := by
  have hk : k = 0 ∨ k = 1 ∨ k = 2 ∨ k = 3 ∨ k = 4 ∨ k = 5 ∨ k = 6 ∨ k = 7 ∨ k = 8 := by omega
  rcases hk with rfl | rfl | rfl | rfl | rfl | rfl | rfl | rfl | rfl <;> exact ⟨_, _, rfl, by decide, by decide, by decide⟩
theorem row_bdT {b : Int} {l : List Int} (hb : b ≤ 256) (h : rowB b l = true) : Inc l ∧ ∀ x ∈ l, 0 ≤ x ∧ x < b := (rowB_iff _ (by omega) _).1 h
section
variable {p : Proj}
theorem MayT.small (h : MayT p) : p.m.st ≤ 256 ∧ p.m.ev ≤ 256 := by have := h.ms; have := h.me; have := h.s6; have := h.e8; omega
/-- The names' source, and the row, of a part from 2 to 7. -/
def srcP (p : Proj) (k : Nat) : List Str := if k < 5 then p.events else p.states
def rowPT (p : Proj) : Nat → List Int
  | 2 => p.seen
  | 3 => p.free
  | 4 => p.faults
  | 5 => p.secret
  | 6 => p.m.starts
  | _ => p.m.ends
theorem rowNames_eq {k : Nat} (h2 : 2 ≤ k) (h8 : k < 8) : rowNames p k = (rowPT p k).map (nameAt (srcP p k)) := by
  have hk : k = 2 ∨ k = 3 ∨ k = 4 ∨ k = 5 ∨ k = 6 ∨ k = 7 := by omega
  rcases hk with rfl | rfl | rfl | rfl | rfl | rfl <;> rfl
theorem rowP_in (h : MayT p) {k : Nat} (h2 : 2 ≤ k) (h8 : k < 8) : Inc (rowPT p k) ∧ ∀ x ∈ rowPT p k, 0 ≤ x ∧ x < ((srcP p k).length : Int) := by
  have z := h.small
  have hk : k = 2 ∨ k = 3 ∨ k = 4 ∨ k = 5 ∨ k = 6 ∨ k = 7 := by omega
  rcases hk with rfl | rfl | rfl | rfl | rfl | rfl
  · have := row_bdT z.2 h.seen; rw [h.me] at this; exact this
  · have := row_bdT z.2 h.free; rw [h.me] at this; exact this
  · have := row_bdT z.2 h.faults; rw [h.me] at this; exact this
  · have := row_bdT z.1 h.secret; rw [h.ms] at this; exact this
  · have := may_starts h.m; rw [h.ms] at this; exact this
  · have := may_ends h.m; rw [h.ms] at this; exact this
theorem src_ok (h : MayT p) (k : Nat) : (∀ x ∈ srcP p k, wordOk x) ∧ (srcP p k).Nodup := by
  unfold srcP
  split
  · exact ⟨h.ew, h.en⟩
  · exact ⟨h.sw, h.sn⟩
theorem rowNames_ok (h : MayT p) {k : Nat} (h8 : k < 8) : ∀ x ∈ rowNames p k, wordOk x := by
  by_cases h0 : k = 0
  · subst h0; exact h.sw
  · by_cases h1 : k = 1
    · subst h1; exact h.ew
    · rw [rowNames_eq (by omega) h8]
      intro x hx
      obtain ⟨n, hn, rfl⟩ := List.mem_map.1 hx
      have := (rowP_in h (by omega) h8).2 n hn
      exact (src_ok h k).1 _ (name_mem this.1 this.2)
theorem arrT_ok (h : MayT p) {a : Arr} (ha : a ∈ p.m.arrows) : ∀ x ∈ arrT p a, tokOk x := by
  have := may_arrs h.m a ha
  rw [h.ms, h.me] at this
  unfold arrIn at this
  refine words_ok (fun x hx => ?_)
  have hx : x = nameAt p.states a.f ∨ x = nameAt p.events a.e ∨ x = nameAt p.states a.t := by simpa using hx
  rcases hx with rfl | rfl | rfl
  · exact h.sw _ (name_mem this.1 this.2.1)
  · exact h.ew _ (name_mem this.2.2.2.2.1 this.2.2.2.2.2)
  · exact h.sw _ (name_mem this.2.2.1 this.2.2.2.1)
theorem moreT_ok (h : MayT p) {r : List Arr} (hr : ∀ a ∈ r, a ∈ p.m.arrows) : ∀ x ∈ moreT p r, tokOk x := fun x hx => by
  obtain ⟨a, ha, hx⟩ := List.mem_flatMap.1 hx
  rcases List.mem_cons.1 hx with rfl | hx
  · exact .inr ⟨rfl, .inr rfl⟩
  · exact arrT_ok h (hr a ha) x hx
theorem arrsT_ok (h : MayT p) : ∀ (A : List Arr), (∀ a ∈ A, a ∈ p.m.arrows) → ∀ x ∈ arrsT p A, tokOk x
  | [], _, x, hx => by cases hx
  | a :: r, hA, x, hx => by
    rcases List.mem_append.1 hx with hx | hx
    · exact arrT_ok h (hA a (by simp)) x hx
    · exact moreT_ok h (fun b hb => hA b (by simp [hb])) x hx
theorem toks_ok (h : MayT p) : ∀ x ∈ toksP p, tokOk x := fun x hx => by
  rcases List.mem_append.1 hx with hx | hx
  · obtain ⟨k, hk, hx⟩ := List.mem_flatMap.1 hx
    have hk := List.mem_range.1 hk
    rcases List.mem_cons.1 hx with rfl | hx
    · exact .inl ⟨rfl, partW_ok (by omega)⟩
    · rcases List.mem_append.1 hx with hx | hx
      · exact words_ok (rowNames_ok h hk) x hx
      · exact end_ok x hx
  · rcases List.mem_cons.1 hx with rfl | hx
    · exact .inl ⟨rfl, partW_ok (k := 8) (by omega)⟩
    · rcases List.mem_append.1 hx with hx | hx
      · exact arrsT_ok h _ (fun a ha => ha) x hx
      · exact end_ok x hx
end

/-! Their form is right. -/
theorem fm_names {k : Nat} (hk : k < 8) : ∀ (ns : List Str) (c nx : Nat), (nx = 2 ∨ nx = 6) → fmGo ⟨k, c, nx⟩ (wordsT ns) = (List.replicate ns.length (k : Int), ⟨k, c + ns.length, if ns = [] then nx else 6⟩)
  | [], c, nx, _ => rfl
  | n :: r, c, nx, hnx => by
    have hs : fmStep ⟨k, c, nx⟩ (true, n) = some (⟨k, c + 1, 6⟩, (k : Int)) := by
      unfold fmStep
      dsimp only
      rw [if_neg (by rcases hnx with rfl | rfl <;> simp), if_pos (by rcases hnx with rfl | rfl <;> decide)]
      unfold fmNext
      rw [if_neg (by omega), if_neg (by omega)]
    show fmGo ⟨k, c, nx⟩ ((true, n) :: wordsT r) = _
    rw [fmGo, hs]
    dsimp only
    have e1 : (if r = [] then 6 else 6) = 6 := by split <;> rfl
    rw [fm_names hk r (c + 1) 6 (.inr rfl), e1, if_neg (show ¬ (n :: r = []) by simp), List.length_cons, List.replicate_succ, show c + 1 + r.length = c + (r.length + 1) by omega]
theorem fm_end {k c nx : Nat} (h : nx = 6 ∨ nx = 12) : fmGo ⟨k, c, nx⟩ endT = ([-1], ⟨k + 1, c, 1⟩) := by
  have hs : fmStep ⟨k, c, nx⟩ (false, [59]) = some (⟨k + 1, c, 1⟩, -1) := by
    unfold fmStep
    dsimp only
    rw [if_neg (by rcases h with rfl | rfl <;> simp), if_neg (by simp), if_pos (by rcases h with rfl | rfl <;> decide)]
  unfold endT
  rw [fmGo, hs]; rfl
theorem fm_word {k n0 : Nat} (hk : k < 9) (r : List (Bool × Str)) : fmGo ⟨k, n0, 1⟩ ((true, partW k) :: r) = (-1 :: (fmGo ⟨k, 0, if k = 0 then 2 else 6⟩ r).1, (fmGo ⟨k, 0, if k = 0 then 2 else 6⟩ r).2) := by
  have hs : fmStep ⟨k, n0, 1⟩ (true, partW k) = some (⟨k, 0, if k = 0 then 2 else 6⟩, -1) := by
    unfold fmStep
    dsimp only
    rw [if_pos ⟨rfl, hk, rfl, rfl⟩]
  rw [fmGo, hs]
def ofPart (k : Nat) (n : Nat) : List Int := -1 :: (List.replicate n (k : Int) ++ [-1])
theorem fm_part {k n0 : Nat} (hk : k < 8) {ns : List Str} (hne : k = 0 → ns ≠ []) : fmGo ⟨k, n0, 1⟩ (partT k ns) = (ofPart k ns.length, ⟨k + 1, ns.length, 1⟩) := by
  unfold partT
  rw [fm_word (by omega)]
  have hnx : (if k = 0 then 2 else 6) = 2 ∨ (if k = 0 then 2 else 6) = 6 := by
    by_cases h0 : k = 0
    · rw [if_pos h0]; exact .inl rfl
    · rw [if_neg h0]; exact .inr rfl
  have h1 := fm_names hk ns 0 _ hnx
  have h6 : (if ns = [] then (if k = 0 then 2 else 6) else 6) = 6 := by
    split
    · next e => rw [if_neg (fun h0 => hne h0 e)]
    · rfl
  rw [h6, Nat.zero_add] at h1
  rw [fm_app (b := endT) h1 (by simp [wordsT]), fm_end (.inl rfl)]
  rfl
theorem fm_three {p : Proj} {a : Arr} {j nx : Nat} (h : nx = 2 ∨ nx = 6) : fmGo ⟨8, 3 * j, nx⟩ (arrT p a) = ([8, 8, 8], ⟨8, 3 * (j + 1), 12⟩) := by
  have s1 : ∀ (x : Str), fmStep ⟨8, 3 * j, nx⟩ (true, x) = some (⟨8, 3 * j + 1, 2⟩, 8) := fun x => by
    unfold fmStep
    dsimp only
    rw [if_neg (by rcases h with rfl | rfl <;> simp), if_pos (by rcases h with rfl | rfl <;> decide)]
    unfold fmNext
    rw [if_pos ⟨rfl, by omega⟩]; rfl
  have s2 : ∀ (x : Str), fmStep ⟨8, 3 * j + 1, 2⟩ (true, x) = some (⟨8, 3 * j + 1 + 1, 2⟩, 8) := fun x => by
    unfold fmStep
    dsimp only
    rw [if_neg (by simp), if_pos (by decide)]
    unfold fmNext
    rw [if_pos ⟨rfl, by omega⟩]; rfl
  have s3 : ∀ (x : Str), fmStep ⟨8, 3 * j + 1 + 1, 2⟩ (true, x) = some (⟨8, 3 * j + 1 + 1 + 1, 12⟩, 8) := fun x => by
    unfold fmStep
    dsimp only
    rw [if_neg (by simp), if_pos (by decide)]
    unfold fmNext
    rw [if_neg (by omega), if_pos rfl]; rfl
  unfold arrT wordsT
  simp only [List.map_cons, List.map_nil]
  rw [fmGo, s1]
  dsimp only
  rw [fmGo, s2]
  dsimp only
  rw [fmGo, s3]
  dsimp only
  rw [fmGo, show 3 * j + 1 + 1 + 1 = 3 * (j + 1) by omega]
theorem fm_more {p : Proj} : ∀ (r : List Arr) (j : Nat), fmGo ⟨8, 3 * j, 12⟩ (moreT p r) = (r.flatMap (fun _ => [-1, 8, 8, 8]), ⟨8, 3 * (j + r.length), 12⟩)
  | [], j => rfl
  | b :: r, j => by
    have hs : fmStep ⟨8, 3 * j, 12⟩ (false, [44]) = some (⟨8, 3 * j, 2⟩, -1) := by
      unfold fmStep
      dsimp only
      rw [if_neg (by simp), if_neg (by simp), if_neg (by simp), if_pos (by decide)]
    show fmGo ⟨8, 3 * j, 12⟩ ((false, [44]) :: (arrT p b ++ moreT p r)) = _
    rw [fmGo, hs]
    dsimp only
    rw [fm_app (b := moreT p r) (fm_three (p := p) (a := b) (j := j) (.inl rfl)) rfl, fm_more r (j + 1), show 3 * (j + 1 + r.length) = 3 * (j + (b :: r).length) by simp; omega]
    rfl
def ofArrs : List Arr → List Int
  | [] => []
  | _ :: r => [8, 8, 8] ++ r.flatMap (fun _ => [-1, 8, 8, 8])
theorem fm_last {p : Proj} {n0 : Nat} : ∃ c, fmGo ⟨8, n0, 1⟩ (lastT p) = (-1 :: (ofArrs p.m.arrows ++ [-1]), ⟨9, c, 1⟩) := by
  unfold lastT
  rw [fm_word (by omega)]
  cases hA : p.m.arrows with
  | nil =>
    refine ⟨0, ?_⟩
    show (-1 :: (fmGo ⟨8, 0, 6⟩ endT).1, (fmGo ⟨8, 0, 6⟩ endT).2) = _
    rw [fm_end (.inl rfl)]; rfl
  | cons a r =>
    refine ⟨3 * (1 + r.length), ?_⟩
    have h1 := fm_app (b := moreT p r) (fm_three (p := p) (a := a) (j := 0) (nx := 6) (.inr rfl)) rfl
    rw [fm_more r (0 + 1)] at h1
    have hl : ([8, 8, 8] ++ r.flatMap (fun _ => [-1, 8, 8, 8]) : List Int).length = (arrT p a ++ moreT p r).length := by
      have : ∀ r : List Arr, (r.flatMap (fun _ => ([-1, 8, 8, 8] : List Int))).length = (moreT p r).length := by
        intro r
        induction r with
        | nil => rfl
        | cons b r ih =>
          have e : moreT p (b :: r) = ((false, [44]) :: arrT p b) ++ moreT p r := rfl
          rw [List.flatMap_cons, e, List.length_append, List.length_append, ih]; rfl
      rw [List.length_append, List.length_append, this r]; rfl
    have h2 := fm_app (b := endT) h1 hl
    rw [fm_end (.inr rfl)] at h2
    show (-1 :: (fmGo ⟨8, 3 * 0, 6⟩ (arrsT p (a :: r) ++ endT)).1, (fmGo ⟨8, 3 * 0, 6⟩ (arrsT p (a :: r) ++ endT)).2) = _
    rw [show arrsT p (a :: r) = arrT p a ++ moreT p r from rfl, h2, show 0 + 1 + r.length = 1 + r.length by omega]
    rfl
def ofHead (p : Proj) (n : Nat) : List Int := (List.range n).flatMap fun k => ofPart k (rowNames p k).length
theorem fm_head {p : Proj} (h : MayT p) : ∀ n, n ≤ 8 → ∃ c, fmGo ⟨0, 0, 1⟩ (headT p n) = (ofHead p n, ⟨n, c, 1⟩) ∧ (ofHead p n).length = (headT p n).length
  | 0, _ => ⟨0, rfl, rfl⟩
  | n + 1, hn => by
    obtain ⟨c, h1, h2⟩ := fm_head h n (by omega)
    have e1 : headT p (n + 1) = headT p n ++ partT n (rowNames p n) := by unfold headT; rw [List.range_succ, List.flatMap_append]; simp
    have e2 : ofHead p (n + 1) = ofHead p n ++ ofPart n (rowNames p n).length := by unfold ofHead; rw [List.range_succ, List.flatMap_append]; simp
    have h3 := fm_part (k := n) (n0 := c) (ns := rowNames p n) (by omega) (fun h0 => by
      subst h0
      intro e
      have := h.s1
      rw [show p.states = [] from e] at this; simp at this)
    refine ⟨(rowNames p n).length, ?_, ?_⟩
    · rw [e1, fm_app (b := partT n (rowNames p n)) h1 h2, h3, e2]
    · rw [e1, e2, List.length_append, List.length_append, h2]
      simp [ofPart, partT, wordsT, endT]

end Go.Proofs.Ytbgiliophmofgaa
namespace Go.Proofs.Ytbgiliophmofgaa
open Go.RowKit
set_option linter.unusedVariables false

/-- Tokens of these kinds and texts, being of these parts, lead on from q. -/
def PsRun (q : Ps) (o : List Int) (ts : List (Bool × Str)) (Q : Ps → Prop) : Prop := ∀ l : List Tok, l.map kt = ts → ∃ q', psGo q (o.zip l) = .ok q' ∧ Q q'
theorem run_none (q : Ps) {Q : Ps → Prop} (h : Q q) : PsRun q [] [] Q := fun l hl => by
  have : l = [] := by simpa using hl
  subst this; exact ⟨q, rfl, h⟩
theorem run_app {q : Ps} {oa ob : List Int} {a b : List (Bool × Str)} {Q R : Ps → Prop} (h1 : PsRun q oa a Q) (hl : oa.length = a.length) (h2 : ∀ q', Q q' → PsRun q' ob b R) : PsRun q (oa ++ ob) (a ++ b) R := fun l h => by
  obtain ⟨la, lb, rfl, ha, hb⟩ := List.map_eq_append_iff.1 h
  obtain ⟨q1, e1, g1⟩ := h1 la ha
  obtain ⟨q2, e2, g2⟩ := h2 q1 g1 lb hb
  refine ⟨q2, ?_, g2⟩
  rw [List.zip_append (by rw [hl, ← ha, List.length_map]), ps_app e1, e2]
theorem run_one {q : Ps} {k : Int} {t : Bool × Str} {Q : Ps → Prop} (h : ∀ pos, ∃ q', psStep q k ⟨t.1, t.2, pos⟩ = .ok q' ∧ Q q') : PsRun q [k] [t] Q := fun l hl => by
  obtain ⟨x, r, rfl, hx, hr⟩ := List.map_eq_cons_iff.1 hl
  have : r = [] := by simpa using hr
  subst this; subst hx
  obtain ⟨q', e1, g1⟩ := h x.pos
  refine ⟨q', ?_, g1⟩
  show psGo q [(k, x)] = _
  have e1 : psStep q k x = .ok q' := e1
  rw [psGo, e1]; rfl
theorem run_skip {q : Ps} (t : Bool × Str) {Q : Ps → Prop} (h : Q q) : PsRun q [-1] [t] Q := run_one fun pos => ⟨q, by unfold psStep; rw [if_pos (by decide)], h⟩
structure IsPs (S E : List Str) (R : Nat → List Int) (A : List Arr) (q : Ps) : Prop where
  s : q.states = S
  e : q.events = E
  r : ∀ k, q.rows k = R k
  t : q.three = []
  a : q.arrows = A
theorem run_states {E : List Str} {R : Nat → List Int} {A : List Arr} : ∀ (ns S : List Str) (q : Ps), IsPs S E R A q → (S ++ ns).Nodup → (S ++ ns).length ≤ 6 → PsRun q (List.replicate ns.length ((0 : Nat) : Int)) (wordsT ns) (IsPs (S ++ ns) E R A)
  | [], S, q, h, _, _ => run_none q (by rw [List.append_nil]; exact h)
  | n :: r, S, q, h, hd, hl => by
    have e : S ++ n :: r = (S ++ [n]) ++ r := by simp
    rw [e] at hd hl ⊢
    have hn : ¬ n ∈ S := fun hm => by
      rw [List.nodup_append] at hd
      have := (List.nodup_append.1 hd.1).2.2 n hm n (by simp)
      exact this rfl
    have hs : S.length < 6 := by simp at hl; omega
    refine run_app (oa := [((0 : Nat) : Int)]) (a := [(true, n)]) (Q := IsPs (S ++ [n]) E R A) (run_one fun pos => ⟨{ q with states := S ++ [n] }, ?_, ⟨rfl, h.e, h.r, h.t, h.a⟩⟩) rfl (fun q' hq => run_states r (S ++ [n]) q' hq hd hl)
    unfold psStep psNames
    rw [if_neg (by decide), if_pos (by decide), h.s]
    dsimp only
    rw [if_neg hn, if_neg (by omega)]; rfl
theorem run_events {S : List Str} {R : Nat → List Int} {A : List Arr} : ∀ (ns E : List Str) (q : Ps), IsPs S E R A q → (E ++ ns).Nodup → (E ++ ns).length ≤ 8 → PsRun q (List.replicate ns.length ((1 : Nat) : Int)) (wordsT ns) (IsPs S (E ++ ns) R A)
  | [], E, q, h, _, _ => run_none q (by rw [List.append_nil]; exact h)
  | n :: r, E, q, h, hd, hl => by
    have e : E ++ n :: r = (E ++ [n]) ++ r := by simp
    rw [e] at hd hl ⊢
    have hn : ¬ n ∈ E := fun hm => by
      rw [List.nodup_append] at hd
      have := (List.nodup_append.1 hd.1).2.2 n hm n (by simp)
      exact this rfl
    have hs : E.length < 8 := by simp at hl; omega
    refine run_app (oa := [((1 : Nat) : Int)]) (a := [(true, n)]) (Q := IsPs S (E ++ [n]) R A) (run_one fun pos => ⟨{ q with events := E ++ [n] }, ?_, ⟨h.s, rfl, h.r, h.t, h.a⟩⟩) rfl (fun q' hq => run_events r (E ++ [n]) q' hq hd hl)
    unfold psStep psNames
    rw [if_neg (by decide), if_neg (by decide), if_pos (by decide), h.e]
    dsimp only
    rw [if_neg hn, if_neg (by omega)]; rfl
theorem plc_at {l : List Str} (hd : l.Nodup) {n : Int} (h0 : 0 ≤ n) (h1 : n < (l.length : Int)) : plcS l (nameAt l n) = some n.toNat := by
  unfold plcS nameAt
  have hk : n.toNat < l.length := by omega
  rw [List.getElem?_eq_getElem hk, Option.getD_some, List.findIdx?_eq_some_iff_getElem]
  refine ⟨hk, by simp, fun j hj => ?_⟩
  simp only [decide_eq_true_eq]
  intro e
  have := List.pairwise_iff_getElem.1 (List.nodup_iff_pairwise_ne.1 hd) j n.toNat (by omega) hk hj
  exact this e
theorem run_row {S E : List Str} {A : List Arr} {k : Nat} (h2 : 2 ≤ k) (h8 : k < 8) {src : List Str} (hsrc : src = if k < 5 then E else S) (hd : src.Nodup) : ∀ (ns : List Int) (R : Nat → List Int) (q : Ps), IsPs S E R A q → (∀ n ∈ ns, 0 ≤ n ∧ n < (src.length : Int)) → (R k ++ ns).Nodup → PsRun q (List.replicate ns.length (k : Int)) (wordsT (ns.map (nameAt src))) (IsPs S E (fun j => if j = k then R k ++ ns else R j) A)
  | [], R, q, h, _, _ => run_none q ⟨h.s, h.e, fun j => (by
      by_cases e : j = k
      · rw [if_pos e, e, List.append_nil]; exact h.r k
      · rw [if_neg e]; exact h.r j), h.t, h.a⟩
  | n :: r, R, q, h, hn, hnd => by
    have e : R k ++ n :: r = (R k ++ [n]) ++ r := by simp
    rw [e] at hnd
    have hnm : ¬ n ∈ R k := fun hm => by
      rw [List.nodup_append] at hnd
      have := (List.nodup_append.1 hnd.1).2.2 n hm n (by simp)
      exact this rfl
    have hb := hn n (by simp)
    have hcast : ((n.toNat : Nat) : Int) = n := by omega
    have ih := run_row (A := A) h2 h8 hsrc hd r (fun j => if j = k then R k ++ [n] else R j)
    refine run_app (oa := [(k : Int)]) (a := [(true, nameAt src n)]) (Q := IsPs S E (fun j => if j = k then R k ++ [n] else R j) A) (run_one fun pos => ⟨{ q with rows := fun j => if j = k then q.rows k ++ [n] else q.rows j }, ?_, ⟨h.s, h.e, fun j => (by
      by_cases e : j = k
      · show (if j = k then q.rows k ++ [n] else q.rows j) = _
        rw [if_pos e, if_pos e, h.r k]
      · show (if j = k then q.rows k ++ [n] else q.rows j) = _
        rw [if_neg e, if_neg e, h.r j]), h.t, h.a⟩⟩) rfl (fun q' hq => ?_)
    · have hsel : (if (k : Int) < 5 ∨ ((k : Int) = 8 ∧ q.three.length = 1) then q.events else q.states) = src := by
        rw [hsrc, h.s, h.e]
        by_cases h5 : k < 5
        · rw [if_pos (.inl (by omega)), if_pos h5]
        · rw [if_neg (by omega), if_neg h5]
      unfold psStep
      rw [if_neg (by omega), if_neg (by omega), if_neg (by omega), hsel, plc_at hd hb.1 hb.2]
      dsimp only
      rw [if_pos (by omega), hcast, Int.toNat_natCast, h.r k, if_neg hnm]
    · have := ih q' hq (fun x hx => hn x (by simp [hx])) (by rw [if_pos rfl]; exact hnd)
      refine fun l hl => ?_
      obtain ⟨q2, g1, g2⟩ := this l hl
      refine ⟨q2, g1, g2.s, g2.e, fun j => ?_, g2.t, g2.a⟩
      rw [g2.r j]
      by_cases e2 : j = k
      · rw [if_pos e2, if_pos rfl, if_pos e2, List.append_assoc]; rfl
      · rw [if_neg e2, if_neg e2, if_neg e2]
theorem run_arr {p : Proj} {R : Nat → List Int} {A : List Arr} {q : Ps} {a : Arr} (h : IsPs p.states p.events R A q) (hs : p.states.Nodup) (he : p.events.Nodup) (ha : arrIn (p.states.length : Int) (p.events.length : Int) a) (hn : ∀ x ∈ A, x ≠ a) : PsRun q [8, 8, 8] (arrT p a) (IsPs p.states p.events R (A ++ [a])) := by
  unfold arrIn at ha
  have c1 : ((a.f.toNat : Nat) : Int) = a.f := by omega
  have c2 : ((a.e.toNat : Nat) : Int) = a.e := by omega
  have c3 : ((a.t.toNat : Nat) : Int) = a.t := by omega
  intro l hl
  unfold arrT wordsT at hl
  simp only [List.map_cons, List.map_nil] at hl
  obtain ⟨x, r, rfl, hx, hl⟩ := List.map_eq_cons_iff.1 hl
  obtain ⟨y, r, rfl, hy, hl⟩ := List.map_eq_cons_iff.1 hl
  obtain ⟨z, r, rfl, hz, hl⟩ := List.map_eq_cons_iff.1 hl
  have : r = [] := by simpa using hl
  subst this
  have ex : x.text = nameAt p.states a.f := congrArg Prod.snd hx
  have ey : y.text = nameAt p.events a.e := congrArg Prod.snd hy
  have ez : z.text = nameAt p.states a.t := congrArg Prod.snd hz
  have s1 : psStep q 8 x = .ok { q with three := [a.f], first := x.pos } := by
    unfold psStep
    rw [if_neg (by decide), if_neg (by decide), if_neg (by decide), if_neg (by rw [h.t]; decide), h.s, ex, plc_at hs ha.1 ha.2.1]
    dsimp only
    rw [if_neg (by decide), c1]
    unfold psArr
    rw [h.t]
    have e0 : (if ([] : List Int) = [] then x.pos else q.first) = x.pos := if_pos rfl
    dsimp only [List.nil_append]
    rw [e0, h.s]
  have s2 : psStep { q with three := [a.f], first := x.pos } 8 y = .ok { q with three := [a.f, a.e], first := x.pos } := by
    unfold psStep
    rw [if_neg (by decide), if_neg (by decide), if_neg (by decide), if_pos (.inr ⟨rfl, rfl⟩)]
    dsimp only
    rw [h.e, ey, plc_at he ha.2.2.2.2.1 ha.2.2.2.2.2]
    dsimp only
    rw [if_neg (by decide), c2]; rfl
  have hany : (q.arrows.any (fun x => decide (x.f = a.f ∧ x.e = a.e ∧ x.t = a.t))) = false := by
    rw [h.a, List.any_eq_false]
    intro b hb
    simp only [decide_eq_true_eq]
    rintro ⟨e1, e2, e3⟩
    obtain ⟨bf, be, bt⟩ := b
    obtain ⟨af, ae, at'⟩ := a
    dsimp only at e1 e2 e3
    subst e1; subst e2; subst e3
    exact hn _ hb rfl
  have s3 : psStep { q with three := [a.f, a.e], first := x.pos } 8 z = .ok { q with three := [], first := x.pos, arrows := q.arrows ++ [a] } := by
    unfold psStep
    rw [if_neg (by decide), if_neg (by decide), if_neg (by decide), if_neg (by simp)]
    dsimp only
    rw [h.s, ez, plc_at hs ha.2.2.1 ha.2.2.2.1]
    dsimp only
    rw [if_neg (by decide), c3]
    unfold psArr
    dsimp only [List.cons_append, List.nil_append]
    rw [hany]
    rfl
  refine ⟨{ q with three := [], first := x.pos, arrows := q.arrows ++ [a] }, ?_, h.s, h.e, h.r, rfl, by show q.arrows ++ [a] = _; rw [h.a]⟩
  show psGo q [((8 : Int), x), (8, y), (8, z)] = _
  rw [psGo, s1]
  dsimp only
  rw [psGo, s2]
  dsimp only
  rw [psGo, s3]
  rfl
section
variable {p : Proj}
theorem arr_far (h : MayT p) {a b : List Arr} {x : Arr} (e : p.m.arrows = a ++ x :: b) : ∀ y ∈ a, y ≠ x := fun y hy hyx => by
  have hi := may_inc h.m
  rw [e] at hi
  have := (List.pairwise_append.1 hi).2.2 y hy x (by simp)
  rw [hyx] at this
  unfold aheadB at this
  rw [if_pos rfl, if_pos rfl] at this
  have := of_decide_eq_true this
  omega
theorem arr_in (h : MayT p) {x : Arr} (hx : x ∈ p.m.arrows) : arrIn (p.states.length : Int) (p.events.length : Int) x := by
  have := may_arrs h.m x hx
  rw [h.ms, h.me] at this; exact this
theorem run_more (h : MayT p) {R : Nat → List Int} : ∀ (r A : List Arr) (q : Ps), p.m.arrows = A ++ r → IsPs p.states p.events R A q → PsRun q (r.flatMap fun _ => [-1, 8, 8, 8]) (moreT p r) (IsPs p.states p.events R p.m.arrows)
  | [], A, q, e, hq => run_none q (by rw [e, List.append_nil]; exact hq)
  | b :: r, A, q, e, hq => by
    have e2 : moreT p (b :: r) = [(false, [44])] ++ (arrT p b ++ moreT p r) := rfl
    have e3 : ((b :: r).flatMap fun _ => ([-1, 8, 8, 8] : List Int)) = [-1] ++ ([8, 8, 8] ++ (r.flatMap fun _ => [-1, 8, 8, 8])) := rfl
    rw [e2, e3]
    refine run_app (run_skip _ hq) rfl (fun q1 h1 => run_app (run_arr h1 h.sn h.en (arr_in h (by rw [e]; simp)) (arr_far h e)) rfl (fun q2 h2 => run_more h r (A ++ [b]) q2 (by rw [e]; simp) h2))
theorem run_last (h : MayT p) {R : Nat → List Int} {q : Ps} (hq : IsPs p.states p.events R [] q) : PsRun q (-1 :: (ofArrs p.m.arrows ++ [-1])) (lastT p) (IsPs p.states p.events R p.m.arrows) := by
  unfold lastT
  refine run_app (oa := [-1]) (a := [(true, partW 8)]) (run_skip _ hq) rfl (fun q1 h1 => ?_)
  cases hA : p.m.arrows with
  | nil => exact run_skip _ h1
  | cons a r =>
    have e2 : arrsT p (a :: r) ++ endT = arrT p a ++ (moreT p r ++ endT) := by rw [show arrsT p (a :: r) = arrT p a ++ moreT p r from rfl, List.append_assoc]
    have e3 : ofArrs (a :: r) ++ [-1] = [8, 8, 8] ++ ((r.flatMap fun _ => [-1, 8, 8, 8]) ++ [-1]) := by rw [show ofArrs (a :: r) = [8, 8, 8] ++ (r.flatMap fun _ => [-1, 8, 8, 8]) from rfl, List.append_assoc]
    show PsRun q1 (ofArrs (a :: r) ++ [-1]) (arrsT p (a :: r) ++ endT) _
    rw [e2, e3]
    have hl : ∀ r : List Arr, (r.flatMap fun _ => ([-1, 8, 8, 8] : List Int)).length = (moreT p r).length := by
      intro r
      induction r with
      | nil => rfl
      | cons b r ih =>
        have e : moreT p (b :: r) = ((false, [44]) :: arrT p b) ++ moreT p r := rfl
        rw [List.flatMap_cons, e, List.length_append, List.length_append, ih]; rfl
    refine run_app (run_arr h1 h.sn h.en (arr_in h (by rw [hA]; simp)) (fun y hy => by cases hy)) rfl (fun q2 h2 => run_app (run_more h r [a] q2 (by rw [hA]; rfl) h2) (hl r) (fun q3 h3 => ?_))
    rw [hA] at h3
    exact run_skip _ h3
/-- What is known behind the first n parts. -/
def stN (p : Proj) (n : Nat) : List Str := if 0 < n then p.states else []
def evN (p : Proj) (n : Nat) : List Str := if 1 < n then p.events else []
def rowN (p : Proj) (n : Nat) : Nat → List Int := fun k => if 2 ≤ k ∧ k < n then rowPT p k else []
theorem nodup_inc {l : List Int} (h : Inc l) : l.Nodup := List.nodup_iff_pairwise_ne.2 (List.Pairwise.imp (fun hab e => by omega) h)
theorem run_part (h : MayT p) {k : Nat} (hk : k < 8) {q : Ps} (hq : IsPs (stN p k) (evN p k) (rowN p k) [] q) : PsRun q (List.replicate (rowNames p k).length (k : Int)) (wordsT (rowNames p k)) (IsPs (stN p (k + 1)) (evN p (k + 1)) (rowN p (k + 1)) []) := by
  by_cases h0 : k = 0
  · subst h0
    have := run_states (E := evN p 0) (R := rowN p 0) (A := []) p.states [] q hq (by rw [List.nil_append]; exact h.sn) (by rw [List.nil_append]; exact h.s6)
    intro l hl
    obtain ⟨q', g1, g2⟩ := this l hl
    exact ⟨q', g1, g2.s, g2.e, fun j => by rw [g2.r j]; unfold rowN; rw [if_neg (by omega), if_neg (by omega)], g2.t, g2.a⟩
  · by_cases h1 : k = 1
    · subst h1
      have := run_events (S := stN p 1) (R := rowN p 1) (A := []) p.events [] q hq (by rw [List.nil_append]; exact h.en) (by rw [List.nil_append]; exact h.e8)
      intro l hl
      obtain ⟨q', g1, g2⟩ := this l hl
      exact ⟨q', g1, g2.s, g2.e, fun j => by rw [g2.r j]; unfold rowN; rw [if_neg (by omega), if_neg (by omega)], g2.t, g2.a⟩
    · have e1 : ∀ n, 1 ≤ n → stN p n = p.states := fun n hn => by unfold stN; rw [if_pos (by omega)]
      have e2 : ∀ n, 2 ≤ n → evN p n = p.events := fun n hn => by unfold evN; rw [if_pos (by omega)]
      rw [e1 k (by omega), e2 k (by omega)] at hq
      rw [e1 (k + 1) (by omega), e2 (k + 1) (by omega), rowNames_eq (by omega) hk, List.length_map]
      obtain ⟨i1, i2⟩ := rowP_in h (show 2 ≤ k by omega) hk
      have hz : rowN p k k = [] := by unfold rowN; rw [if_neg (by omega)]
      have := run_row (S := p.states) (E := p.events) (A := []) (show 2 ≤ k by omega) hk (src := srcP p k) rfl (src_ok h k).2 (rowPT p k) (rowN p k) q hq i2 (by rw [hz, List.nil_append]; exact nodup_inc i1)
      intro l hl
      obtain ⟨q', g1, g2⟩ := this l hl
      refine ⟨q', g1, g2.s, g2.e, fun j => ?_, g2.t, g2.a⟩
      rw [g2.r j]
      by_cases e : j = k
      · rw [if_pos e, hz, List.nil_append]; unfold rowN; rw [if_pos (by omega), e]
      · rw [if_neg e]
        unfold rowN
        by_cases hh : 2 ≤ j ∧ j < k
        · rw [if_pos hh, if_pos (by omega)]
        · rw [if_neg hh, if_neg (by omega)]
theorem run_head (h : MayT p) : ∀ n, n ≤ 8 → PsRun ps0 (ofHead p n) (headT p n) (IsPs (stN p n) (evN p n) (rowN p n) [])
  | 0, _ => run_none ps0 ⟨rfl, rfl, fun k => by unfold rowN; rw [if_neg (by omega)]; rfl, rfl, rfl⟩
  | n + 1, hn => by
    have e1 : headT p (n + 1) = headT p n ++ ([(true, partW n)] ++ (wordsT (rowNames p n) ++ endT)) := by unfold headT; rw [List.range_succ, List.flatMap_append]; simp [partT]
    have e2 : ofHead p (n + 1) = ofHead p n ++ ([-1] ++ (List.replicate (rowNames p n).length (n : Int) ++ [-1])) := by unfold ofHead; rw [List.range_succ, List.flatMap_append]; simp [ofPart]
    obtain ⟨c, -, hl⟩ := fm_head h n (by omega)
    rw [e1, e2]
    refine run_app (run_head h n (by omega)) hl (fun q1 h1 => run_app (run_skip _ h1) rfl (fun q2 h2 => run_app (run_part h (by omega) h2) (by simp [wordsT]) (fun q3 h3 => run_skip _ h3)))
theorem srt_id {l : List Int} (h : Inc l) : srt l = l := inc_ext (inc_srt l) h (fun x => mem_srt x l)
theorem end_is (h : MayT p) {q : Ps} (hq : IsPs (stN p 8) (evN p 8) (rowN p 8) p.m.arrows q) : psEnd q = p := by
  have r : ∀ k, 2 ≤ k → k < 8 → srt (q.rows k) = rowPT p k := fun k h2 h8 => by
    rw [hq.r k]; unfold rowN; rw [if_pos ⟨h2, h8⟩]; exact srt_id (rowP_in h h2 h8).1
  unfold psEnd
  rw [r 2 (by omega) (by omega), r 3 (by omega) (by omega), r 4 (by omega) (by omega), r 5 (by omega) (by omega), r 6 (by omega) (by omega), r 7 (by omega) (by omega), hq.a, srtA_id (may_inc h.m), hq.s, hq.e]
  have hms := h.ms
  have hme := h.me
  obtain ⟨S, E, ⟨st, ev, starts, arrows, ends⟩, seen, free, faults, secret⟩ := p
  dsimp only at hms hme
  subst hms; subst hme
  rfl
/-- P5. -/
theorem text_back (h : MayT p) (hl : (textL p).length ≤ 4000) : parseL (textL p) = (p, 0, 0) := by
  obtain ⟨t, r, e⟩ : ∃ t r, toksP p = t :: r := ⟨_, _, rfl⟩
  have hok := toks_ok h
  rw [e] at hok
  have ht := tok_text (f := (textL p).length + 1) hok (by unfold textL; rw [e]; exact Nat.lt_succ_self _)
  have e0 : t.2 ++ spcT r = textL p := by unfold textL; rw [e]; rfl
  rw [e0] at ht
  have hk : ((⟨t.1, t.2, 0⟩ :: posT t.2.length r : List Tok)).map kt = toksP p := by rw [List.map_cons, posT_kt, e]; rfl
  obtain ⟨c, f1, f2⟩ := fm_head h 8 (Nat.le_refl _)
  obtain ⟨c2, g1⟩ := fm_last (p := p) (n0 := c)
  have hf : fmGo ⟨0, 0, 1⟩ (toksP p) = (ofHead p 8 ++ (-1 :: (ofArrs p.m.arrows ++ [-1])), ⟨9, c2, 1⟩) := by
    unfold toksP
    rw [fm_app f1 f2, g1]
  have hlen : (ofHead p 8 ++ (-1 :: (ofArrs p.m.arrows ++ [-1]))).length = (⟨t.1, t.2, 0⟩ :: posT t.2.length r : List Tok).length := by
    have h3 : (⟨t.1, t.2, 0⟩ :: posT t.2.length r : List Tok).length = (toksP p).length := by rw [← hk, List.length_map]
    rw [h3]
    unfold toksP
    rw [List.length_append, List.length_append, f2]
    congr 1
    have hA : ∀ A : List Arr, (ofArrs A).length = (arrsT p A).length := by
      intro A
      cases A with
      | nil => rfl
      | cons a r =>
        have hl : ∀ r : List Arr, (r.flatMap fun _ => ([-1, 8, 8, 8] : List Int)).length = (moreT p r).length := by
          intro r
          induction r with
          | nil => rfl
          | cons b r ih =>
            have e : moreT p (b :: r) = ((false, [44]) :: arrT p b) ++ moreT p r := rfl
            rw [List.flatMap_cons, e, List.length_append, List.length_append, ih]; rfl
        show ([8, 8, 8] ++ _ : List Int).length = (arrT p a ++ moreT p r).length
        rw [List.length_append, List.length_append, ← hl r]; rfl
    simp [lastT, endT, hA]
  obtain ⟨q, p1, p2⟩ := run_app (run_head h 8 (Nat.le_refl _)) f2 (fun q1 h1 => run_last h (R := rowN p 8) (q := q1) h1) _ (show ((⟨t.1, t.2, 0⟩ :: posT t.2.length r : List Tok)).map kt = headT p 8 ++ lastT p from hk)
  unfold parseL
  rw [if_neg (by omega), ht]
  dsimp only
  rw [if_neg (by simp), hk, hf]
  dsimp only
  rw [if_neg (by omega), if_neg (by simp), p1]
  dsimp only
  rw [end_is h p2]
end

end Go.Proofs.Ytbgiliophmofgaa
namespace Go.Proofs.Ytbgiliophmofgaa
open Go.RowKit
set_option linter.unusedVariables false

/-- Words, a space ahead of each. -/
def spw (ns : List Str) : Str := ns.flatMap fun x => 32 :: x
def lstT (ns : List Str) (part : Str) (l : List Int) : Str := part ++ l.flatMap (fun n => 32 :: nameAt ns n)
/-- The arrows. -/
def arrS (p : Proj) (a : Arr) : Str := 32 :: nameAt p.states a.f ++ 32 :: nameAt p.events a.e ++ 32 :: nameAt p.states a.t
def arrsS (p : Proj) : List Arr → Str
  | [] => []
  | a :: r => arrS p a ++ r.flatMap fun b => 32 :: 44 :: arrS p b
theorem spcT_append (a b : List (Bool × Str)) : spcT (a ++ b) = spcT a ++ spcT b := by
  unfold spcT; simp
theorem spcT_words (ns : List Str) : spcT (wordsT ns) = spw ns := by
  unfold spcT wordsT spw
  rw [List.flatMap_map]
theorem spcT_arr (p : Proj) (a : Arr) : spcT (arrT p a) = arrS p a := by
  unfold arrT
  rw [spcT_words]
  simp [spw, arrS]
theorem spcT_arrs (p : Proj) (l : List Arr) : spcT (arrsT p l) = arrsS p l := by
  cases l with
  | nil => rfl
  | cons a r =>
    rw [arrsT, spcT_append, spcT_arr, arrsS]
    congr 1
    unfold moreT
    induction r with
    | nil => rfl
    | cons b r ih =>
      rw [List.flatMap_cons, spcT_append, ih, List.flatMap_cons]
      congr 1
      have e : spcT ((false, [44]) :: arrT p b) = spcT [(false, [44])] ++ spcT (arrT p b) := by rw [← spcT_append]; rfl
      rw [e, spcT_arr]; rfl
theorem spw_map (ns : List Str) (l : List Int) (part : Str) : part ++ spw (l.map (nameAt ns)) = lstT ns part l := by
  unfold spw lstT
  rw [List.flatMap_map]
theorem spcT_part (k : Nat) (ns : List Str) : spcT (partT k ns) = 32 :: (partW k ++ spw ns ++ [32, 59]) := by
  unfold partT
  have e : spcT ((true, partW k) :: (wordsT ns ++ endT)) = spcT [(true, partW k)] ++ spcT (wordsT ns ++ endT) := by rw [← spcT_append]; rfl
  rw [e, spcT_append, spcT_words]
  simp [spcT, endT]
/-- The text, as it is printed. -/
def sTx : Str := [115, 116, 97, 116, 101, 115]
def eTx : Str := [32, 59, 32, 101, 118, 101, 110, 116, 115]
def prtS (p : Proj) : Str :=
  sTx ++ spw p.states ++ eTx ++ spw p.events ++ [32, 59, 32] ++ (lstT p.events [115, 101, 101, 110] p.seen ++ [32, 59, 32]) ++ (lstT p.events [102, 114, 101, 101] p.free ++ [32, 59, 32]) ++ (lstT p.events [102, 97, 117, 108, 116, 115] p.faults ++ [32, 59, 32]) ++ (lstT p.states [115, 101, 99, 114, 101, 116] p.secret ++ [32, 59, 32]) ++ (lstT p.states [115, 116, 97, 114, 116, 115] p.m.starts ++ [32, 59, 32]) ++ (lstT p.states [101, 110, 100, 115] p.m.ends ++ [32, 59, 32]) ++ [97, 114, 114, 111, 119, 115] ++ arrsS p p.m.arrows ++ [32, 59]
theorem text_prt (p : Proj) : textL p = prtS p := by
  have e : toksP p = (true, partW 0) :: ((wordsT p.states ++ endT) ++ (partT 1 (rowNames p 1) ++ (partT 2 (rowNames p 2) ++ (partT 3 (rowNames p 3) ++ (partT 4 (rowNames p 4) ++ (partT 5 (rowNames p 5) ++ (partT 6 (rowNames p 6) ++ (partT 7 (rowNames p 7) ++ lastT p)))))))) := by
    unfold toksP headT
    have : List.range 8 = [0, 1, 2, 3, 4, 5, 6, 7] := rfl
    rw [this]
    simp [partT, rowNames]
  unfold textL
  rw [e, joinT]
  have el : spcT (lastT p) = 32 :: (partW 8 ++ arrsS p p.m.arrows ++ [32, 59]) := by
    unfold lastT
    have e2 : spcT ((true, partW 8) :: (arrsT p p.m.arrows ++ endT)) = spcT [(true, partW 8)] ++ spcT (arrsT p p.m.arrows ++ endT) := by rw [← spcT_append]; rfl
    rw [e2, spcT_append, spcT_arrs]
    simp [spcT, endT]
  simp only [spcT_append, spcT_part, spcT_words, el]
  unfold prtS
  simp only [← spw_map, rowNames]
  simp [spcT, endT, partW, partsW, sTx, eTx]

end Go.Proofs.Ytbgiliophmofgaa
namespace Go.Proofs.Ytbgiliophmofgaa
open Go.RowKit
set_option linter.unusedVariables false

theorem consT_len (t : Tok) (r : TokR) : (consT t r).1.length ≤ r.1.length + 1 := by
  unfold consT
  split
  · simp
  · simp
theorem tok_len : ∀ (f p : Nat) (s : Str), (tokR f p s).1.length ≤ s.length
  | 0, _, _ => by simp [tokR]
  | _ + 1, _, [] => by simp [tokR]
  | f + 1, p, c :: r => by
    unfold tokR
    split
    · have := tok_len f (p + 1) r; simp; omega
    · split
      · have := tok_len f (p + 1) r
        have h2 := consT_len ⟨false, [c], p⟩ (tokR f (p + 1) r)
        simp; omega
      · split
        · simp
        · split
          · simp
          · have := tok_len f (p + 1 + (r.takeWhile insB).length) (r.drop (r.takeWhile insB).length)
            have h2 := consT_len ⟨true, c :: r.takeWhile insB, p⟩ (tokR f (p + 1 + (r.takeWhile insB).length) (r.drop (r.takeWhile insB).length))
            rw [List.length_drop] at this
            simp only [List.length_cons]; omega
section
variable {s : Str} {T : TokR} {O : List Int × Fm}
theorem parse_long (h : 4000 < s.length) : parseL s = (proj0, 1, 0) := by unfold parseL; rw [if_pos h]
theorem parse_tok (h : ¬ 4000 < s.length) (hT : tokR (s.length + 1) 0 s = T) (he : T.2.1 ≠ 0) : parseL s = (proj0, T.2.1, T.2.2) := by
  unfold parseL; rw [if_neg h, hT, if_pos he]
theorem parse_form (h : ¬ 4000 < s.length) (hT : tokR (s.length + 1) 0 s = T) (he : T.2.1 = 0) (hO : fmGo ⟨0, 0, 1⟩ (T.1.map kt) = O) (hl : O.1.length < T.1.length) {t : Tok} (ht : T.1[O.1.length]? = some t) : parseL s = (proj0, 2, t.pos) := by
  unfold parseL
  rw [if_neg h, hT, if_neg (by rw [he]; simp)]
  show (if (fmGo ⟨0, 0, 1⟩ (T.1.map kt)).1.length < T.1.length then (proj0, (2 : Int), (T.1[(fmGo ⟨0, 0, 1⟩ (T.1.map kt)).1.length]?.map (·.pos)).getD 0) else _) = _
  rw [hO, if_pos hl, ht]
  rfl
theorem parse_end (h : ¬ 4000 < s.length) (hT : tokR (s.length + 1) 0 s = T) (he : T.2.1 = 0) (hO : fmGo ⟨0, 0, 1⟩ (T.1.map kt) = O) (hl : ¬ O.1.length < T.1.length) (hp : ¬ O.2.part = 9) : parseL s = (proj0, 2, s.length) := by
  unfold parseL
  rw [if_neg h, hT, if_neg (by rw [he]; simp)]
  show (if (fmGo ⟨0, 0, 1⟩ (T.1.map kt)).1.length < T.1.length then _ else if ¬ (fmGo ⟨0, 0, 1⟩ (T.1.map kt)).2.part = 9 then (proj0, (2 : Int), s.length) else _) = _
  rw [hO, if_neg hl, if_pos hp]
theorem parse_rest (h : ¬ 4000 < s.length) (hT : tokR (s.length + 1) 0 s = T) (he : T.2.1 = 0) (hO : fmGo ⟨0, 0, 1⟩ (T.1.map kt) = O) (hl : ¬ O.1.length < T.1.length) (hp : O.2.part = 9) : parseL s = match psGo ps0 (O.1.zip T.1) with
    | .error e => (proj0, e)
    | .ok q => (psEnd q, 0, 0) := by
  unfold parseL
  rw [if_neg h, hT, if_neg (by rw [he]; simp)]
  show (if (fmGo ⟨0, 0, 1⟩ (T.1.map kt)).1.length < T.1.length then _ else if ¬ (fmGo ⟨0, 0, 1⟩ (T.1.map kt)).2.part = 9 then _ else match psGo ps0 ((fmGo ⟨0, 0, 1⟩ (T.1.map kt)).1.zip T.1) with | .error e => (proj0, e) | .ok q => (psEnd q, 0, 0)) = _
  rw [hO, if_neg hl, if_neg (by rw [hp]; simp)]
end

end Go.Proofs.Ytbgiliophmofgaa
namespace Go.Proofs.Ytbgiliophmofgaa
open Go.RowKit
set_option linter.unusedVariables false

/-- A token that comes. -/
def TkOk (t : Tok) : Prop := tokOk (kt t)
theorem consT_ok_mem {t : Tok} {r : TokR} (ht : TkOk t) (hr : ∀ x ∈ r.1, TkOk x) : ∀ x ∈ (consT t r).1, TkOk x := by
  unfold consT
  split
  · intro x hx
    rcases List.mem_cons.1 hx with rfl | hx
    · exact ht
    · exact hr x hx
  · intro x hx; cases hx
theorem tokR_ok : ∀ (f p : Nat) (s : Str), ∀ t ∈ (tokR f p s).1, TkOk t
  | 0, _, _ => by simp [tokR]
  | _ + 1, _, [] => by simp [tokR]
  | f + 1, p, c :: r => by
    unfold tokR
    split
    · exact tokR_ok f _ _
    · split
      · rename_i h1 h2
        refine consT_ok_mem (.inr ⟨rfl, ?_⟩) (tokR_ok f _ _)
        rcases h2 with rfl | rfl
        · exact .inl rfl
        · exact .inr rfl
      · split
        · intro x hx; cases hx
        · split
          · intro x hx; cases hx
          · rename_i h1 h2 h3 h4
            refine consT_ok_mem (.inl ⟨rfl, c, r.takeWhile insB, rfl, by simpa using h3, fun x hx => ?_, by omega⟩) (tokR_ok f _ _)
            exact List.all_takeWhile (p := insB) |> fun h => (List.all_eq_true.1 h) x hx
theorem word_sign {t : Tok} (h : TkOk t) (hw : t.word = true) : t.text ≠ [59] ∧ t.text ≠ [44] := by
  rcases h with ⟨-, c, w, ht, hc, -⟩ | ⟨h, -⟩
  · have ht : t.text = c :: w := ht
    rw [ht]
    constructor
    · intro e
      cases e
      simp [letB, letN] at hc
    · intro e
      cases e
      simp [letB, letN] at hc
  · have h : t.word = false := h
    rw [hw] at h; cases h
theorem sign_word {t : Tok} (h : TkOk t) {w : Str} (he : t.text = w) (hw : w ≠ [59] ∧ w ≠ [44]) : t.word = true := by
  rcases h with ⟨h, -⟩ | ⟨-, h⟩
  · exact h
  · rcases h with h | h
    · exact absurd (he.symm.trans h) hw.1
    · exact absurd (he.symm.trans h) hw.2
theorem partW_sign : ∀ k, k < 9 → partsW[k]?.getD [] ≠ [59] ∧ partsW[k]?.getD [] ≠ [44] := by decide

/-! What may come. -/
theorem fmStep_def (k m n : Nat) (t : Tok) : fmStep ⟨k, m, n⟩ (kt t) =
    (if n = 1 ∧ k < 9 ∧ t.word = true ∧ t.text = partsW[k]?.getD [] then some (⟨k, 0, if k = 0 then 2 else 6⟩, -1)
    else if n ≠ 1 ∧ 0 < n &&& 2 ∧ t.word = true then some (⟨k, m + 1, fmNext k (m + 1)⟩, (k : Int))
    else if n ≠ 1 ∧ 0 < n &&& 4 ∧ t.text = [59] then some (⟨k + 1, m, 1⟩, -1)
    else if n ≠ 1 ∧ 0 < n &&& 8 ∧ t.text = [44] then some (⟨k, m, 2⟩, -1)
    else none) := rfl
section
variable {k m : Nat} {t : Tok}
theorem fm_head_yes (ht : TkOk t) (hk : k < 9) (h : t.text = partsW[k]?.getD []) : fmStep ⟨k, m, 1⟩ (kt t) = some (⟨k, 0, if k = 0 then 2 else 6⟩, -1) := by
  have hw := sign_word ht h (partW_sign k hk)
  rw [fmStep_def, if_pos ⟨rfl, hk, hw, h⟩]
theorem fm_head_no (h : ¬ (k < 9 ∧ t.text = partsW[k]?.getD [])) : fmStep ⟨k, m, 1⟩ (kt t) = none := by
  have h1 : ¬ ((1 : Nat) = 1 ∧ k < 9 ∧ t.word = true ∧ t.text = partsW[k]?.getD []) := fun e => h ⟨e.2.1, e.2.2.2⟩
  rw [fmStep_def, if_neg h1]
  simp
theorem fm_name_yes {n : Nat} (hn : n = 2 ∨ n = 6) (hw : t.word = true) : fmStep ⟨k, m, n⟩ (kt t) = some (⟨k, m + 1, fmNext k (m + 1)⟩, (k : Int)) := by
  rw [fmStep_def]
  rcases hn with rfl | rfl <;> simp [hw]
theorem end_word (ht : TkOk t) {c : UInt8} (hc : c = 59 ∨ c = 44) (hw : t.text = [c]) : t.word = false := by
  cases hb : t.word with
  | false => rfl
  | true =>
    rcases hc with rfl | rfl
    · exact absurd hw (word_sign ht hb).1
    · exact absurd hw (word_sign ht hb).2
theorem fm_end_yes (ht : TkOk t) {n : Nat} (hn : n = 6 ∨ n = 12) (hw : t.text = [59]) : fmStep ⟨k, m, n⟩ (kt t) = some (⟨k + 1, m, 1⟩, -1) := by
  have hb := end_word ht (.inl rfl) hw
  rw [fmStep_def]
  rcases hn with rfl | rfl <;> simp [hw, hb]
theorem fm_comma_yes (ht : TkOk t) (hw : t.text = [44]) : fmStep ⟨k, m, 12⟩ (kt t) = some (⟨k, m, 2⟩, -1) := by
  have hb := end_word ht (.inr rfl) hw
  rw [fmStep_def]
  simp [hw, hb]
theorem fm_two_no (hw : t.word = false) : fmStep ⟨k, m, 2⟩ (kt t) = none := by
  rw [fmStep_def]
  simp [hw]
theorem fm_six_no (hw : t.word = false) (h : t.text ≠ [59]) : fmStep ⟨k, m, 6⟩ (kt t) = none := by
  rw [fmStep_def]
  simp [hw, h]
theorem fm_twelve_no (h : t.text ≠ [59]) (h2 : t.text ≠ [44]) : fmStep ⟨k, m, 12⟩ (kt t) = none := by
  rw [fmStep_def]
  simp [h, h2]
end
theorem fmGo_some {s s' : Fm} {t : Tok} {r : List Tok} {i : Int} (h : fmStep s (kt t) = some (s', i)) : fmGo s ((t :: r).map kt) = (i :: (fmGo s' (r.map kt)).1, (fmGo s' (r.map kt)).2) := by
  rw [List.map_cons, fmGo, h]
theorem fmGo_none {s : Fm} {t : Tok} {r : List Tok} (h : fmStep s (kt t) = none) : fmGo s ((t :: r).map kt) = ([], s) := by
  rw [List.map_cons, fmGo, h]

/-! A part: its word, its names, the sign behind them. -/
def nameW (l : List Tok) : List Tok := l.takeWhile (·.word)
def restW (l : List Tok) : List Tok := l.dropWhile (·.word)
theorem nameW_rest (l : List Tok) : nameW l ++ restW l = l := List.takeWhile_append_dropWhile
theorem rest_head {l : List Tok} {s : Tok} {r : List Tok} (h : restW l = s :: r) : s.word = false := by
  have h1 : ∃ (hne : restW l ≠ []), ((restW l).head hne).word = false := ⟨by rw [h]; simp, by
    have := List.head_dropWhile_not (p := fun t : Tok => t.word) (l := l) (by
      show restW l ≠ []
      rw [h]; simp)
    exact this⟩
  obtain ⟨hne, h2⟩ := h1
  simpa [h] using h2
abbrev Rd (α : Type) := Except (List Tok) (α × List Tok)
/-- The sign behind. -/
def rdEnd {α : Type} (x : α) (l : List Tok) : Rd α := match l with
  | [] => .error []
  | s :: r => if s.text = [59] then .ok (x, r) else .error (s :: r)
def rdNames (least : Nat) (l : List Tok) : Rd (List Tok) := if (nameW l).length < least then .error (restW l) else rdEnd (nameW l) (restW l)
def rdPart (w : Str) (least : Nat) (l : List Tok) : Rd (List Tok) := match l with
  | [] => .error []
  | t :: r => if t.text = w then rdNames least r else .error (t :: r)
/-- Where it fails: so much of it is right, and the part is none behind the last one. -/
def FmErr (s : Fm) (l e : List Tok) : Prop := (fmGo s (l.map kt)).2.part < 9 ∧ l.drop (fmGo s (l.map kt)).1.length = e ∧ (fmGo s (l.map kt)).1.length ≤ l.length
theorem fmErr_stop {s : Fm} {l : List Tok} (hp : s.part < 9) (h : fmGo s (l.map kt) = ([], s)) : FmErr s l l := by
  unfold FmErr
  rw [h]
  exact ⟨hp, rfl, by simp⟩
theorem fmErr_cons {s s' : Fm} {t : Tok} {r e : List Tok} {i : Int} (h : fmStep s (kt t) = some (s', i)) (he : FmErr s' r e) : FmErr s (t :: r) e := by
  unfold FmErr at *
  rw [fmGo_some h]
  obtain ⟨h1, h2, h3⟩ := he
  exact ⟨h1, by simpa using h2, by simp; omega⟩
theorem fm_nil (s : Fm) : fmGo s (([] : List Tok).map kt) = ([], s) := rfl
/-- What is told of the tokens of l up to r, and what comes behind. -/
def FmTo (s : Fm) (l : List Tok) (o : List Int) (s' : Fm) (r : List Tok) : Prop := ∃ p, l = p ++ r ∧ o.length = p.length ∧ fmGo s (l.map kt) = (o ++ (fmGo s' (r.map kt)).1, (fmGo s' (r.map kt)).2)
theorem fmTo_cons {s s1 s' : Fm} {t : Tok} {l r : List Tok} {i : Int} {o : List Int} (h : fmStep s (kt t) = some (s1, i)) (he : FmTo s1 l o s' r) : FmTo s (t :: l) (i :: o) s' r := by
  obtain ⟨p, rfl, h2, h3⟩ := he
  exact ⟨t :: p, rfl, by simp [h2], by rw [fmGo_some h, h3]; rfl⟩
theorem fmTo_refl (s : Fm) (l : List Tok) : FmTo s l [] s l := ⟨[], rfl, rfl, by simp⟩
theorem fmTo_err {s s' : Fm} {l r e : List Tok} {o : List Int} (h : FmTo s l o s' r) (he : FmErr s' r e) : FmErr s l e := by
  obtain ⟨p, rfl, h2, h3⟩ := h
  obtain ⟨e1, e2, e3⟩ := he
  unfold FmErr
  rw [h3]
  refine ⟨e1, ?_, by simp; omega⟩
  show (p ++ r).drop (o ++ _).length = e
  rw [List.length_append, h2, List.drop_append]
  rw [List.drop_of_length_le (by omega), List.nil_append, Nat.add_sub_cancel_left]
  exact e2
theorem fmTo_trans {s s1 s2 : Fm} {l r r2 : List Tok} {o o2 : List Int} (h : FmTo s l o s1 r) (h2 : FmTo s1 r o2 s2 r2) : FmTo s l (o ++ o2) s2 r2 := by
  obtain ⟨p, rfl, a2, a3⟩ := h
  obtain ⟨p2, rfl, b2, b3⟩ := h2
  exact ⟨p ++ p2, by simp, by simp [a2, b2], by rw [a3, b3]; simp⟩
theorem fm_namesD {k : Nat} (hk : k < 8) : ∀ (l : List Tok) (m n : Nat), (∀ t ∈ l, TkOk t) → (n = 2 ∨ n = 6) → ∃ s', FmTo ⟨k, m, n⟩ l (List.replicate (nameW l).length (k : Int)) s' (restW l) ∧ s'.part = k ∧ s'.next = if nameW l = [] then n else 6
  | [], m, n, _, hn => ⟨_, fmTo_refl _ _, rfl, by simp [nameW]⟩
  | t :: r, m, n, h, hn => by
    have ht := h t (by simp)
    by_cases hw : t.word = true
    · have e1 : nameW (t :: r) = t :: nameW r := by unfold nameW; rw [List.takeWhile_cons_of_pos hw]
      have e2 : restW (t :: r) = restW r := by unfold restW; rw [List.dropWhile_cons_of_pos hw]
      have hx : fmNext k (m + 1) = 6 := by unfold fmNext; rw [if_neg (by omega), if_neg (by omega)]
      have hs := fm_name_yes (k := k) (m := m) hn hw
      rw [hx] at hs
      obtain ⟨s', h1, h2, h3⟩ := fm_namesD hk r (m + 1) 6 (fun x hx => h x (by simp [hx])) (.inr rfl)
      refine ⟨s', ?_, h2, ?_⟩
      · rw [e1, e2]
        exact fmTo_cons hs h1
      · rw [h3, e1]; simp
    · have e1 : nameW (t :: r) = [] := by unfold nameW; rw [List.takeWhile_cons_of_neg hw]
      have e2 : restW (t :: r) = t :: r := by unfold restW; rw [List.dropWhile_cons_of_neg hw]
      rw [e1, e2]
      exact ⟨_, fmTo_refl _ _, rfl, by simp⟩
theorem fm_endOf {α : Type} {k m n : Nat} (x : α) (hk : k < 9) (hn : n = 6 ∨ n = 12) {l : List Tok} (h : ∀ t ∈ l, TkOk t) (hl : ∀ s r, l = s :: r → s.word = false ∧ (n = 12 → s.text ≠ [44])) : match rdEnd x l with
    | .error e => FmErr ⟨k, m, n⟩ l e
    | .ok (y, r) => y = x ∧ FmTo ⟨k, m, n⟩ l [-1] ⟨k + 1, m, 1⟩ r := by
  unfold rdEnd
  cases l with
  | nil => exact fmErr_stop hk rfl
  | cons s r =>
    have hs := h s (by simp)
    obtain ⟨hw, hc⟩ := hl s r rfl
    by_cases he : s.text = [59]
    · dsimp only
      rw [if_pos he]
      exact ⟨rfl, fmTo_cons (fm_end_yes hs hn he) (fmTo_refl _ _)⟩
    · dsimp only
      rw [if_neg he]
      refine fmErr_stop hk (fmGo_none ?_)
      rcases hn with rfl | rfl
      · exact fm_six_no hw he
      · exact fm_twelve_no he (hc rfl)
/-- A PART. -/
theorem fm_partD {k m : Nat} (hk : k < 8) {l : List Tok} (h : ∀ t ∈ l, TkOk t) : match rdPart (partsW[k]?.getD []) (if k = 0 then 1 else 0) l with
    | .error e => FmErr ⟨k, m, 1⟩ l e
    | .ok (ns, r) => ∃ m' w s, FmTo ⟨k, m, 1⟩ l (-1 :: (List.replicate ns.length (k : Int) ++ [-1])) ⟨k + 1, m', 1⟩ r ∧ l = w :: (ns ++ s :: r) := by
  unfold rdPart
  cases l with
  | nil => exact fmErr_stop (by show k < 9; omega) rfl
  | cons t r =>
    have ht := h t (by simp)
    by_cases he : t.text = partsW[k]?.getD []
    · dsimp only
      rw [if_pos he]
      have hs := fm_head_yes (m := m) ht (by omega) he
      have hr : ∀ x ∈ r, TkOk x := fun x hx => h x (by simp [hx])
      obtain ⟨s', h1, h2, h3⟩ := fm_namesD hk r 0 (if k = 0 then 2 else 6) hr (by split <;> omega)
      unfold rdNames
      by_cases hc : (nameW r).length < (if k = 0 then 1 else 0)
      · rw [if_pos hc]
        have hk0 : k = 0 := by
          by_cases e : k = 0
          · exact e
          · rw [if_neg e] at hc; omega
        have hn : nameW r = [] := by
          rw [if_pos hk0] at hc
          exact List.eq_nil_of_length_eq_zero (by omega)
        refine fmErr_cons hs (fmTo_err h1 ?_)
        obtain ⟨p, n, x⟩ := s'
        dsimp only at h2 h3
        rw [if_pos hn, if_pos hk0] at h3
        subst h2; subst h3
        cases hq : restW r with
        | nil => exact fmErr_stop (by show p < 9; omega) rfl
        | cons s q =>
          exact fmErr_stop (by show p < 9; omega) (fmGo_none (fm_two_no (rest_head hq)))
      · rw [if_neg hc]
        have hx : s'.next = 6 := by
          rw [h3]
          split
          · rename_i e
            split
            · rename_i e0
              rw [if_pos e0, e] at hc
              simp at hc
            · rfl
          · rfl
        obtain ⟨p, n, x⟩ := s'
        dsimp only at h2 hx
        subst h2; subst hx
        have hq := fm_endOf (m := n) (n := 6) (nameW r) (show p < 9 by omega) (.inl rfl) (l := restW r) (fun x hx => hr x (by rw [← nameW_rest r]; simp [hx])) (fun s q e => ⟨rest_head e, fun e => by omega⟩)
        unfold rdEnd at hq ⊢
        cases hz : restW r with
        | nil =>
          rw [hz] at hq
          exact fmErr_cons hs (fmTo_err h1 (by rw [hz]; exact hq))
        | cons s q =>
          rw [hz] at hq
          by_cases h59 : s.text = [59]
          · dsimp only at hq ⊢
            rw [if_pos h59] at hq ⊢
            refine ⟨n, t, s, ?_, ?_⟩
            · exact fmTo_cons hs (fmTo_trans h1 (by rw [hz]; exact hq.2))
            · show t :: r = _
              rw [← hz, nameW_rest]
          · dsimp only at hq ⊢
            rw [if_neg h59] at hq ⊢
            exact fmErr_cons hs (fmTo_err h1 (by rw [hz]; exact hq))
    · dsimp only
      rw [if_neg he]
      exact fmErr_stop (by show k < 9; omega) (fmGo_none (fm_head_no (fun e => he e.2)))

end Go.Proofs.Ytbgiliophmofgaa
