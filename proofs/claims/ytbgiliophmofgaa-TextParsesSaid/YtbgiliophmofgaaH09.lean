/-
  The walks of text.isLetter, isInner, isBlank, isSign, giveUp, name, isName.
  The walks of text.the, anyName, reader.comes, take, skip, at.
  The walks of reader.comes, at, take, skip.
  The walk of reader.part.
-/
import Derived.Deep.QuietTactic
import Derived.BigQuiet
import Derived.WalkLawsBesides
import Derived.Test.YtbgiliophmofgaaH06
import Derived.Test.YtbgiliophmofgaaH05
import Derived.Test.YtbgiliophmofgaaH03
import Derived.Test.YtbgiliophmofgaaH01
import Derived.Deep.LoopGhost
import Derived.Test.YtbgiliophmofgaaH02
namespace Go.Proofs.Ytbgiliophmofgaa
open Go.RowKit
set_option linter.unusedVariables false

set_option maxHeartbeats 1000000 in
theorem isLetter_nat (n : Nat) (w : World) : Calls Try.prog 62 #[.int .u8 (n : Int)] w fun e w' => e = .returned (.bool (letN n)) ∧ w' = w := by
  obtain ⟨b, HB⟩ : ∃ b, Hid (((decide (97 ≤ n) && decide (n ≤ 122)) || (decide (65 ≤ n) && decide (n ≤ 90))) = b) := ⟨_, rfl⟩
  have HC : Hid (letN n = b) := HB.out
  rw [HC.out]
  clear HC
  by_cases h1 : 97 ≤ n
  · by_cases h2 : n ≤ 122
    · have hb : b = true := by rw [← HB.out, decide_eq_true h1, decide_eq_true h2]; rfl
      subst hb
      clear HB
      go_enter Try.func62, Try.ntmps62
      go_wp2
      go_ret
      exact ⟨rfl, rfl⟩
    · have h4 : ¬ n ≤ 90 := by omega
      have hb : b = false := by rw [← HB.out, decide_eq_true h1, decide_eq_false h2, decide_eq_false h4]; simp
      subst hb
      have h3 : 65 ≤ n := by omega
      have g2 : decide ((n : Int) ≤ 122) = false := by simp; omega
      have g4 : decide ((n : Int) ≤ 90) = false := by simp; omega
      clear h2 h4 HB
      go_enter Try.func62, Try.ntmps62
      go_wp2
      go_ret
      exact ⟨rfl, rfl⟩
  · have g1 : n < 97 := by omega
    by_cases h3 : 65 ≤ n
    · by_cases h4 : n ≤ 90
      · have hb : b = true := by rw [← HB.out, decide_eq_true h3, decide_eq_true h4]; simp
        subst hb
        have g4 : decide ((n : Int) ≤ 90) = true := by simp; omega
        clear HB h1
        go_enter Try.func62, Try.ntmps62
        go_wp2
        go_ret
        exact ⟨rfl, rfl⟩
      · have hb : b = false := by rw [← HB.out, decide_eq_false h1, decide_eq_false h4]; simp
        subst hb
        have g4 : decide ((n : Int) ≤ 90) = false := by simp; omega
        clear HB h1 h4
        go_enter Try.func62, Try.ntmps62
        go_wp2
        go_ret
        exact ⟨rfl, rfl⟩
    · have hb : b = false := by rw [← HB.out, decide_eq_false h1, decide_eq_false h3]; simp
      subst hb
      have g3 : n < 65 := by omega
      clear HB h1 h3
      go_enter Try.func62, Try.ntmps62
      go_wp2
      go_ret
      exact ⟨rfl, rfl⟩
def innN (n : Nat) : Bool := (decide (48 ≤ n) && decide (n ≤ 57)) || decide (n = 95)
theorem insN_or (n : Nat) : insN n = (letN n || innN n) := by unfold insN innN; rw [Bool.or_assoc]
set_option maxHeartbeats 1000000 in
theorem isInner_nat (n : Nat) (w : World) : Calls Try.prog 63 #[.int .u8 (n : Int)] w fun e w' => e = .returned (.bool (innN n)) ∧ w' = w := by
  obtain ⟨b, HB⟩ : ∃ b, Hid (((decide (48 ≤ n) && decide (n ≤ 57)) || decide (n = 95)) = b) := ⟨_, rfl⟩
  have HC : Hid (innN n = b) := by show _ = _; unfold innN; exact HB.out
  rw [HC.out]
  clear HC
  go_enter Try.func63, Try.ntmps63
  by_cases h1 : 48 ≤ n
  · by_cases h2 : n ≤ 57
    · have hb : b = true := by rw [← HB.out, decide_eq_true h1, decide_eq_true h2]; rfl
      subst hb
      have g2 : decide ((n : Int) ≤ 57) = true := by simp; omega
      clear HB
      go_wp2
      go_ret
      exact ⟨rfl, rfl⟩
    · have g2 : decide ((n : Int) ≤ 57) = false := by simp; omega
      by_cases h3 : n = 95
      · have hb : b = true := by rw [← HB.out, decide_eq_true h3]; simp
        subst hb
        have e3 : ((n : Int) == 95) = true := beq_iff_eq.2 (by omega)
        clear HB h2 h3
        go_wp2
        go_ret
        exact ⟨rfl, rfl⟩
      · have hb : b = false := by rw [← HB.out, decide_eq_false h2, decide_eq_false h3]; simp
        subst hb
        have e3 : ((n : Int) == 95) = false := beq_eq_false_iff_ne.2 (by omega)
        clear HB h2 h3
        go_wp2
        go_ret
        exact ⟨rfl, rfl⟩
  · have g1 : n < 48 := by omega
    have hb : b = false := by rw [← HB.out, decide_eq_false h1, decide_eq_false (show ¬ n = 95 by omega)]; simp
    subst hb
    have e3 : ((n : Int) == 95) = false := beq_eq_false_iff_ne.2 (by omega)
    clear HB h1
    go_wp2
    go_ret
    exact ⟨rfl, rfl⟩
set_option maxHeartbeats 1000000 in
theorem isBlank_nat (n : Nat) (w : World) : Calls Try.prog 38 #[.int .u8 (n : Int)] w fun e w' => e = .returned (.bool (decide (n = 32 ∨ n = 10))) ∧ w' = w := by
  go_enter Try.func38, Try.ntmps38
  by_cases h1 : n = 32
  · subst h1
    go_wp2
    go_ret
    exact ⟨rfl, rfl⟩
  · have b1 : ((n : Int) == 32) = false := beq_eq_false_iff_ne.2 (by omega)
    by_cases h2 : n = 10
    · subst h2
      go_wp2
      go_ret
      exact ⟨rfl, rfl⟩
    · have b2 : ((n : Int) == 10) = false := beq_eq_false_iff_ne.2 (by omega)
      have HD : Hid (decide (n = 32 ∨ n = 10) = false) := decide_eq_false (fun h => h.elim h1 h2)
      rw [HD.out]
      clear h1 h2
      go_wp2
      go_ret
      exact ⟨rfl, rfl⟩
set_option maxRecDepth 100000 in
set_option maxHeartbeats 1000000 in
theorem isSign_any (s : Str) (w : World) : Calls Try.prog 39 #[strV s] w fun e w' => e = .returned (.bool (decide (s = [59] ∨ s = [44]))) ∧ w' = w := by
  go_enter Try.func39, Try.ntmps39
  by_cases h1 : s = [59]
  · subst h1
    go_wp2
    go_ret
    exact ⟨rfl, rfl⟩
  · have b1 : (s == [59]) = false := beq_eq_false_iff_ne.2 h1
    have d1 : decide (s = [59]) = false := decide_eq_false h1
    by_cases h2 : s = [44]
    · subst h2
      go_wp2
      go_ret
      exact ⟨rfl, rfl⟩
    · have b2 : (s == [44]) = false := beq_eq_false_iff_ne.2 h2
      have d2 : decide (s = [44]) = false := decide_eq_false h2
      have HD : Hid (decide (s = [59] ∨ s = [44]) = false) := decide_eq_false (fun h => h.elim h1 h2)
      rw [HD.out]
      clear h1 h2
      go_wp2
      go_ret
      exact ⟨rfl, rfl⟩
/-- A call that gives up. -/
abbrev Pn (c : Int) (p : Int) : Ending := .panicked [{ v := .iface 31 (.agg #[.int .i64 c, .int .i64 p]), recovered := false }]
set_option maxHeartbeats 1000000 in
theorem giveUp_any (c p : Int) (w : World) : Calls Try.prog 18 #[.int .i64 c, .int .i64 p] w fun e w' => e = Pn c p ∧ w' = w := by
  go_enter Try.func18, Try.ntmps18
  go_wp2
  exact ⟨rfl, rfl, rfl⟩
/-- The longest name that a text begins with. -/
def nmP (s : Str) : Str := match s with
  | [] => []
  | c :: r => if letB c = true then c :: r.takeWhile insB else []
section
variable {s : Str}
theorem nm_cons (h : 0 < s.length) (hl : letN (chN s 0) = true) : nmP s = (s[0]?.getD 0) :: twL s 0 := by
  cases s with
  | nil => simp at h
  | cons c r =>
    have hl : letB c = true := hl
    show (if letB c = true then c :: r.takeWhile insB else []) = _
    rw [if_pos hl]
    rfl
theorem nm_none (hl : letN (chN s 0) = false) : nmP s = [] := by
  cases s with
  | nil => rfl
  | cons c r =>
    have hl : letB c = false := hl
    show (if letB c = true then c :: r.takeWhile insB else []) = _
    rw [if_neg (by rw [hl]; simp)]
theorem nm_le : (nmP s).length ≤ s.length := by
  cases s with
  | nil => simp [nmP]
  | cons c r =>
    show (if letB c = true then c :: r.takeWhile insB else []).length ≤ _
    split
    · have := (List.takeWhile_prefix insB (l := r)).length_le
      simp; omega
    · simp
theorem nm_take : s.take (nmP s).length = nmP s := by
  cases s with
  | nil => rfl
  | cons c r =>
    show (c :: r).take (if letB c = true then c :: r.takeWhile insB else []).length = if letB c = true then c :: r.takeWhile insB else []
    split
    · rw [List.length_cons, List.take_succ_cons]
      congr 1
      exact (List.prefix_iff_eq_take.1 (List.takeWhile_prefix insB)).symm
    · rfl
theorem nm_first (h : 0 < (nmP s).length) : letN (chN s 0) = true := by
  cases hl : letN (chN s 0) with
  | true => rfl
  | false => rw [nm_none hl] at h; simp at h
theorem nm_on {k : Nat} (h : k < (nmP s).length) (hk : 0 < k) : insN (chN s k) = true := by
  have h0 := nm_first (show 0 < (nmP s).length by omega)
  have hl := nm_le (s := s)
  rw [nm_cons (by omega) h0, List.length_cons] at h
  have := (tw_on (s := s) (p := 0) (j := k - 1) (by omega)).2
  rw [show 0 + 1 + (k - 1) = k by omega] at this
  exact this
theorem nm_off {k : Nat} (h : k = (nmP s).length) (hl : k < s.length) : if k = 0 then letN (chN s 0) = false else insN (chN s k) = false := by
  by_cases hk : k = 0
  · rw [if_pos hk]
    cases h0 : letN (chN s 0) with
    | false => rfl
    | true => rw [nm_cons (by omega) h0, List.length_cons] at h; omega
  · rw [if_neg hk]
    have h0 := nm_first (show 0 < (nmP s).length by omega)
    rw [nm_cons (by omega) h0, List.length_cons] at h
    have := tw_off (s := s) (p := 0) (j := k - 1) (by omega) (by omega)
    rw [show 0 + 1 + (k - 1) = k by omega] at this
    exact this
end
set_option maxRecDepth 100000 in
set_option maxHeartbeats 4000000 in
theorem name_any (s : Str) (hs : s.length ≤ maxLen) (w : World) : Calls Try.prog 37 #[strV s] w fun e w' => e = .returned (strV (nmP s)) ∧ w' = w := by
  unfold maxLen at hs
  have hsz : (⟨s.toArray⟩ : ByteArray).size = s.length := by simp [ByteArray.size]
  obtain ⟨S, HS⟩ : ∃ S : ByteArray, Hid (S = ⟨s.toArray⟩) := ⟨_, rfl⟩
  have e0 : strV s = .string S := by rw [HS.out]
  rw [e0]
  rw [← HS.out] at hsz
  clear e0
  go_enter Try.func37, Try.ntmps37
  go_wp2
  go_loopw [6] (fun i wr => ∃ k : Nat, i = .int .i64 (k : Int) ∧ k ≤ (nmP s).length ∧ k ≤ s.length ∧ wr = w) (fun i _ => s.length - (intOf i).toNat)
  case atStart => exact ⟨0, rfl, Nat.zero_le _, Nat.zero_le _, rfl⟩
  case round =>
    obtain ⟨k, rfl, hkn, hks, rfl⟩ := hrel
    by_cases hlt : k < s.length
    · have hkS : k < S.size := by rw [hsz]; exact hlt
      have hkI : (k : Int) < (s.length : Int) := by omega
      have hix : ∀ h, (S[k]'h).toNat = chN s k := str_at HS.out
      obtain ⟨n, HN⟩ : ∃ n, Hid (chN s k = n) := ⟨_, rfl⟩
      rw [HN.out] at hix
      obtain ⟨l, HL⟩ : ∃ l, Hid (letN n = l) := ⟨_, rfl⟩
      go_wp2_with fail
      refine (isLetter_nat n _).mono ?_
      rintro e w1 ⟨rfl, rfl⟩
      rw [HL.out]
      by_cases hin : k < (nmP s).length
      · have HIN := Hid.of hin
        clear hin hkn
        by_cases hk0 : k = 0
        · subst hk0
          have hl : l = true := by rw [← HL.out, ← HN.out]; exact nm_first HIN.out
          subst hl
          have h1 : 1 ≤ s.length := by omega
          have h2 : 1 ≤ (nmP s).length := HIN.out
          go_wp2_with fail
          go_roundw
          case rel => exact ⟨1, by go_num, h2, h1, (by first | trivial | rfl)⟩
          case measure => simp [intOf]; omega
        · have HI : Hid (insN n = true) := by show _ = _; rw [← HN.out]; exact nm_on HIN.out (by omega)
          cases l with
          | true =>
            go_wp2_with fail
            go_roundw
            case rel => exact ⟨k + 1, by go_num, HIN.out, by omega, (by first | trivial | rfl)⟩
            case measure => simp [intOf]; omega
          | false =>
            have HJ : Hid (innN n = true) := by show _ = _; have := HI.out; rw [insN_or, HL.out] at this; simpa using this
            have k0 : ((k : Int) == 0) = false := beq_eq_false_iff_ne.2 (by omega)
            clear HI
            go_wp2_with fail
            refine (isInner_nat n _).mono ?_
            rintro e w2 ⟨rfl, rfl⟩
            rw [HJ.out]
            go_wp2_with fail
            go_roundw
            case rel => exact ⟨k + 1, by go_num, HIN.out, by omega, (by first | trivial | rfl)⟩
            case measure => simp [intOf]; omega
      · have hke : k = (nmP s).length := by omega
        have HE : Hid (S.extract 0 k = ⟨(nmP s).toArray⟩) := by
          show _ = _
          rw [HS.out, ByteArray.extract_mk, Nat.sub_zero, List.drop_zero, hke, nm_take]
        have hoff := nm_off hke hlt
        clear hin hkn hke
        by_cases hk0 : k = 0
        · subst hk0
          have hl : l = false := by rw [← HL.out, ← HN.out]; simpa using hoff
          subst hl
          clear hoff
          go_wp2_with fail
          refine bodyPost_ret (v := .string (S.extract 0 0)) (by simp [results, go_sem]) rfl ⟨by rw [HE.out], rfl⟩
        · rw [if_neg hk0, HN.out, insN_or, HL.out] at hoff
          have hl : l = false := by
            cases l with
            | true => simp at hoff
            | false => rfl
          subst hl
          have HJ : Hid (innN n = false) := by show _ = _; simpa using hoff
          clear hoff
          have k0 : ((k : Int) == 0) = false := beq_eq_false_iff_ne.2 (by omega)
          go_wp2_with fail
          refine (isInner_nat n _).mono ?_
          rintro e w2 ⟨rfl, rfl⟩
          rw [HJ.out]
          go_wp2_with fail
          refine bodyPost_ret (v := .string (S.extract 0 k)) (by simp [results, go_sem]) rfl ⟨by rw [HE.out], rfl⟩
    · have hke : (nmP s).length = s.length := by have := nm_le (s := s); omega
      have HE : Hid (S = ⟨(nmP s).toArray⟩) := by
        show _ = _
        rw [HS.out, ← nm_take (s := s), hke, List.take_length]
      have hks : k = s.length := by omega
      subst hks
      clear hke hlt
      go_wp2_with fail
      refine bodyPost_ret (v := .string S) (by simp [results, go_sem]) rfl ⟨by rw [HE.out], rfl⟩

end Go.Proofs.Ytbgiliophmofgaa
namespace Go.Proofs.Ytbgiliophmofgaa
open Go.RowKit
set_option linter.unusedVariables false

def tkK (t : Tok) : Int := if t.word = true then 1 else 3
theorem tk_cells (t : Tok) : tkcells t = [.int .i64 (tkK t), strV t.text, .int .i64 (t.pos : Int)] := rfl
abbrev tkV (t : Tok) : Value := .agg #[.int .i64 (tkK t), strV t.text, .int .i64 (t.pos : Int)]
theorem beq_dec (a b : Str) : (a == b) = decide (a = b) := by
  by_cases h : a = b <;> simp [h]
abbrev theV (p : Nat) : Value := .func (.func 82) #[] #[.pointer (some ⟨p, 0, none⟩)]
abbrev anyV : Value := .func (.func 83) #[] #[]
set_option maxHeartbeats 1000000 in
theorem the_any (s : Str) (w : World) : Calls Try.prog 65 #[strV s] w fun e w' => e = .returned (theV w.heap.size) ∧ w' = w.alloc (.cells #[strV s] 9) := by
  have hmf : ∀ (fn : Fn) (first cap : Array Value) (w : World), (Instr.makeFunc fn first cap).run Try.prog w = .ok (.func fn first cap) w := fun _ _ _ _ => rfl
  go_enter Try.func65, Try.ntmps65
  go_wp2
  go_ret
  exact ⟨rfl, rfl⟩
set_option maxHeartbeats 1000000 in
theorem anyName_any (w : World) : Calls Try.prog 67 #[] w fun e w' => e = .returned anyV ∧ w' = w := by
  go_enter Try.func67, Try.ntmps67
  go_wp2
  go_ret
  exact ⟨rfl, rfl⟩
set_option maxHeartbeats 1000000 in
theorem the1_any (t : Tok) (u : Str) (p : Nat) (w : World) (hp : w.cell? ⟨p, 0, none⟩ = some (strV u)) : Calls Try.prog 82 #[tkV t, .pointer (some ⟨p, 0, none⟩)] w fun e w' => e = .returned (.bool (decide (t.text = u))) ∧ Below w.heap.size w w' := by
  have hlt := World.block_lt_of_cell? _ _ hp
  have hp2 : (w.alloc (.cells #[.int .i64 (tkK t), strV t.text, .int .i64 (t.pos : Int)] 56)).cell? ⟨p, 0, none⟩ = some (strV u) := by
    rw [World.cell?_alloc_past _ _ _ hlt]; exact hp
  have B : Hid (Below w.heap.size w (w.alloc (.cells #[.int .i64 (tkK t), strV t.text, .int .i64 (t.pos : Int)] 56))) := (Below.refl _ _).alloc (Nat.le_refl _) _
  obtain ⟨r, HR⟩ : ∃ r, Hid (decide (t.text = u) = r) := ⟨_, rfl⟩
  have hr : (t.text == u) = r := by rw [← HR.out]; exact beq_dec _ _
  have hr2 := HR.out
  go_enter Try.func82, Try.ntmps82
  go_wp2
  go_ret
  exact ⟨rfl, B.out⟩
set_option maxHeartbeats 1000000 in
theorem anyName1_any (t : Tok) (w : World) : Calls Try.prog 83 #[tkV t] w fun e w' => e = .returned (.bool t.word) ∧ Below w.heap.size w w' := by
  obtain ⟨tw, tt, tp⟩ := t
  cases tw with
  | true =>
    have B : Hid (Below w.heap.size w (w.alloc (.cells #[.int .i64 1, strV tt, .int .i64 (tp : Int)] 56))) := (Below.refl _ _).alloc (Nat.le_refl _) _
    go_enter Try.func83, Try.ntmps83
    go_wp2
    go_ret
    exact ⟨rfl, B.out⟩
  | false =>
    have B : Hid (Below w.heap.size w (w.alloc (.cells #[.int .i64 3, strV tt, .int .i64 (tp : Int)] 56))) := (Below.refl _ _).alloc (Nat.le_refl _) _
    go_enter Try.func83, Try.ntmps83
    go_wp2
    go_ret
    exact ⟨rfl, B.out⟩

end Go.Proofs.Ytbgiliophmofgaa
namespace Go.Proofs.Ytbgiliophmofgaa
open Go.RowKit
set_option linter.unusedVariables false

/-- Whether what is asked for comes. -/
def cmF (f : Tok → Bool) (l : List Tok) : Bool := match l with
  | [] => false
  | t :: _ => f t
/-- The tokens that are left, in memory. -/
def LfAt (W : World) (rb : Nat) (a : Option Addr) (l : List Tok) (c : Nat) : Prop := l.length ≤ c ∧ c ≤ maxLen ∧ (l = [] ∨ ∃ tb o, a = some ⟨tb, o, none⟩ ∧ tb < rb ∧ ∀ j t, l[j]? = some t → W.cell? ⟨tb, o + j * 3, none⟩ = some (.int .i64 (tkK t)) ∧ W.cell? ⟨tb, o + j * 3 + 1, none⟩ = some (strV t.text) ∧ W.cell? ⟨tb, o + j * 3 + 2, none⟩ = some (.int .i64 (t.pos : Int)))
/-- The reader. -/
structure RdAt (W : World) (rb : Nat) (a : Option Addr) (c : Nat) (l : List Tok) (en : Nat) : Prop where
  k : Blk W rb 45 #[.slice a l.length c, .int .i64 (en : Int)]
  l : LfAt W rb a l c
/-- Nothing ahead of rb has turned, nothing behind it that was there. -/
structure But (rb : Nat) (w w' : World) : Prop where
  b : Below rb w w'
  s : w.heap.size ≤ w'.heap.size
  o : ∀ q, rb < q → q < w.heap.size → w'.heap[q]? = w.heap[q]?
theorem But.refl (rb : Nat) (w : World) : But rb w w := ⟨Below.refl _ _, Nat.le_refl _, fun _ _ _ => rfl⟩
theorem But.trans {rb : Nat} {u v w : World} (h : But rb u v) (g : But rb v w) : But rb u w := ⟨h.b.trans g.b, Nat.le_trans h.s g.s, fun q h1 h2 => (g.o q h1 (Nat.lt_of_lt_of_le h2 h.s)).trans (h.o q h1 h2)⟩
theorem But.of {rb : Nat} {w w' : World} (h : Below w.heap.size w w') (hr : rb ≤ w.heap.size) : But rb w w' := ⟨h.mono hr, h.size, fun q h1 h2 => h.block q h2⟩
theorem But.set {rb : Nat} {w w' : World} (h : But rb w w') (j : Nat) (v : Value) : But rb w (w'.setCell ⟨rb, j, none⟩ v) := ⟨h.b.setCell (p := ⟨rb, j, none⟩) (Nat.le_refl _) v, by rw [show (w'.setCell ⟨rb, j, none⟩ v).heap.size = w'.heap.size from by simp [World.setCell]]; exact h.s, fun q h1 h2 => (Below.heap_setCell _ _ _ _ (show q ≠ rb by omega)).trans (h.o q h1 h2)⟩
theorem But.blk {rb : Nat} {w w' : World} (h : But rb w w') {b : Nat} {t : TypeId} {cs : Array Value} (hb : Blk w b t cs) (hne : b ≠ rb) : Blk w' b t cs := by
  by_cases e : b < rb
  · exact hb.below h.b e
  · exact (h.o b (by omega) hb.lt).trans hb
theorem LfAt.but {W W' : World} {rb c : Nat} {a : Option Addr} {l : List Tok} (h : LfAt W rb a l c) (hb : But rb W W') : LfAt W' rb a l c := by
  refine ⟨h.1, h.2.1, h.2.2.imp id ?_⟩
  rintro ⟨tb, o, h1, h2, h3⟩
  refine ⟨tb, o, h1, h2, fun j t hj => ?_⟩
  obtain ⟨x, y, z⟩ := h3 j t hj
  exact ⟨(hb.b.cell (p := ⟨tb, _, none⟩) h2).trans x, (hb.b.cell (p := ⟨tb, _, none⟩) h2).trans y, (hb.b.cell (p := ⟨tb, _, none⟩) h2).trans z⟩
theorem RdAt.below {W W' : World} {rb c en : Nat} {a : Option Addr} {l : List Tok} (h : RdAt W rb a c l en) (hb : Below W.heap.size W W') : RdAt W' rb a c l en := ⟨h.k.below hb h.k.lt, h.l.but (But.of hb (Nat.le_of_lt h.k.lt))⟩
theorem rd_at {W : World} {rb c en : Nat} {a : Option Addr} {l : List Tok} (h : RdAt W rb a c l en) : W.cell? ⟨rb, 0, none⟩ = some (.slice a l.length c) ∧ W.cell? ⟨rb, 1, none⟩ = some (.int .i64 (en : Int)) := ⟨h.k.cell 0 rfl, h.k.cell 1 rfl⟩
theorem lf_cons {W : World} {rb c : Nat} {a : Option Addr} {t : Tok} {r : List Tok} (h : LfAt W rb a (t :: r) c) : ∃ tb o, a = some ⟨tb, o, none⟩ ∧ tb < rb ∧ W.cell? ⟨tb, o, none⟩ = some (.int .i64 (tkK t)) ∧ W.cell? ⟨tb, o + 1, none⟩ = some (strV t.text) ∧ W.cell? ⟨tb, o + 2, none⟩ = some (.int .i64 (t.pos : Int)) := by
  rcases h.2.2 with h | ⟨tb, o, h1, h2, h3⟩
  · cases h
  · have := h3 0 t rfl
    rw [Nat.zero_mul, Nat.add_zero] at this
    exact ⟨tb, o, h1, h2, this⟩
theorem lf_tail {W : World} {rb c tb o : Nat} {t : Tok} {r : List Tok} (h : LfAt W rb (some ⟨tb, o, none⟩) (t :: r) c) : LfAt W rb (some ⟨tb, o + 3, none⟩) r (c - 1) := by
  have h1 := h.1
  rw [List.length_cons] at h1
  refine ⟨by omega, Nat.le_trans (Nat.sub_le _ _) h.2.1, ?_⟩
  rcases h.2.2 with h | ⟨tb, o, h1, h2, h3⟩
  · cases h
  · cases h1
    refine .inr ⟨tb, _, rfl, h2, fun j t hj => ?_⟩
    have := h3 (j + 1) t (by simpa using hj)
    rw [show o + (j + 1) * 3 = o + 3 + j * 3 by omega] at this
    exact this

theorem lf_empty {W : World} (rb : Nat) (a : Option Addr) : LfAt W rb a [] 0 := ⟨Nat.le_refl _, Nat.zero_le _, .inl rfl⟩
theorem rd_set {W : World} {rb c en c' : Nat} {a a' : Option Addr} {l l' : List Tok} (h : RdAt W rb a c l en) (hl : LfAt W rb a' l' c') : RdAt (W.setCell ⟨rb, 0, none⟩ (.slice a' l'.length c')) rb a' c' l' en :=
  ⟨h.k.set 0 (.slice a' l'.length c'), hl.but ((But.refl rb W).set 0 _)⟩
theorem But.three {rb q : Nat} {w w' : World} (h : But rb w w') (hq : rb < w.heap.size) (x y z : Value) (hq2 : w.heap.size ≤ q := by omega) : But rb w (((w'.setCell ⟨q, 0, none⟩ x).setCell ⟨q, 1, none⟩ y).setCell ⟨q, 2, none⟩ z) :=
  ⟨((h.b.setCell (p := ⟨q, 0, none⟩) (show rb ≤ q by omega) x).setCell (p := ⟨q, 1, none⟩) (show rb ≤ q by omega) y).setCell (p := ⟨q, 2, none⟩) (show rb ≤ q by omega) z, by simpa [World.setCell] using h.s, fun p h1 h2 => by
    rw [Below.heap_setCell _ _ _ _ (show p ≠ q by omega), Below.heap_setCell _ _ _ _ (show p ≠ q by omega), Below.heap_setCell _ _ _ _ (show p ≠ q by omega)]
    exact h.o p h1 h2⟩
theorem RdAt.three {W : World} {rb c en q : Nat} {a : Option Addr} {l : List Tok} (h : RdAt W rb a c l en) (hq : rb < q) (x y z : Value) : RdAt (((W.setCell ⟨q, 0, none⟩ x).setCell ⟨q, 1, none⟩ y).setCell ⟨q, 2, none⟩ z) rb a c l en := by
  have hb : Below q W (((W.setCell ⟨q, 0, none⟩ x).setCell ⟨q, 1, none⟩ y).setCell ⟨q, 2, none⟩ z) := (((Below.refl q W).setCell (p := ⟨q, 0, none⟩) (Nat.le_refl _) x).setCell (p := ⟨q, 1, none⟩) (Nat.le_refl _) y).setCell (p := ⟨q, 2, none⟩) (Nat.le_refl _) z
  refine ⟨h.k.below hb hq, h.l.1, h.l.2.1, h.l.2.2.imp id ?_⟩
  rintro ⟨tb, o, h1, h2, h3⟩
  refine ⟨tb, o, h1, h2, fun j t hj => ?_⟩
  obtain ⟨x, y, z⟩ := h3 j t hj
  exact ⟨(hb.cell (p := ⟨tb, _, none⟩) (Nat.lt_trans h2 hq)).trans x, (hb.cell (p := ⟨tb, _, none⟩) (Nat.lt_trans h2 hq)).trans y, (hb.cell (p := ⟨tb, _, none⟩) (Nat.lt_trans h2 hq)).trans z⟩
theorem results_tok {fn : Func} {p : Tmp} (h : fn.results = #[.cell p 56]) (tmps : Array Value) (w : World) (g : Nat) (k : Int) (s : Str) (n : Int) (hp : tmps.getD p undef = .pointer (some ⟨g, 0, none⟩)) (hB : Blk w g 56 #[.int .i64 k, strV s, .int .i64 n]) :
    (results fn tmps).run Try.prog w = .ok (.agg #[.int .i64 k, strV s, .int .i64 n]) w := by
  have x0 : w.cell? ⟨g, 0, none⟩ = some (.int .i64 k) := hB.cell 0 rfl
  have x1 : w.cell? ⟨g, 1, none⟩ = some (strV s) := hB.cell 1 rfl
  have x2 : w.cell? ⟨g, 2, none⟩ = some (.int .i64 n) := hB.cell 2 rfl
  have e : (results fn tmps).run Try.prog w = ((asAddr (tmps.getD p undef)).run Try.prog w).andThen fun a w₁ => (loadVar 56 a).run Try.prog w₁ := by
    simp only [results, h]
    simp [Sem.run_bind, Result.andThen]
  rw [e, hp]
  go_simp

set_option maxRecDepth 100000 in
set_option maxHeartbeats 2000000 in
theorem at_any (rb c en : Nat) (a : Option Addr) (l : List Tok) (w : World) (h : RdAt w rb a c l en) : Calls Try.prog 42 #[.pointer (some ⟨rb, 0, none⟩)] w fun e w' => e = .returned (.int .i64 (posE en l : Int)) ∧ w' = w := by
  obtain ⟨x0, x1⟩ := rd_at h
  go_enter Try.func42, Try.ntmps42
  cases l with
  | nil =>
    go_wp2
    go_ret
    exact ⟨rfl, rfl⟩
  | cons t r =>
    obtain ⟨tb, o, rfl, hlt, y0, y1, y2⟩ := lf_cons h.l
    have hmax := h.l.2.1
    have hlen := h.l.1
    unfold maxLen at hmax
    rw [List.length_cons] at x0 hlen
    have hz : (((r.length + 1 : Nat) : Int) == 0) = false := beq_eq_false_iff_ne.2 (by omega)
    have hz2 : ((r.length : Int) + 1 == 0) = false := beq_eq_false_iff_ne.2 (by omega)
    go_wp2
    go_ret
    exact ⟨rfl, rfl⟩

set_option maxRecDepth 100000 in
set_option maxHeartbeats 2000000 in
theorem comes_the (u : Str) (p : Nat) (rb c en : Nat) (a : Option Addr) (l : List Tok) (w : World) (hp0 : Hid (w.cell? ⟨p, 0, none⟩ = some (strV u))) (h0 : Hid (RdAt w rb a c l en)) : Calls Try.prog 66 #[.pointer (some ⟨rb, 0, none⟩), (theV p)] w fun e w' => e = .returned (.bool (cmF (fun t => decide (t.text = u)) l)) ∧ Below w.heap.size w w' := by
  obtain ⟨x0, x1⟩ := rd_at h0.out
  go_enter Try.func66, Try.ntmps66
  cases l with
  | nil =>
    go_wp2
    go_ret
    exact ⟨rfl, Below.refl _ _⟩
  | cons t r =>
    obtain ⟨tb, o, rfl, hlt, y0, y1, y2⟩ := lf_cons h0.out.l
    have hmax := h0.out.l.2.1
    have hlen := h0.out.l.1
    unfold maxLen at hmax
    rw [List.length_cons] at x0 hlen
    have hz : decide ((0 : Int) < (r.length : Int) + 1) = true := by simp
    go_wp2_with fail
    refine (the1_any _ u p _ hp0.out).mono ?_
    rintro e w1 ⟨rfl, hb⟩
    have B := Hid.of hb
    clear hb
    go_wp2_with fail
    go_ret
    exact ⟨rfl, B.out⟩

set_option maxRecDepth 100000 in
set_option maxHeartbeats 2000000 in
theorem comes_any (rb c en : Nat) (a : Option Addr) (l : List Tok) (w : World) (h0 : Hid (RdAt w rb a c l en)) : Calls Try.prog 66 #[.pointer (some ⟨rb, 0, none⟩), anyV] w fun e w' => e = .returned (.bool (cmF (fun t => t.word) l)) ∧ Below w.heap.size w w' := by
  obtain ⟨x0, x1⟩ := rd_at h0.out
  go_enter Try.func66, Try.ntmps66
  cases l with
  | nil =>
    go_wp2
    go_ret
    exact ⟨rfl, Below.refl _ _⟩
  | cons t r =>
    obtain ⟨tb, o, rfl, hlt, y0, y1, y2⟩ := lf_cons h0.out.l
    have hmax := h0.out.l.2.1
    have hlen := h0.out.l.1
    unfold maxLen at hmax
    rw [List.length_cons] at x0 hlen
    have hz : decide ((0 : Int) < (r.length : Int) + 1) = true := by simp
    go_wp2_with fail
    refine (anyName1_any _ _).mono ?_
    rintro e w1 ⟨rfl, hb⟩
    have B := Hid.of hb
    clear hb
    go_wp2_with fail
    go_ret
    exact ⟨rfl, B.out⟩

/-- What take leaves. -/
def Take_thePost (u : Str) (p : Nat) (rb en : Nat) (l : List Tok) (w : World) (e : Ending) (w' : World) : Prop := match l with
  | [] => e = Pn 2 (en : Int) ∧ But rb w w'
  | t :: r => if (fun t => decide (t.text = u)) t = true then e = .returned (tkV t) ∧ But rb w w' ∧ ∃ a c, RdAt w' rb a c r en else e = Pn 2 (t.pos : Int) ∧ But rb w w'
set_option maxRecDepth 100000 in
set_option maxHeartbeats 4000000 in
theorem take_the (u : Str) (p : Nat) (rb c en : Nat) (a : Option Addr) (l : List Tok) (w : World) (hp0 : Hid (w.cell? ⟨p, 0, none⟩ = some (strV u))) (h0 : Hid (RdAt w rb a c l en)) : Calls Try.prog 64 #[.pointer (some ⟨rb, 0, none⟩), (theV p)] w fun e w' => Take_thePost u p rb en l w e w' := by
  have hrb := h0.out.k.lt
  have HRB : Hid (But rb w (w.alloc (.cells #[.int .i64 0, .string ⟨#[]⟩, .int .i64 0] 56))) := But.of ((Below.refl _ _).alloc (Nat.le_refl _) _) (Nat.le_of_lt hrb)
  have K4 : Hid (Blk (w.alloc (.cells #[.int .i64 0, .string ⟨#[]⟩, .int .i64 0] 56)) w.heap.size 56 #[.int .i64 0, .string ⟨#[]⟩, .int .i64 0]) := Blk.new w _ _
  have HR1 : Hid (RdAt (w.alloc (.cells #[.int .i64 0, .string ⟨#[]⟩, .int .i64 0] 56)) rb a c l en) := h0.out.below ((Below.refl _ _).alloc (Nat.le_refl _) _)
  have HP1 : Hid ((w.alloc (.cells #[.int .i64 0, .string ⟨#[]⟩, .int .i64 0] 56)).cell? ⟨p, 0, none⟩ = some (strV u)) := by
    show _ = _
    rw [World.cell?_alloc_past _ _ _ (World.block_lt_of_cell? _ _ hp0.out)]; exact hp0.out
  go_enter Try.func64, Try.ntmps64
  go_wp2_with fail
  revert HRB K4 HR1 HP1
  generalize w.alloc (.cells #[.int .i64 0, .string ⟨#[]⟩, .int .i64 0] 56) = W1
  intro HRB K4 HR1 HP1
  refine (comes_the u p rb c en a l W1 HP1 HR1).mono ?_
  rintro e W2 ⟨rfl, hb⟩
  have HRB2 : Hid (But rb w W2) := HRB.out.trans (But.of hb (Nat.le_of_lt HR1.out.k.lt))
  replace K4 := Hid.of (K4.out.below hb K4.out.lt)
  replace HR1 := Hid.of (HR1.out.below hb)
  clear hb HRB
  obtain ⟨b, HB⟩ : ∃ b, Hid (cmF (fun t => decide (t.text = u)) l = b) := ⟨_, rfl⟩
  rw [HB.out]
  cases b with
  | false =>
    go_wp2_with fail
    refine (at_any rb c en a l W2 HR1.out).mono ?_
    rintro e W3 ⟨rfl, rfl⟩
    go_wp2_with fail
    refine (giveUp_any 2 _ W3).mono ?_
    rintro e W4 ⟨rfl, rfl⟩
    go_wp2_with fail
    refine ⟨rfl, ?_⟩
    unfold Take_thePost
    cases l with
    | nil => exact ⟨rfl, HRB2.out⟩
    | cons t r =>
      have hf : ¬ (fun t => decide (t.text = u)) t = true := by have := HB.out; show ¬ cmF (fun t => decide (t.text = u)) (t :: r) = true; rw [this]; simp
      dsimp only
      rw [if_neg hf]
      exact ⟨rfl, HRB2.out⟩
  | true =>
    cases l with
    | nil => have := HB.out; cases this
    | cons t r =>
      obtain ⟨tb, o, rfl, hlt, y0, y1, y2⟩ := lf_cons HR1.out.l
      obtain ⟨x0, x1⟩ := rd_at HR1.out
      have hlen := HR1.out.l.1
      have hmax := HR1.out.l.2.1
      unfold maxLen at hmax
      rw [List.length_cons] at x0 hlen
      have hz : decide ((0 : Int) < (r.length : Int) + 1) = true := by simp
      have fr := HR1.out.k.frozen 0
      have hrb2 := HR1.out.k.lt
      have ht2 : tb < W2.heap.size := by omega
      by_cases hc1 : c = 1
      · have hr0 : r = [] := List.eq_nil_of_length_eq_zero (by omega)
        subst hr0
        subst hc1
        have HK := Hid.of ((K4.out.other (j := 0) (show w.heap.size ≠ rb by omega) (.slice (some ⟨tb, o, none⟩) 0 0)).alloc (.cells #[.int .i64 (tkK t), .string ⟨t.text.toArray⟩, .int .i64 (t.pos : Int)] 56))
        have z0 := HK.out.cell 0 rfl
        have z1 := HK.out.cell 1 rfl
        have z2 := HK.out.cell 2 rfl
        have zf := HK.out.frozen
        have HK9 := Hid.of (((HK.out.set 0 (.int .i64 (tkK t))).set 1 (.string ⟨t.text.toArray⟩)).set 2 (.int .i64 (t.pos : Int)))
        have HR8 := Hid.of (rd_set HR1.out (lf_empty rb (some ⟨tb, o, none⟩)))
        have HR9 := Hid.of ((HR8.out.below (W' := (W2.setCell ⟨rb, 0, none⟩ (.slice (some ⟨tb, o, none⟩) 0 0)).alloc (.cells #[.int .i64 (tkK t), .string ⟨t.text.toArray⟩, .int .i64 (t.pos : Int)] 56)) ((Below.refl _ _).alloc (Nat.le_refl _) _)).three (q := w.heap.size) (show rb < w.heap.size from hrb) (.int .i64 (tkK t)) (.string ⟨t.text.toArray⟩) (.int .i64 (t.pos : Int)))
        have HB9 := Hid.of (((HRB2.out.set 0 (.slice (some ⟨tb, o, none⟩) 0 0)).trans (But.of (rb := rb) (w' := (W2.setCell ⟨rb, 0, none⟩ (.slice (some ⟨tb, o, none⟩) 0 0)).alloc (.cells #[.int .i64 (tkK t), .string ⟨t.text.toArray⟩, .int .i64 (t.pos : Int)] 56)) ((Below.refl _ _).alloc (Nat.le_refl _) _) (by simp [World.setCell]; omega))).three (q := w.heap.size) hrb (.int .i64 (tkK t)) (.string ⟨t.text.toArray⟩) (.int .i64 (t.pos : Int)))
        clear hz hlen hmax ht2
        go_wp2_with fail
        refine bodyPost_ret (v := tkV t) (results_tok rfl _ _ _ _ _ _ rfl HK9.out) rfl ?_
        unfold Take_thePost
        have hf : (fun t => decide (t.text = u)) t = true := HB.out
        dsimp only
        rw [if_pos hf]
        exact ⟨rfl, HB9.out, _, _, HR9.out⟩
      · have hc2 : ¬ 1 = c := fun e => hc1 e.symm
        have HK := Hid.of ((K4.out.other (j := 0) (show w.heap.size ≠ rb by omega) (.slice (some ⟨tb, o + 3, none⟩) r.length (c - 1))).alloc (.cells #[.int .i64 (tkK t), .string ⟨t.text.toArray⟩, .int .i64 (t.pos : Int)] 56))
        have z0 := HK.out.cell 0 rfl
        have z1 := HK.out.cell 1 rfl
        have z2 := HK.out.cell 2 rfl
        have zf := HK.out.frozen
        have HK9 := Hid.of (((HK.out.set 0 (.int .i64 (tkK t))).set 1 (.string ⟨t.text.toArray⟩)).set 2 (.int .i64 (t.pos : Int)))
        have HR8 := Hid.of (rd_set HR1.out (lf_tail HR1.out.l))
        have HR9 := Hid.of ((HR8.out.below (W' := (W2.setCell ⟨rb, 0, none⟩ (.slice (some ⟨tb, o + 3, none⟩) r.length (c - 1))).alloc (.cells #[.int .i64 (tkK t), .string ⟨t.text.toArray⟩, .int .i64 (t.pos : Int)] 56)) ((Below.refl _ _).alloc (Nat.le_refl _) _)).three (q := w.heap.size) (show rb < w.heap.size from hrb) (.int .i64 (tkK t)) (.string ⟨t.text.toArray⟩) (.int .i64 (t.pos : Int)))
        have HB9 := Hid.of (((HRB2.out.set 0 (.slice (some ⟨tb, o + 3, none⟩) r.length (c - 1))).trans (But.of (rb := rb) (w' := (W2.setCell ⟨rb, 0, none⟩ (.slice (some ⟨tb, o + 3, none⟩) r.length (c - 1))).alloc (.cells #[.int .i64 (tkK t), .string ⟨t.text.toArray⟩, .int .i64 (t.pos : Int)] 56)) ((Below.refl _ _).alloc (Nat.le_refl _) _) (by simp [World.setCell]; omega))).three (q := w.heap.size) hrb (.int .i64 (tkK t)) (.string ⟨t.text.toArray⟩) (.int .i64 (t.pos : Int)))
        clear hz hlen hmax ht2
        go_wp2_with fail
        refine bodyPost_ret (v := tkV t) (results_tok rfl _ _ _ _ _ _ rfl HK9.out) rfl ?_
        unfold Take_thePost
        have hf : (fun t => decide (t.text = u)) t = true := HB.out
        dsimp only
        rw [if_pos hf]
        exact ⟨rfl, HB9.out, _, _, HR9.out⟩

/-- What take leaves. -/
def Take_anyPost (rb en : Nat) (l : List Tok) (w : World) (e : Ending) (w' : World) : Prop := match l with
  | [] => e = Pn 2 (en : Int) ∧ But rb w w'
  | t :: r => if (fun t => t.word) t = true then e = .returned (tkV t) ∧ But rb w w' ∧ ∃ a c, RdAt w' rb a c r en else e = Pn 2 (t.pos : Int) ∧ But rb w w'
set_option maxRecDepth 100000 in
set_option maxHeartbeats 4000000 in
theorem take_any (rb c en : Nat) (a : Option Addr) (l : List Tok) (w : World) (h0 : Hid (RdAt w rb a c l en)) : Calls Try.prog 64 #[.pointer (some ⟨rb, 0, none⟩), anyV] w fun e w' => Take_anyPost  rb en l w e w' := by
  have hrb := h0.out.k.lt
  have HRB : Hid (But rb w (w.alloc (.cells #[.int .i64 0, .string ⟨#[]⟩, .int .i64 0] 56))) := But.of ((Below.refl _ _).alloc (Nat.le_refl _) _) (Nat.le_of_lt hrb)
  have K4 : Hid (Blk (w.alloc (.cells #[.int .i64 0, .string ⟨#[]⟩, .int .i64 0] 56)) w.heap.size 56 #[.int .i64 0, .string ⟨#[]⟩, .int .i64 0]) := Blk.new w _ _
  have HR1 : Hid (RdAt (w.alloc (.cells #[.int .i64 0, .string ⟨#[]⟩, .int .i64 0] 56)) rb a c l en) := h0.out.below ((Below.refl _ _).alloc (Nat.le_refl _) _)
  go_enter Try.func64, Try.ntmps64
  go_wp2_with fail
  revert HRB K4 HR1
  generalize w.alloc (.cells #[.int .i64 0, .string ⟨#[]⟩, .int .i64 0] 56) = W1
  intro HRB K4 HR1
  refine (comes_any  rb c en a l W1 HR1).mono ?_
  rintro e W2 ⟨rfl, hb⟩
  have HRB2 : Hid (But rb w W2) := HRB.out.trans (But.of hb (Nat.le_of_lt HR1.out.k.lt))
  replace K4 := Hid.of (K4.out.below hb K4.out.lt)
  replace HR1 := Hid.of (HR1.out.below hb)
  clear hb HRB
  obtain ⟨b, HB⟩ : ∃ b, Hid (cmF (fun t => t.word) l = b) := ⟨_, rfl⟩
  rw [HB.out]
  cases b with
  | false =>
    go_wp2_with fail
    refine (at_any rb c en a l W2 HR1.out).mono ?_
    rintro e W3 ⟨rfl, rfl⟩
    go_wp2_with fail
    refine (giveUp_any 2 _ W3).mono ?_
    rintro e W4 ⟨rfl, rfl⟩
    go_wp2_with fail
    refine ⟨rfl, ?_⟩
    unfold Take_anyPost
    cases l with
    | nil => exact ⟨rfl, HRB2.out⟩
    | cons t r =>
      have hf : ¬ (fun t => t.word) t = true := by have := HB.out; show ¬ cmF (fun t => t.word) (t :: r) = true; rw [this]; simp
      dsimp only
      rw [if_neg hf]
      exact ⟨rfl, HRB2.out⟩
  | true =>
    cases l with
    | nil => have := HB.out; cases this
    | cons t r =>
      obtain ⟨tb, o, rfl, hlt, y0, y1, y2⟩ := lf_cons HR1.out.l
      obtain ⟨x0, x1⟩ := rd_at HR1.out
      have hlen := HR1.out.l.1
      have hmax := HR1.out.l.2.1
      unfold maxLen at hmax
      rw [List.length_cons] at x0 hlen
      have hz : decide ((0 : Int) < (r.length : Int) + 1) = true := by simp
      have fr := HR1.out.k.frozen 0
      have hrb2 := HR1.out.k.lt
      have ht2 : tb < W2.heap.size := by omega
      by_cases hc1 : c = 1
      · have hr0 : r = [] := List.eq_nil_of_length_eq_zero (by omega)
        subst hr0
        subst hc1
        have HK := Hid.of ((K4.out.other (j := 0) (show w.heap.size ≠ rb by omega) (.slice (some ⟨tb, o, none⟩) 0 0)).alloc (.cells #[.int .i64 (tkK t), .string ⟨t.text.toArray⟩, .int .i64 (t.pos : Int)] 56))
        have z0 := HK.out.cell 0 rfl
        have z1 := HK.out.cell 1 rfl
        have z2 := HK.out.cell 2 rfl
        have zf := HK.out.frozen
        have HK9 := Hid.of (((HK.out.set 0 (.int .i64 (tkK t))).set 1 (.string ⟨t.text.toArray⟩)).set 2 (.int .i64 (t.pos : Int)))
        have HR8 := Hid.of (rd_set HR1.out (lf_empty rb (some ⟨tb, o, none⟩)))
        have HR9 := Hid.of ((HR8.out.below (W' := (W2.setCell ⟨rb, 0, none⟩ (.slice (some ⟨tb, o, none⟩) 0 0)).alloc (.cells #[.int .i64 (tkK t), .string ⟨t.text.toArray⟩, .int .i64 (t.pos : Int)] 56)) ((Below.refl _ _).alloc (Nat.le_refl _) _)).three (q := w.heap.size) (show rb < w.heap.size from hrb) (.int .i64 (tkK t)) (.string ⟨t.text.toArray⟩) (.int .i64 (t.pos : Int)))
        have HB9 := Hid.of (((HRB2.out.set 0 (.slice (some ⟨tb, o, none⟩) 0 0)).trans (But.of (rb := rb) (w' := (W2.setCell ⟨rb, 0, none⟩ (.slice (some ⟨tb, o, none⟩) 0 0)).alloc (.cells #[.int .i64 (tkK t), .string ⟨t.text.toArray⟩, .int .i64 (t.pos : Int)] 56)) ((Below.refl _ _).alloc (Nat.le_refl _) _) (by simp [World.setCell]; omega))).three (q := w.heap.size) hrb (.int .i64 (tkK t)) (.string ⟨t.text.toArray⟩) (.int .i64 (t.pos : Int)))
        clear hz hlen hmax ht2
        go_wp2_with fail
        refine bodyPost_ret (v := tkV t) (results_tok rfl _ _ _ _ _ _ rfl HK9.out) rfl ?_
        unfold Take_anyPost
        have hf : (fun t => t.word) t = true := HB.out
        dsimp only
        rw [if_pos hf]
        exact ⟨rfl, HB9.out, _, _, HR9.out⟩
      · have hc2 : ¬ 1 = c := fun e => hc1 e.symm
        have HK := Hid.of ((K4.out.other (j := 0) (show w.heap.size ≠ rb by omega) (.slice (some ⟨tb, o + 3, none⟩) r.length (c - 1))).alloc (.cells #[.int .i64 (tkK t), .string ⟨t.text.toArray⟩, .int .i64 (t.pos : Int)] 56))
        have z0 := HK.out.cell 0 rfl
        have z1 := HK.out.cell 1 rfl
        have z2 := HK.out.cell 2 rfl
        have zf := HK.out.frozen
        have HK9 := Hid.of (((HK.out.set 0 (.int .i64 (tkK t))).set 1 (.string ⟨t.text.toArray⟩)).set 2 (.int .i64 (t.pos : Int)))
        have HR8 := Hid.of (rd_set HR1.out (lf_tail HR1.out.l))
        have HR9 := Hid.of ((HR8.out.below (W' := (W2.setCell ⟨rb, 0, none⟩ (.slice (some ⟨tb, o + 3, none⟩) r.length (c - 1))).alloc (.cells #[.int .i64 (tkK t), .string ⟨t.text.toArray⟩, .int .i64 (t.pos : Int)] 56)) ((Below.refl _ _).alloc (Nat.le_refl _) _)).three (q := w.heap.size) (show rb < w.heap.size from hrb) (.int .i64 (tkK t)) (.string ⟨t.text.toArray⟩) (.int .i64 (t.pos : Int)))
        have HB9 := Hid.of (((HRB2.out.set 0 (.slice (some ⟨tb, o + 3, none⟩) r.length (c - 1))).trans (But.of (rb := rb) (w' := (W2.setCell ⟨rb, 0, none⟩ (.slice (some ⟨tb, o + 3, none⟩) r.length (c - 1))).alloc (.cells #[.int .i64 (tkK t), .string ⟨t.text.toArray⟩, .int .i64 (t.pos : Int)] 56)) ((Below.refl _ _).alloc (Nat.le_refl _) _) (by simp [World.setCell]; omega))).three (q := w.heap.size) hrb (.int .i64 (tkK t)) (.string ⟨t.text.toArray⟩) (.int .i64 (t.pos : Int)))
        clear hz hlen hmax ht2
        go_wp2_with fail
        refine bodyPost_ret (v := tkV t) (results_tok rfl _ _ _ _ _ _ rfl HK9.out) rfl ?_
        unfold Take_anyPost
        have hf : (fun t => t.word) t = true := HB.out
        dsimp only
        rw [if_pos hf]
        exact ⟨rfl, HB9.out, _, _, HR9.out⟩

/-- What skip leaves. -/
def SkipPost (u : Str) (rb en : Nat) (l : List Tok) (w : World) (e : Ending) (w' : World) : Prop := But rb w w' ∧ match l with
  | [] => e = .returned (.bool false) ∧ ∃ a c, RdAt w' rb a c [] en
  | t :: r => if t.text = u then e = .returned (.bool true) ∧ ∃ a c, RdAt w' rb a c r en else e = .returned (.bool false) ∧ ∃ a c, RdAt w' rb a c (t :: r) en
set_option maxRecDepth 100000 in
set_option maxHeartbeats 4000000 in
theorem skip_the (u : Str) (p : Nat) (rb c en : Nat) (a : Option Addr) (l : List Tok) (w : World) (hp0 : Hid (w.cell? ⟨p, 0, none⟩ = some (strV u))) (hpr : p ≠ rb) (h0 : Hid (RdAt w rb a c l en)) : Calls Try.prog 68 #[.pointer (some ⟨rb, 0, none⟩), (theV p)] w fun e w' => SkipPost u rb en l w e w' := by
  go_enter Try.func68, Try.ntmps68
  go_wp2_with fail
  refine (comes_the u p rb c en a l w hp0 h0).mono ?_
  rintro e W2 ⟨rfl, hb⟩
  have HP2 : Hid (W2.cell? ⟨p, 0, none⟩ = some (strV u)) := (hb.cell (World.block_lt_of_cell? _ _ hp0.out)).trans hp0.out
  have HRB2 : Hid (But rb w W2) := But.of hb (Nat.le_of_lt h0.out.k.lt)
  have HR1 := Hid.of (h0.out.below hb)
  clear hb
  obtain ⟨b, HB⟩ : ∃ b, Hid (cmF (fun t => decide (t.text = u)) l = b) := ⟨_, rfl⟩
  rw [HB.out]
  cases b with
  | false =>
    go_wp2_with fail
    refine bodyPost_ret (v := .bool false) (by simp [results, go_sem]) rfl ⟨HRB2.out, ?_⟩
    cases l with
    | nil => exact ⟨rfl, a, c, HR1.out⟩
    | cons t r =>
      have hf : ¬ t.text = u := by simpa [cmF] using HB.out
      dsimp only
      rw [if_neg hf]
      exact ⟨rfl, a, c, HR1.out⟩
  | true =>
    cases l with
    | nil => have := HB.out; cases this
    | cons t r =>
      have hf : t.text = u := by simpa [cmF] using HB.out
      go_wp2_with fail
      refine (take_the u p rb c en a (t :: r) W2 HP2 HR1).mono ?_
      intro e W3 hq
      unfold Take_thePost at hq
      dsimp only at hq
      rw [if_pos (by simpa using hf)] at hq
      obtain ⟨rfl, hb, a3, c3, hr⟩ := hq
      have HB3 := Hid.of (HRB2.out.trans hb)
      have HR3 := Hid.of hr
      clear hb hr
      go_wp2_with fail
      refine bodyPost_ret (v := .bool true) (by simp [results, go_sem]) rfl ⟨HB3.out, ?_⟩
      dsimp only
      rw [if_pos hf]
      exact ⟨rfl, a3, c3, HR3.out⟩

end Go.Proofs.Ytbgiliophmofgaa
namespace Go.Proofs.Ytbgiliophmofgaa
open Go.RowKit
set_option linter.unusedVariables false

theorem LfAt.keep {W W' : World} {rb c : Nat} {a : Option Addr} {l : List Tok} (h : LfAt W rb a l c) (hb : ∀ q, q < rb → W'.heap[q]? = W.heap[q]?) : LfAt W' rb a l c := by
  refine ⟨h.1, h.2.1, h.2.2.imp id ?_⟩
  rintro ⟨tb, o, h1, h2, h3⟩
  refine ⟨tb, o, h1, h2, fun j t hj => ?_⟩
  obtain ⟨x, y, z⟩ := h3 j t hj
  exact ⟨(World.cell?_of_block (a := ⟨tb, _, none⟩) (hb tb h2)).trans x, (World.cell?_of_block (a := ⟨tb, _, none⟩) (hb tb h2)).trans y, (World.cell?_of_block (a := ⟨tb, _, none⟩) (hb tb h2)).trans z⟩
theorem RdAt.grown {W W2 : World} {rb c en : Nat} {a : Option Addr} {l : List Tok} {k : Option Nat} (h : RdAt W rb a c l en) (g : W.grownBy W2 k) (hk : ∀ j, k = some j → rb < j) : RdAt W2 rb a c l en := by
  have key : ∀ q, q ≤ rb → W2.heap[q]? = W.heap[q]? := fun q hq => g.block q (Nat.lt_of_le_of_lt hq h.k.lt) (fun e => by have := hk q e.symm; omega)
  exact ⟨(key rb (Nat.le_refl _)).trans h.k, h.l.keep (fun q hq => key q (Nat.le_of_lt hq))⟩
theorem But.grown {rb : Nat} {w W W2 : World} {k : Option Nat} (h : But rb w W) (g : W.grownBy W2 k) (hk : ∀ j, k = some j → w.heap.size ≤ j) (hrb : rb ≤ w.heap.size) : But rb w W2 := by
  have hb : Below rb w W2 := h.b.grown g (Nat.le_trans hrb h.s) (fun j hj => Nat.le_trans hrb (hk j hj))
  exact ⟨hb, hb.size, fun q h1 h2 => (g.block q (Nat.lt_of_lt_of_le h2 h.s) (fun e => by have := hk q e.symm; omega)).trans (h.o q h1 h2)⟩
theorem ownTk_but {rb B s n : Nat} {W W' : World} {e : TypeId} {v : Value} {xs : List Value} (h : W.ownsRow B e s v n xs) (hb : But rb W W') (hB : rb < B) : W'.ownsRow B e s v n xs :=
  own_same h (fun k hk => by
    obtain ⟨h1, h2⟩ := World.ownsRow.lt h k hk
    exact hb.o k (by omega) h2)
theorem names_cons {t : Tok} {r : List Tok} (h : t.word = true) : nameW (t :: r) = t :: nameW r ∧ restW (t :: r) = restW r := by
  unfold nameW restW
  rw [List.takeWhile_cons_of_pos h, List.dropWhile_cons_of_pos h]
  exact ⟨rfl, rfl⟩
theorem names_none {l : List Tok} (h : cmF (fun t => t.word) l = false) : nameW l = [] ∧ restW l = l := by
  cases l with
  | nil => exact ⟨rfl, rfl⟩
  | cons t r =>
    have h : t.word = false := h
    unfold nameW restW
    rw [List.takeWhile_cons_of_neg (by rw [h]; simp), List.dropWhile_cons_of_neg (by rw [h]; simp)]
    exact ⟨rfl, rfl⟩
/-- What part leaves. -/
def PartPost (x : Rd (List Tok)) (rb en : Nat) (w : World) (e : Ending) (w' : World) : Prop := But rb w w' ∧ match x with
  | .error el => e = Pn 2 (posE en el : Int)
  | .ok (ns, r) => ∃ v, e = .returned v ∧ OwnTk w' w.heap.size v ns ∧ ∃ a c, RdAt w' rb a c r en
theorem take_any_cases {rb en : Nat} {l : List Tok} {w w' : World} {e : Ending} (h : Take_anyPost rb en l w e w') : But rb w w' ∧ ((cmF (fun t => t.word) l = false ∧ e = Pn 2 (posE en l : Int)) ∨ ∃ t r a c, l = t :: r ∧ t.word = true ∧ e = .returned (tkV t) ∧ RdAt w' rb a c r en) := by
  unfold Take_anyPost at h
  cases l with
  | nil => exact ⟨h.2, .inl ⟨rfl, h.1⟩⟩
  | cons t r =>
    dsimp only at h
    by_cases ht : t.word = true
    · rw [if_pos ht] at h
      obtain ⟨h1, h2, a, c, h3⟩ := h
      exact ⟨h2, .inr ⟨t, r, a, c, rfl, ht, h1, h3⟩⟩
    · rw [if_neg ht] at h
      exact ⟨h.2, .inl ⟨by simpa [cmF] using ht, h.1⟩⟩
theorem take_the_cases {u : Str} {p rb en : Nat} {l : List Tok} {w w' : World} {e : Ending} (h : Take_thePost u p rb en l w e w') : But rb w w' ∧ (((∀ t r, l = t :: r → t.text ≠ u) ∧ e = Pn 2 (posE en l : Int)) ∨ ∃ t r a c, l = t :: r ∧ t.text = u ∧ e = .returned (tkV t) ∧ RdAt w' rb a c r en) := by
  unfold Take_thePost at h
  cases l with
  | nil => exact ⟨h.2, .inl ⟨(fun t r e => absurd e (by simp)), h.1⟩⟩
  | cons t r =>
    dsimp only at h
    by_cases ht : t.text = u
    · rw [if_pos (by simpa using ht)] at h
      obtain ⟨h1, h2, a, c, h3⟩ := h
      exact ⟨h2, .inr ⟨t, r, a, c, rfl, ht, h1, h3⟩⟩
    · rw [if_neg (by simpa using ht)] at h
      exact ⟨h.2, .inl ⟨fun t' r' e => by cases e; exact ht, h.1⟩⟩

set_option maxRecDepth 100000 in
set_option maxHeartbeats 8000000 in
theorem part_any (u : Str) (least rb c en : Nat) (a : Option Addr) (l : List Tok) (w : World) (hl : l.length ≤ 4000) (hle : least ≤ 1) (h0 : Hid (RdAt w rb a c l en)) :
    Calls Try.prog 40 #[.pointer (some ⟨rb, 0, none⟩), strV u, .int .i64 (least : Int)] w fun e w' => PartPost (rdPart u least l) rb en w e w' := by
  obtain ⟨i0, hi, hz0, hz1, hz2⟩ := info_parts Try.infoToken
  have hrb := h0.out.k.lt
  go_enter Try.func40, Try.ntmps40
  go_wp2_with fail
  refine (the_any u w).mono ?_
  rintro e W1 ⟨rfl, rfl⟩
  go_wp2_with fail
  have HP1 : Hid ((w.alloc (.cells #[strV u] 9)).cell? ⟨w.heap.size, 0, none⟩ = some (strV u)) := (Blk.new w 9 #[strV u]).cell 0 rfl
  have HR1 : Hid (RdAt (w.alloc (.cells #[strV u] 9)) rb a c l en) := h0.out.below ((Below.refl _ _).alloc (Nat.le_refl _) _)
  have HB1 : Hid (But rb w (w.alloc (.cells #[strV u] 9))) := But.of ((Below.refl _ _).alloc (Nat.le_refl _) _) (Nat.le_of_lt hrb)
  revert HP1 HR1 HB1
  generalize w.alloc (.cells #[strV u] 9) = W1
  intro HP1 HR1 HB1
  refine (take_the u w.heap.size rb c en a l W1 HP1 HR1).mono ?_
  intro e W2 hq
  obtain ⟨hb, hq⟩ := take_the_cases hq
  replace HB1 := Hid.of (HB1.out.trans hb)
  clear hb HP1
  rcases hq with ⟨h1, rfl⟩ | ⟨t, r, a2, c2, rfl, h1, rfl, h2⟩
  · have HE : Hid (rdPart u least l = .error l) := by
      show _ = _
      cases l with
      | nil => rfl
      | cons t r => exact if_neg (h1 t r rfl)
    clear h1 HR1
    go_wp2_with fail
    exact ⟨rfl, HB1.out, by rw [HE.out]⟩
  · have HE : Hid (rdPart u least (t :: r) = rdNames least r) := if_pos h1
    replace HR1 := Hid.of h2
    rw [List.length_cons] at hl
    clear h1 h2
    go_wp2_with fail
    go_loopg [7] r.length (fun g nv wr => ∃ (ns l' : List Tok) (a' : Option Addr) (c' : Nat), l'.length = g ∧ ns.length + l'.length = r.length ∧ Hid (OwnTk wr w.heap.size nv ns) ∧ Hid (RdAt wr rb a' c' l' en) ∧ Hid (But rb w wr) ∧ Hid (nameW r = ns ++ nameW l' ∧ restW r = restW l'))
    case atStart => exact ⟨[], r, a2, c2, rfl, by simp, World.ownsRow_nil _ _ _ _, HR1, HB1, rfl, rfl⟩
    case round =>
      clear HR1 HB1
      obtain ⟨ns, l', a', c', hg, hsum, HO, HR, HB, HN⟩ := hrel
      obtain ⟨va, vc, hv, -, -, -⟩ := own_form2 HO.out
      subst hv
      have hns : ns.length ≤ 4000 := by omega
      by_cases hlt : ns.length < least
      · have HLT := Hid.of hlt
        have hltI : (ns.length : Int) < (least : Int) := by omega
        have hdl : decide ((ns.length : Int) < (least : Int)) = true := by simp; omega
        clear hlt
        go_wp2_with fail
        refine (anyName_any wr).mono ?_
        rintro e W3 ⟨rfl, rfl⟩
        go_wp2_with fail
        refine (take_any rb c' en a' l' W3 HR).mono ?_
        intro e W4 hq
        obtain ⟨hb, hq⟩ := take_any_cases hq
        rcases hq with ⟨k1, rfl⟩ | ⟨t1, r1, a3, c3, rfl, k1, rfl, k2⟩
        · have HE2 : Hid (rdNames least r = .error l') := by
            obtain ⟨n1, n2⟩ := names_none k1
            show _ = _
            unfold rdNames
            rw [HN.out.1, HN.out.2, n1, n2, List.append_nil, if_pos HLT.out]
          replace HB := Hid.of (HB.out.trans hb)
          clear hb k1
          go_wp2_with fail
          exact ⟨rfl, HB.out, by rw [HE.out, HE2.out]⟩
        · clear hltI hdl HLT
          have HO4 := Hid.of (ownTk_but HO.out hb hrb)
          have HB4 := Hid.of (HB.out.trans hb)
          have HR4 := Hid.of k2
          have HN5 : Hid (nameW r = (ns ++ [t1]) ++ nameW r1 ∧ restW r = restW r1) := by
            obtain ⟨n1, n2⟩ := names_cons (r := r1) k1
            refine ⟨?_, ?_⟩
            · rw [HN.out.1, n1]; simp
            · rw [HN.out.2, n2]
          have HA : Hid (w.heap.size ≤ W4.heap.size) := HB4.out.s
          rw [List.length_cons] at hg hsum
          clear hb k1 k2 HO HB HR HN hq
          go_wp2_with (at_builtin; refine wpList_append_block _ rfl (.tmp 21) (.tmp 25) 42 rfl w.heap.size 56 i0 _ 3 32 Try.underlying42 hi hz0 hz1 hz2 rfl (by decide) _ _ _ rfl (World.ownsRow.alloc HO4.out _) ⟨W4.heap.size, 0, none⟩ 1 1 [.int .i64 (tkK t1), strV t1.text, .int .i64 (t1.pos : Int)] rfl rfl (cells_three W4 W4 rfl _ _ _ _) (by intro u hu; simp at hu; rcases hu with rfl | rfl | rfl <;> rfl) (by decide) (by unfold maxLen; omega) (by omega) (Nat.le_trans HA.out (by simp)) ?_)
          intro v9 W5 o9 g9 n9
          have HO5 : Hid (OwnTk W5 w.heap.size v9 (ns ++ [t1])) := ownTk_snoc (tk_cells t1) o9
          have hkk : ∀ j, Value.ownBlock (.slice va ns.length vc) = some j → w.heap.size ≤ j := fun j hj => (World.ownsRow.lt HO4.out j hj).1
          have HR5 := Hid.of ((HR4.out.below ((Below.refl _ _).alloc (Nat.le_refl _) _)).grown g9 (fun j hj => Nat.lt_of_lt_of_le hrb (hkk j hj)))
          have HB5 := Hid.of ((HB4.out.trans (But.of ((Below.refl _ _).alloc (Nat.le_refl _) _) (Nat.le_trans (Nat.le_of_lt hrb) HA.out))).grown g9 hkk (Nat.le_of_lt hrb))
          obtain ⟨va2, vc2, hv2, -, -, -⟩ := own_form2 HO5.out
          have hl2 : (ns ++ [t1]).length = ns.length + 1 := by simp
          rw [hl2] at hv2
          subst hv2
          clear o9 g9 n9 hkk HO4 HB4 HR4 HA
          go_wp2_with fail
          go_roundg r1.length
          case measure => omega
          case rel => exact ⟨ns ++ [t1], r1, a3, c3, rfl, by rw [hl2]; omega, HO5, HR5, HB5, HN5⟩
      · have HLT := Hid.of hlt
        have hltI : ¬ (ns.length : Int) < (least : Int) := by omega
        have hltJ : (least : Int) ≤ (ns.length : Int) := by omega
        have hltN : least ≤ ns.length := by omega
        have hdl : decide ((ns.length : Int) < (least : Int)) = false := by simp; omega
        clear hlt
        go_wp2_with fail
        refine (anyName_any wr).mono ?_
        rintro e W3 ⟨rfl, rfl⟩
        go_wp2_with fail
        refine (comes_any rb c' en a' l' W3 HR).mono ?_
        rintro e W3b ⟨rfl, hbb⟩
        have hbc := But.of (rb := rb) hbb (Nat.le_of_lt HR.out.k.lt)
        replace HO := Hid.of (ownTk_but HO.out hbc hrb)
        replace HB := Hid.of (HB.out.trans hbc)
        replace HR := Hid.of (HR.out.below hbb)
        clear hbb hbc
        obtain ⟨b, HBB⟩ : ∃ b, Hid (cmF (fun t => t.word) l' = b) := ⟨_, rfl⟩
        rw [HBB.out]
        cases b with
        | true =>
          go_wp2_with fail
          refine (anyName_any W3b).mono ?_
          rintro e W3 ⟨rfl, rfl⟩
          go_wp2_with fail
          refine (take_any rb c' en a' l' W3 HR).mono ?_
          intro e W4 hq
          obtain ⟨hb, hq⟩ := take_any_cases hq
          rcases hq with ⟨k1, rfl⟩ | ⟨t1, r1, a3, c3, rfl, k1, rfl, k2⟩
          · rw [HBB.out] at k1; cases k1
          · clear hltI hltJ hltN hdl HLT HBB
            have HO4 := Hid.of (ownTk_but HO.out hb hrb)
            have HB4 := Hid.of (HB.out.trans hb)
            have HR4 := Hid.of k2
            have HN5 : Hid (nameW r = (ns ++ [t1]) ++ nameW r1 ∧ restW r = restW r1) := by
              obtain ⟨n1, n2⟩ := names_cons (r := r1) k1
              refine ⟨?_, ?_⟩
              · rw [HN.out.1, n1]; simp
              · rw [HN.out.2, n2]
            have HA : Hid (w.heap.size ≤ W4.heap.size) := HB4.out.s
            rw [List.length_cons] at hg hsum
            clear hb k1 k2 HO HB HR HN hq
            go_wp2_with (at_builtin; refine wpList_append_block _ rfl (.tmp 21) (.tmp 25) 42 rfl w.heap.size 56 i0 _ 3 32 Try.underlying42 hi hz0 hz1 hz2 rfl (by decide) _ _ _ rfl (World.ownsRow.alloc HO4.out _) ⟨W4.heap.size, 0, none⟩ 1 1 [.int .i64 (tkK t1), strV t1.text, .int .i64 (t1.pos : Int)] rfl rfl (cells_three W4 W4 rfl _ _ _ _) (by intro u hu; simp at hu; rcases hu with rfl | rfl | rfl <;> rfl) (by decide) (by unfold maxLen; omega) (by omega) (Nat.le_trans HA.out (by simp)) ?_)
            intro v9 W5 o9 g9 n9
            have HO5 : Hid (OwnTk W5 w.heap.size v9 (ns ++ [t1])) := ownTk_snoc (tk_cells t1) o9
            have hkk : ∀ j, Value.ownBlock (.slice va ns.length vc) = some j → w.heap.size ≤ j := fun j hj => (World.ownsRow.lt HO4.out j hj).1
            have HR5 := Hid.of ((HR4.out.below ((Below.refl _ _).alloc (Nat.le_refl _) _)).grown g9 (fun j hj => Nat.lt_of_lt_of_le hrb (hkk j hj)))
            have HB5 := Hid.of ((HB4.out.trans (But.of ((Below.refl _ _).alloc (Nat.le_refl _) _) (Nat.le_trans (Nat.le_of_lt hrb) HA.out))).grown g9 hkk (Nat.le_of_lt hrb))
            obtain ⟨va2, vc2, hv2, -, -, -⟩ := own_form2 HO5.out
            have hl2 : (ns ++ [t1]).length = ns.length + 1 := by simp
            rw [hl2] at hv2
            subst hv2
            clear o9 g9 n9 hkk HO4 HB4 HR4 HA
            go_wp2_with fail
            go_roundg r1.length
            case measure => omega
            case rel => exact ⟨ns ++ [t1], r1, a3, c3, rfl, by rw [hl2]; omega, HO5, HR5, HB5, HN5⟩
        | false =>
          have HE2 : Hid (rdNames least r = rdEnd ns l') := by
            obtain ⟨n1, n2⟩ := names_none HBB.out
            show _ = _
            unfold rdNames
            rw [HN.out.1, HN.out.2, n1, n2, List.append_nil, if_neg HLT.out]
          clear HLT hltI hltJ hltN hdl HBB HN
          go_wp2_with fail
          refine (the_any [59] W3b).mono ?_
          rintro e W4 ⟨rfl, rfl⟩
          go_wp2_with fail
          have hal : Below W3b.heap.size W3b (W3b.alloc (.cells #[strV [59]] 9)) := (Below.refl _ _).alloc (Nat.le_refl _) _
          have HP1 : Hid ((W3b.alloc (.cells #[strV [59]] 9)).cell? ⟨W3b.heap.size, 0, none⟩ = some (strV [59])) := (Blk.new W3b 9 #[strV [59]]).cell 0 rfl
          have hbc := But.of (rb := rb) hal (Nat.le_of_lt HR.out.k.lt)
          replace HO := Hid.of (ownTk_but HO.out hbc hrb)
          replace HB := Hid.of (HB.out.trans hbc)
          replace HR := Hid.of (HR.out.below hal)
          clear hal hbc
          revert HP1 HR HB HO
          show Hid ((W3b.alloc (.cells #[strV [59]] 9)).cell? ⟨W3b.heap.size, 0, none⟩ = some (strV [59])) → _
          generalize W3b.alloc (.cells #[strV [59]] 9) = W5
          generalize W3b.heap.size = p5
          intro HP1 HO HB HR
          refine (take_the [59] p5 rb c' en a' l' W5 HP1 HR).mono ?_
          intro e W6 hq6
          obtain ⟨hb, hq6⟩ := take_the_cases hq6
          replace HB := Hid.of (HB.out.trans hb)
          replace HO := Hid.of (ownTk_but HO.out hb hrb)
          clear hb HP1 HR
          rcases hq6 with ⟨k1, rfl⟩ | ⟨t3, r3, a3, c3, rfl, k1, rfl, k2⟩
          · have HE3 : Hid (rdEnd ns l' = .error l') := by
              show _ = _
              cases l' with
              | nil => rfl
              | cons t r => exact if_neg (k1 t r rfl)
            clear k1
            go_wp2_with fail
            exact ⟨rfl, HB.out, by rw [HE.out, HE2.out, HE3.out]⟩
          · have HE3 : Hid (rdEnd ns (t3 :: r3) = .ok (ns, r3)) := if_pos k1
            have HR6 := Hid.of k2
            clear k1 k2
            go_wp2_with fail
            refine bodyPost_ret (v := .slice va ns.length vc) (by simp [results, go_sem]) rfl ⟨HB.out, ?_⟩
            rw [HE.out, HE2.out, HE3.out]
            exact ⟨_, rfl, HO.out, a3, c3, HR6.out⟩

end Go.Proofs.Ytbgiliophmofgaa
