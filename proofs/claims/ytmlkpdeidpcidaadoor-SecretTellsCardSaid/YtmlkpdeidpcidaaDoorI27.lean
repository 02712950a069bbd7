/-
  What secret.Leak must leave.
  The walk of secret.refuse.
  Plain: whereabouts as sets of numbers, as package secret keeps them: a pair's number is 16 times its state, and the bits of its row. No program, no model.
  The walk of secret.others: the numbers below another one that are not in a list.
  The walk of secret.pairOf: the state and the row of a pair.
  The walk of secret.pairs: the pairs of states with one row.
-/
import Derived.Test.YtmlkpdeidpcidaaDoorERQLeak
import Derived.Test.YtmlkpdeidpcidaaDoorI23
import Derived.Test.YtmlkpdeidpcidaaDoorI10
import Derived.Test.YtmlkpdeidpcidaaDoorI08
import Derived.Test.YtmlkpdeidpcidaaDoorI17
import Derived.Test.YtmlkpdeidpcidaaDoorI25
import Derived.Test.YtmlkpdeidpcidaaDoorI15
import Derived.Test.YtmlkpdeidpcidaaDoorI14
import Derived.Test.YtmlkpdeidpcidaaDoorI05
import Derived.Test.YtmlkpdeidpcidaaDoorI12
import Derived.Test.YtmlkpdeidpcidaaDoorESpread
import Derived.Test.YtmlkpdeidpcidaaDoorESetOps
namespace Go.Proofs.YtmlkpdeidpcidaaDoor
open Go.RowKit
set_option linter.unusedVariables false

/-- What is wrong (L1). -/
def secErr (m s : Mach) (seen : List Int) : Int := if mayB m = true ∧ mayB s = true then (if m.ev = s.ev then (if rowB m.ev seen = true then (if m.st ≤ 6 ∧ s.st ≤ 4 then 0 else 1) else 2) else 3) else 2
/-- What Leak answers. -/
def secOut (m s : Mach) (seen : List Int) : Bool × List Int × Int := if secErr m s seen = 0 then (match outQ m s seen with
  | none => (false, [], 1)
  | some o => (o.isSome, o.getD [], 0)) else (false, [], secErr m s seen)
theorem secErr_m {m s : Mach} (h : mayB m = false) (seen : List Int) : secErr m s seen = 2 := by unfold secErr; rw [if_neg (by rw [h]; simp)]
theorem secErr_s {m s : Mach} (h : mayB s = false) (seen : List Int) : secErr m s seen = 2 := by unfold secErr; rw [if_neg (by rw [h]; simp)]
theorem secErr_k {m s : Mach} (hm : mayB m = true) (hs : mayB s = true) (h : ¬ m.ev = s.ev) (seen : List Int) : secErr m s seen = 3 := by unfold secErr; rw [if_pos ⟨hm, hs⟩, if_neg h]
theorem secErr_r {m s : Mach} (hm : mayB m = true) (hs : mayB s = true) (he : m.ev = s.ev) {seen : List Int} (h : rowB m.ev seen = false) : secErr m s seen = 2 := by unfold secErr; rw [if_pos ⟨hm, hs⟩, if_pos he, if_neg (by rw [h]; simp)]
theorem secErr_z {m s : Mach} (hm : mayB m = true) (hs : mayB s = true) (he : m.ev = s.ev) {seen : List Int} (hr : rowB m.ev seen = true) (h : ¬ (m.st ≤ 6 ∧ s.st ≤ 4)) : secErr m s seen = 1 := by unfold secErr; rw [if_pos ⟨hm, hs⟩, if_pos he, if_pos hr, if_neg h]
theorem secErr_ok {m s : Mach} (hm : mayB m = true) (hs : mayB s = true) (he : m.ev = s.ev) {seen : List Int} (hr : rowB m.ev seen = true) (h1 : m.st ≤ 6) (h2 : s.st ≤ 4) : secErr m s seen = 0 := by unfold secErr; rw [if_pos ⟨hm, hs⟩, if_pos he, if_pos hr, if_pos ⟨h1, h2⟩]
theorem secOut_bad {m s : Mach} {seen : List Int} {c : Int} (h : secErr m s seen = c) (hc : c ≠ 0) : secOut m s seen = (false, [], c) := by unfold secOut; rw [h, if_neg hc]
theorem secOut_big {m s : Mach} {seen : List Int} (h : secErr m s seen = 0) (ho : outQ m s seen = none) : secOut m s seen = (false, [], 1) := by unfold secOut; rw [if_pos h, ho]
theorem secOut_ok {m s : Mach} {seen : List Int} {o : Option (List Int)} (h : secErr m s seen = 0) (ho : outQ m s seen = some o) : secOut m s seen = (o.isSome, o.getD [], 0) := by unfold secOut; rw [if_pos h, ho]

end Go.Proofs.YtmlkpdeidpcidaaDoor
namespace Go.Proofs.YtmlkpdeidpcidaaDoor
open Go.RowKit
set_option linter.unusedVariables false

set_option maxRecDepth 100000 in
set_option maxHeartbeats 8000000 in
theorem qrefuse_any (a b : Mach) (la lb : ML) (sa : Option Addr) (sc : Nat) (seen : List Int) (w : World) (h : Hid (MAt w a la)) (h' : Hid (MAt w b lb)) (hs : Hid (At w sa seen)) (hsl : Hid (seen.length ≤ maxLen)) :
    Calls Tryd.prog 93 #[mval a la, mval b lb, .slice sa seen.length sc] w fun e w' => e = .returned (.int .i64 (secErr a b seen)) ∧ Below w.heap.size w w' := by
  have B0 : Hid (Below w.heap.size w ((w.alloc (.cells (mcells a la) 25)).alloc (.cells (mcells b lb) 25))) := ((Below.refl _ _).alloc (Nat.le_refl _) _).alloc (by simp) _
  have KA0 : Hid (Blk ((w.alloc (.cells (mcells a la) 25)).alloc (.cells (mcells b lb) 25)) w.heap.size 25 (mcells a la)) := (Blk.new w _ _).alloc _
  have KB0 : Hid (Blk ((w.alloc (.cells (mcells a la) 25)).alloc (.cells (mcells b lb) 25)) (w.heap.size + 1) 25 (mcells b lb)) := by
    have := Blk.new (w.alloc (.cells (mcells a la) 25)) 25 (mcells b lb)
    rwa [World.size_alloc] at this
  go_enter Tryd.func93, Tryd.ntmps93
  go_wp2_with fail
  revert B0 KA0 KB0
  generalize (w.alloc (.cells (mcells a la) 25)).alloc (.cells (mcells b lb) 25) = V0
  intro B0 KA0 KB0
  refine (pMay_any a la _ (h.out.below B0.out (Nat.le_refl _))).mono ?_
  rintro e V ⟨rfl, hb1⟩
  have B1 := Hid.of (B0.out.trans (hb1.mono B0.out.size))
  have KA1 := Hid.of (KA0.out.below hb1 KA0.out.lt)
  have KB1 := Hid.of (KB0.out.below hb1 KB0.out.lt)
  clear hb1 B0 KA0 KB0
  cases hma : mayB a with
  | false =>
    have HW : Hid (secErr a b seen = 2) := secErr_m hma seen
    clear hma
    go_wp2_with fail
    exact bodyPost_ret (v := .int .i64 2) (by simp [results, go_sem]) rfl ⟨by rw [HW.out], B1.out⟩
  | true =>
    have HA := Hid.of hma
    clear hma
    obtain ⟨y0, y1, y2, y3, y4⟩ := mcell_at KB1.out
    go_wp2_with fail
    refine (pMay_any b lb _ (h'.out.below B1.out (Nat.le_refl _))).mono ?_
    rintro e V2 ⟨rfl, hb1⟩
    have B2 := Hid.of (B1.out.trans (hb1.mono B1.out.size))
    have KA2 := Hid.of (KA1.out.below hb1 KA1.out.lt)
    have KB2 := Hid.of (KB1.out.below hb1 KB1.out.lt)
    clear hb1 B1 KA1 KB1 y0 y1 y2 y3 y4
    cases hmb : mayB b with
    | false =>
      have HW : Hid (secErr a b seen = 2) := secErr_s hmb seen
      clear hmb
      go_wp2_with fail
      exact bodyPost_ret (v := .int .i64 2) (by simp [results, go_sem]) rfl ⟨by rw [HW.out], B2.out⟩
    | true =>
      have HB := Hid.of hmb
      clear hmb
      obtain ⟨st, ev, starts, ars, ends⟩ := a
      obtain ⟨sb, eb, startsB, arsB, endsB⟩ := b
      obtain ⟨a1, c1, a2, c2, a3, c3⟩ := la
      obtain ⟨b1, d1, b2, d2, b3, d3⟩ := lb
      obtain ⟨x0, x1, x2, x3, x4⟩ := mcell_at KA2.out
      obtain ⟨y0, y1, y2, y3, y4⟩ := mcell_at KB2.out
      dsimp only at x0 x1 x2 x3 x4 y0 y1 y2 y3 y4
      have HSA := Hid.of (hs.out.below B2.out (Nat.le_refl _))
      by_cases he : ev = eb
      · have de : (ev != eb) = false := by rw [he]; simp
        have HEQ : Hid (ev = eb) := he
        clear he
        go_wp2_with fail
        refine (rowIs_any sa sc seen ev V2 HSA.out hsl.out).mono ?_
        rintro e V3 ⟨rfl, rfl⟩
        cases hr : rowB ev seen with
        | false =>
          have HE : Hid (secErr ⟨st, ev, starts, ars, ends⟩ ⟨sb, eb, startsB, arsB, endsB⟩ seen = 2) := secErr_r HA.out HB.out HEQ.out hr
          clear hr
          go_wp2_with fail
          exact bodyPost_ret (v := .int .i64 2) (by simp [results, go_sem]) rfl ⟨by rw [HE.out], B2.out⟩
        | true =>
          have HR := Hid.of hr
          clear hr
          by_cases h6 : st ≤ 6
          · have d6 : decide ((6 : Int) < st) = false := by simp; omega
            by_cases h4 : sb ≤ 4
            · have d4 : decide ((4 : Int) < sb) = false := by simp; omega
              have HE : Hid (secErr ⟨st, ev, starts, ars, ends⟩ ⟨sb, eb, startsB, arsB, endsB⟩ seen = 0) := secErr_ok HA.out HB.out HEQ.out HR.out h6 h4
              go_wp2_with fail
              exact bodyPost_ret (v := .int .i64 0) (by simp [results, go_sem]) rfl ⟨by rw [HE.out], B2.out⟩
            · have d4 : decide ((4 : Int) < sb) = true := by simp; omega
              have HE : Hid (secErr ⟨st, ev, starts, ars, ends⟩ ⟨sb, eb, startsB, arsB, endsB⟩ seen = 1) := secErr_z HA.out HB.out HEQ.out HR.out (fun h => h4 h.2)
              go_wp2_with fail
              exact bodyPost_ret (v := .int .i64 1) (by simp [results, go_sem]) rfl ⟨by rw [HE.out], B2.out⟩
          · have d6 : decide ((6 : Int) < st) = true := by simp; omega
            have HE : Hid (secErr ⟨st, ev, starts, ars, ends⟩ ⟨sb, eb, startsB, arsB, endsB⟩ seen = 1) := secErr_z HA.out HB.out HEQ.out HR.out (fun h => h6 h.1)
            go_wp2_with fail
            exact bodyPost_ret (v := .int .i64 1) (by simp [results, go_sem]) rfl ⟨by rw [HE.out], B2.out⟩
      · have de : (ev != eb) = true := by simp [he]
        have HE : Hid (secErr ⟨st, ev, starts, ars, ends⟩ ⟨sb, eb, startsB, arsB, endsB⟩ seen = 3) := secErr_k HA.out HB.out he seen
        clear he
        go_wp2_with fail
        exact bodyPost_ret (v := .int .i64 3) (by simp [results, go_sem]) rfl ⟨by rw [HE.out], B2.out⟩

end Go.Proofs.YtmlkpdeidpcidaaDoor
namespace Go.Proofs.YtmlkpdeidpcidaaDoor
open Go.RowKit
set_option linter.unusedVariables false
set_option linter.unusedSectionVars false

/-- All numbers below another one that are not in a list. -/
def othL (ev : Nat) (l : List Int) : List Int := (rngI ev).filter fun e => !hasB l e
theorem mem_oth (ev : Nat) (l : List Int) (e : Int) : e ∈ othL ev l ↔ (0 ≤ e ∧ e < (ev : Int)) ∧ hasB l e = false := by
  unfold othL
  rw [List.mem_filter, mem_rng9, Bool.not_eq_true']

/-! Sets of states below 4, by their first word. -/
def oneW (b : Nat) : Nat → Nat := fun k => if k = 0 then b else 0
def bitQ (l : List Int) : Nat := ofS l 0
def encQ (x : Pla) : Int := x.1 * 16 + (bitQ x.2 : Int)
theorem rep_allL {l : List Int} (h : ∀ x ∈ l, 0 ≤ x ∧ x < 256) : Rep (ofS l) l := by
  have := rep_of h l.length
  rwa [List.take_of_length_le (Nat.le_refl _)] at this
theorem has_low (S : Nat → Nat) {j : Nat} (h : j < 64) : hasS S j = (S 0).testBit j := by
  unfold hasS
  rw [show j / 64 = 0 by omega, show j % 64 = j by omega]
theorem first_lt {S : Nat → Nat} {l : List Int} (h : Rep S l) (hl : ∀ x ∈ l, 0 ≤ x ∧ x < 4) : S 0 < 16 := by
  refine Nat.lt_pow_two_of_testBit (n := 4) (S 0) (fun i hi => ?_)
  by_cases h64 : i < 64
  · cases hb : (S 0).testBit i with
    | false => rfl
    | true =>
      have := hl _ ((h.mem i (by omega)).1 (by rw [has_low S h64]; exact hb))
      omega
  · exact Nat.testBit_lt_two_pow (Nat.lt_of_lt_of_le (h.ok 0) (by
      have : 2 ^ 64 ≤ 2 ^ i := Nat.pow_le_pow_right (by omega) (by omega)
      exact this))
theorem first_eq {S T : Nat → Nat} {l : List Int} (h : Rep S l) (h' : Rep T l) : S 0 = T 0 := by
  refine word_eq (h.ok 0) (h'.ok 0) (fun j hj => ?_)
  rw [← has_low S hj, ← has_low T hj, Bool.eq_iff_iff, h.mem j (by omega), h'.mem j (by omega)]
theorem low_bd {l : List Int} (hl : ∀ x ∈ l, 0 ≤ x ∧ x < 4) : ∀ x ∈ l, 0 ≤ x ∧ x < 256 := fun x hx => by have := hl x hx; omega
theorem bit_lt {l : List Int} (hl : ∀ x ∈ l, 0 ≤ x ∧ x < 4) : bitQ l < 16 := first_lt (rep_allL (low_bd hl)) hl
theorem first_bit {S : Nat → Nat} {l : List Int} (h : Rep S l) : S 0 = bitQ l := first_eq h (rep_allL h.bd)
theorem rep_oneW {l : List Int} (hl : ∀ x ∈ l, 0 ≤ x ∧ x < 4) : Rep (oneW (bitQ l)) l := by
  have hr := rep_allL (low_bd hl)
  have hb := bit_lt hl
  refine ⟨fun k => ?_, low_bd hl, fun n hn => ?_⟩
  · unfold oneW; split
    · omega
    · omega
  · by_cases h64 : n < 64
    · rw [has_low _ h64]
      show (bitQ l).testBit n = true ↔ _
      rw [← hr.mem n hn, has_low _ h64]; rfl
    · have e : hasS (oneW (bitQ l)) n = false := by
        unfold hasS oneW
        rw [if_neg (by omega)]; simp
      rw [e]
      constructor
      · intro h; cases h
      · intro h; have := hl _ h; omega
theorem bit_inj {l k : List Int} (hl : ∀ x ∈ l, 0 ≤ x ∧ x < 4) (hk : ∀ x ∈ k, 0 ≤ x ∧ x < 4) (il : Inc l) (ik : Inc k) (h : bitQ l = bitQ k) : l = k := by
  have r1 := rep_oneW hl
  have r2 := rep_oneW hk
  rw [← h] at r2
  refine inc_ext il ik (fun x => ?_)
  constructor
  · intro hx
    have b := hl x hx
    have := (r2.mem x.toNat (by omega)).1 ((r1.mem x.toNat (by omega)).2 (by rwa [Int.toNat_of_nonneg b.1]))
    rwa [Int.toNat_of_nonneg b.1] at this
  · intro hx
    have b := hk x hx
    have := (r1.mem x.toNat (by omega)).1 ((r2.mem x.toNat (by omega)).2 (by rwa [Int.toNat_of_nonneg b.1]))
    rwa [Int.toNat_of_nonneg b.1] at this
theorem rep_one {n : Nat} (h : n < 256) : Rep (withS zeroS n) [(n : Int)] := by
  have := rep_snoc rep_nil (x := (n : Int)) (by omega) (by omega)
  rwa [Int.toNat_natCast, List.nil_append] at this

/-! All pairs. -/
theorem subs_in : ∀ {n : Nat} {l : List Int}, l ∈ subs n → Inc l ∧ ∀ x ∈ l, 0 ≤ x ∧ x < (n : Int)
  | 0, l, h => by
    have : l = [] := by simpa [subs] using h
    subst this
    exact ⟨by simp [Inc], by simp⟩
  | n + 1, l, h => by
    rw [subs, List.mem_append, List.mem_map] at h
    rcases h with h | ⟨k, hk, rfl⟩
    · obtain ⟨h1, h2⟩ := subs_in h
      exact ⟨h1, fun x hx => by have := h2 x hx; omega⟩
    · obtain ⟨h1, h2⟩ := subs_in hk
      refine ⟨?_, fun x hx => ?_⟩
      · unfold Inc at h1 ⊢
        rw [List.pairwise_append]
        refine ⟨h1, by simp, fun a ha b hb => ?_⟩
        have : b = (n : Int) := by simpa using hb
        have := h2 a ha; omega
      · rcases List.mem_append.1 hx with hx | hx
        · have := h2 x hx; omega
        · have : x = (n : Int) := by simpa using hx
          omega
section
variable {m s : Mach}
theorem allQ_in {x : Pla} (h : x ∈ allQ m s) : 0 ≤ x.1 ∧ x.1 < m.st ∧ Inc x.2 ∧ ∀ y ∈ x.2, 0 ≤ y ∧ y < 4 := by
  unfold allQ at h
  rw [List.mem_flatMap] at h
  obtain ⟨a, ha, h⟩ := h
  obtain ⟨S, hS, rfl⟩ := List.mem_map.1 h
  have h1 := (mem_rng9 _ _).1 ha
  have h2 := subs_in hS
  exact ⟨h1.1, by show a < m.st; omega, h2.1, fun y hy => by have := h2.2 y hy; omega⟩
theorem enc_at (zm : m.st ≤ 6) {x : Pla} (h : x ∈ allQ m s) : 0 ≤ encQ x ∧ encQ x < 96 ∧ (encQ x).toNat / 16 = x.1.toNat ∧ (encQ x).toNat % 16 = bitQ x.2 := by
  obtain ⟨h1, h2, h3, h4⟩ := allQ_in h
  have hb := bit_lt h4
  unfold encQ
  refine ⟨by omega, by omega, by omega, by omega⟩
theorem enc_inj (zm : m.st ≤ 6) {x y : Pla} (hx : x ∈ allQ m s) (hy : y ∈ allQ m s) (h : encQ x = encQ y) : x = y := by
  obtain ⟨h1, h2, h3, h4⟩ := allQ_in hx
  obtain ⟨k1, k2, k3, k4⟩ := allQ_in hy
  have b1 := bit_lt h4
  have b2 := bit_lt k4
  unfold encQ at h
  exact Prod.ext (by omega) (bit_inj h4 k4 h3 k3 (by omega))
theorem enc_mem (zm : m.st ≤ 6) {l : List Pla} (hl : ∀ x ∈ l, x ∈ allQ m s) {x : Pla} (hx : x ∈ allQ m s) : encQ x ∈ l.map encQ ↔ x ∈ l := by
  rw [List.mem_map]
  constructor
  · rintro ⟨y, hy, e⟩
    rw [← enc_inj zm (hl y hy) hx e]; exact hy
  · intro h; exact ⟨x, h, rfl⟩
theorem enc_bd (zm : m.st ≤ 6) {l : List Pla} (hl : ∀ x ∈ l, x ∈ allQ m s) : ∀ n ∈ l.map encQ, 0 ≤ n ∧ n < 256 := fun n hn => by
  obtain ⟨x, hx, rfl⟩ := List.mem_map.1 hn
  have := enc_at zm (hl x hx)
  omega
end
theorem rep_same {S : Nat → Nat} {l k : List Int} (h : Rep S l) (e : ∀ x, x ∈ l ↔ x ∈ k) : Rep S k :=
  ⟨h.ok, fun x hx => h.bd x ((e x).2 hx), fun n hn => (h.mem n hn).trans (e _)⟩
theorem rep_joinL {S T : Nat → Nat} {l k : List Int} (h : Rep S l) (h' : Rep T k) : Rep (joinS S T) (l ++ k) := by
  refine ⟨okS_join h.ok h'.ok, fun x hx => ?_, fun n hn => ?_⟩
  · rcases List.mem_append.1 hx with q | q
    · exact h.bd x q
    · exact h'.bd x q
  · rw [hasS_join, Bool.or_eq_true, List.mem_append, h.mem n hn, h'.mem n hn]
theorem rep_lessL {S T : Nat → Nat} {l k : List Int} (h : Rep S l) (h' : Rep T k) : Rep (lessS S T) (l.filter fun x => !hasB k x) := by
  refine ⟨okS_less h.ok, fun x hx => h.bd x (List.mem_filter.1 hx).1, fun n hn => ?_⟩
  rw [hasS_less h'.ok, Bool.and_eq_true, List.mem_filter, h.mem n hn, Bool.not_eq_true', Bool.not_eq_true']
  constructor
  · rintro ⟨h1, h2⟩
    refine ⟨h1, ?_⟩
    cases hb : hasB k (n : Int) with
    | false => rfl
    | true => rw [(h'.mem n hn).2 ((hasB_iff _ _).1 hb)] at h2; cases h2
  · rintro ⟨h1, h2⟩
    refine ⟨h1, ?_⟩
    cases hb : hasS T n with
    | false => rfl
    | true => rw [(hasB_iff _ _).2 ((h'.mem n hn).1 hb)] at h2; cases h2

/-! The pairs of states with one row. -/
def prsF (b : Nat) (ns : List Nat) : Nat → Nat := ns.foldl (fun o n => withS o (n * 16 + b)) zeroS
theorem prsF_snoc (b : Nat) (ns : List Nat) (n : Nat) : prsF b (ns ++ [n]) = withS (prsF b ns) (n * 16 + b) := by simp [prsF, List.foldl_append]
theorem ok_prsG (b : Nat) : ∀ (ns : List Nat) (o : Nat → Nat), okS o → okS (ns.foldl (fun o n => withS o (n * 16 + b)) o)
  | [], _, h => h
  | n :: r, o, h => ok_prsG b r _ (okS_with h _)
theorem ok_prsF (b : Nat) (ns : List Nat) : okS (prsF b ns) := ok_prsG b ns _ okS_zero
theorem has_prsG (b k : Nat) : ∀ (ns : List Nat) (o : Nat → Nat), hasS (ns.foldl (fun o n => withS o (n * 16 + b)) o) k = true ↔ hasS o k = true ∨ ∃ n ∈ ns, k = n * 16 + b
  | [], o => by simp
  | n :: r, o => by
    rw [List.foldl_cons, has_prsG b k r, hasS_with, Bool.or_eq_true, decide_eq_true_eq]
    simp only [List.mem_cons, exists_eq_or_imp]
    rw [or_assoc]
theorem has_prsF (b k : Nat) (ns : List Nat) : hasS (prsF b ns) k = true ↔ ∃ n ∈ ns, k = n * 16 + b := by
  unfold prsF; rw [has_prsG]; simp [hasS_zero]
def pairsS (S : Nat → Nat) (b : Nat) : Nat → Nat := prsF b (allS S)
theorem ok_pairs (S : Nat → Nat) (b : Nat) : okS (pairsS S b) := ok_prsF _ _
theorem has_pairs {S : Nat → Nat} {l : List Int} (h : Rep S l) (b k : Nat) : hasS (pairsS S b) k = true ↔ ∃ x ∈ l, (k : Int) = x * 16 + (b : Int) := by
  unfold pairsS
  rw [has_prsF]
  constructor
  · rintro ⟨n, hn, e⟩
    obtain ⟨h1, h2⟩ := (mem_allS _ _).1 hn
    exact ⟨(n : Int), (h.mem n h1).1 h2, by omega⟩
  · rintro ⟨x, hx, e⟩
    obtain ⟨b0, b1⟩ := h.bd x hx
    exact ⟨x.toNat, (mem_allS _ _).2 ⟨by omega, (h.mem x.toNat (by omega)).2 (by rwa [Int.toNat_of_nonneg b0])⟩, by omega⟩

/-! Where pairs lead to. -/
def lqP (ev : Nat) (A B : List Arr) (e n : Nat) : Nat → Nat := pairsS (leadS ev A (withS zeroS (n / 16)) e) (leadS ev B (oneW (n % 16)) e 0)
def lqS (ev : Nat) (A B : List Arr) (S : Nat → Nat) (e : Nat) : Nat → Nat := toF (lqP ev A B e) (allS S)
theorem ok_lqP (ev : Nat) (A B : List Arr) (e n : Nat) : okS (lqP ev A B e n) := ok_pairs _ _
theorem ok_lqS (ev : Nat) (A B : List Arr) (S : Nat → Nat) (e : Nat) : okS (lqS ev A B S e) := ok_toF (ok_lqP ev A B e) _
section
variable {m s : Mach}
theorem has_lqP (hm : mayB m = true) (hs : mayB s = true) (zm : m.st ≤ 6) (zs : s.st ≤ 4) (he : m.ev = s.ev) {e : Int} (h0 : 0 ≤ e) (h1 : e < m.ev) {y : Pla} (hy : y ∈ allQ m s) (k : Nat) : hasS (lqP m.ev.toNat m.arrows s.arrows e.toNat (encQ y).toNat) k = true ↔ ∃ x ∈ evQ m s e y, (k : Int) = encQ x := by
  obtain ⟨a1, a2, a3, a4⟩ := enc_at zm hy
  obtain ⟨y1, y2, y3, y4⟩ := allQ_in hy
  unfold lqP
  rw [a3, a4]
  have r1 : Rep (leadS m.ev.toNat m.arrows (withS zeroS y.1.toNat) e.toNat) (stepL m.arrows [y.1] e) := by
    have := rep_one (n := y.1.toNat) (by omega)
    rw [Int.toNat_of_nonneg y1] at this
    exact rep_lead (st := m.st) (ev := m.ev) this (may_arrs hm) (by omega) h0 h1
  have r2 : Rep (leadS m.ev.toNat s.arrows (oneW (bitQ y.2)) e.toNat) (stepL s.arrows y.2 e) := by
    rw [he]
    exact rep_lead (st := s.st) (ev := s.ev) (rep_oneW y4) (may_arrs hs) (by omega) h0 (by omega)
  rw [first_bit r2, has_pairs r1]
  constructor
  · rintro ⟨t, ht, e1⟩
    obtain ⟨a, g1, g2, g3, rfl⟩ := (mem_stepL _ _ _ _).1 ht
    have g3 : a.f = y.1 := by simpa using g3
    refine ⟨plTo s y a, mem_evQ.2 ⟨a, g1, g3, g2, rfl⟩, ?_⟩
    rw [e1]; unfold encQ plTo; rw [g2]
  · rintro ⟨x, hx, e1⟩
    obtain ⟨a, g1, g2, g3, rfl⟩ := mem_evQ.1 hx
    refine ⟨a.t, (mem_stepL _ _ _ _).2 ⟨a, g1, g3, by rw [g2]; simp, rfl⟩, ?_⟩
    rw [e1]; unfold encQ plTo; rw [g3]
theorem evQ_in (hm : mayB m = true) (hs : mayB s = true) (zm : m.st ≤ 6) (zs : s.st ≤ 4) {e : Int} {y x : Pla} (h : x ∈ evQ m s e y) : x ∈ allQ m s := by
  obtain ⟨a, g1, g2, g3, rfl⟩ := mem_evQ.1 h
  exact plTo_in hm hs zm zs g1
/-- Where a set of pairs leads to at an event. -/
theorem rep_lq (hm : mayB m = true) (hs : mayB s = true) (zm : m.st ≤ 6) (zs : s.st ≤ 4) (he : m.ev = s.ev) {e : Int} (h0 : 0 ≤ e) (h1 : e < m.ev) {S : Nat → Nat} {l : List Pla} (h : Rep S (l.map encQ)) (hl : ∀ x ∈ l, x ∈ allQ m s) : Rep (lqS m.ev.toNat m.arrows s.arrows S e.toNat) ((stepQ m s l e).map encQ) := by
  have hin : ∀ x ∈ stepQ m s l e, x ∈ allQ m s := fun x hx => by
    obtain ⟨y, -, hx⟩ := (mem_stepQ m s l e x).1 hx
    exact evQ_in hm hs zm zs hx
  refine ⟨ok_lqS _ _ _ _ _, enc_bd zm hin, fun k hk => ?_⟩
  unfold lqS
  rw [has_toF, List.mem_map]
  constructor
  · rintro ⟨n, hn, hx⟩
    obtain ⟨n1, n2⟩ := (mem_allS _ _).1 hn
    obtain ⟨y, hy, e1⟩ := List.mem_map.1 ((h.mem n n1).1 n2)
    have e2 : n = (encQ y).toNat := by omega
    rw [e2] at hx
    obtain ⟨x, g1, g2⟩ := (has_lqP hm hs zm zs he h0 h1 (hl y hy) k).1 hx
    exact ⟨x, (mem_stepQ m s l e x).2 ⟨y, hy, g1⟩, g2.symm⟩
  · rintro ⟨x, hx, e1⟩
    obtain ⟨y, hy, g1⟩ := (mem_stepQ m s l e x).1 hx
    have b := enc_at zm (hl y hy)
    refine ⟨(encQ y).toNat, (mem_allS _ _).2 ⟨by omega, (h.mem _ (by omega)).2 ?_⟩, (has_lqP hm hs zm zs he h0 h1 (hl y hy) k).2 ⟨x, g1, e1.symm⟩⟩
    rw [Int.toNat_of_nonneg b.1]
    exact List.mem_map.2 ⟨y, hy, rfl⟩
/-- The first pairs. -/
theorem rep_first (hm : mayB m = true) (hs : mayB s = true) (zm : m.st ≤ 6) (zs : s.st ≤ 4) : Rep (pairsS (ofS m.starts) (ofS s.starts 0)) ((m.starts.map fun x => ((x, s.starts) : Pla)).map encQ) := by
  have r1 := rep_allL (l := m.starts) (fun x hx => by have := (may_starts hm).2 x hx; omega)
  refine ⟨ok_pairs _ _, enc_bd zm (fun x hx => by obtain ⟨y, hy, rfl⟩ := List.mem_map.1 hx; exact start_in hm hs zm zs hy), fun k hk => ?_⟩
  rw [has_pairs r1, List.map_map, List.mem_map]
  constructor
  · rintro ⟨x, hx, e⟩
    exact ⟨x, hx, e.symm⟩
  · rintro ⟨x, hx, e⟩
    exact ⟨x, hx, e.symm⟩
end

/-! What unseen events come to. -/
def nxF (ev : Nat) (A B : List Arr) (R : Nat → Nat) (us : List Nat) : Nat → Nat := toF (fun e => lqS ev A B R e) us
def unsN (ev : Nat) (seen : List Int) : List Nat := (othL ev seen).map Int.toNat
def nxS (ev : Nat) (A B : List Arr) (seen : List Int) (R : Nat → Nat) : Nat → Nat := nxF ev A B R (unsN ev seen)
def frQ (ev : Nat) (A B : List Arr) (seen : List Int) (S R : Nat → Nat) : Nat → Nat := lessS (nxS ev A B seen R) S
/-- S is found, R of it is fresh. -/
def StQ (m s : Mach) (seen : List Int) (l0 : List Pla) (S R : Nat → Nat) : Prop := ∃ F Q : List Pla, Rep S (F.map encQ) ∧ Rep R (Q.map encQ) ∧ (∀ x ∈ F, x ∈ allQ m s) ∧ (∀ x ∈ Q, x ∈ F) ∧ (∀ x ∈ l0, x ∈ F) ∧ (∀ x ∈ F, x ∈ wideQ m s seen l0) ∧ ∀ y ∈ F, ¬ y ∈ Q → ∀ x ∈ unQ m s seen y, x ∈ F
theorem ok_nxF (ev : Nat) (A B : List Arr) (R : Nat → Nat) (us : List Nat) : okS (nxF ev A B R us) := ok_toF (fun e => ok_lqS ev A B R e) us
section
variable {m s : Mach}
theorem StQ.okS {seen : List Int} {l0 : List Pla} {S R : Nat → Nat} (h : StQ m s seen l0 S R) : Proofs.YtmlkpdeidpcidaaDoor.okS S ∧ Proofs.YtmlkpdeidpcidaaDoor.okS R := by
  obtain ⟨F, Q, h1, h2, -⟩ := h
  exact ⟨h1.ok, h2.ok⟩
theorem wideQ_props (hm : mayB m = true) (hs : mayB s = true) (zm : m.st ≤ 6) (zs : s.st ≤ 4) {seen : List Int} {l : List Pla} (hn : l.Nodup) (hu : ∀ x ∈ l, x ∈ allQ m s) (P : Pla → Prop) (hP : ∀ y, P y → ∀ x ∈ unQ m s seen y, P x) (h0 : ∀ x ∈ l, P x) : (∀ x ∈ wideQ m s seen l, P x) ∧ (∀ y ∈ wideQ m s seen l, ∀ x ∈ unQ m s seen y, x ∈ wideQ m s seen l) ∧ ∀ x ∈ l, x ∈ wideQ m s seen l := by
  have hU : ∀ y ∈ allQ m s, ∀ x ∈ unQ m s seen y, x ∈ allQ m s := fun y _ x hx => by
    obtain ⟨a, h1, -, -, rfl⟩ := mem_unQ.1 hx
    exact plTo_in hm hs zm zs h1
  have hf : (allQ m s).length < 1000 := by have := allQ_len zm s; omega
  obtain ⟨k1, k2, k3, k4⟩ := cGo_start (unQ m s seen) (d := ((0, []) : Pla)) hU hn hu hf P hP h0
  exact ⟨fun x hx => (k2 x hx).2, k3, k4⟩
theorem StQ.start (hm : mayB m = true) (hs : mayB s = true) (zm : m.st ≤ 6) (zs : s.st ≤ 4) {seen : List Int} {l0 : List Pla} {S : Nat → Nat} (hn : l0.Nodup) (hu : ∀ x ∈ l0, x ∈ allQ m s) (h : Rep S (l0.map encQ)) : StQ m s seen l0 S S :=
  ⟨l0, l0, h, h, hu, fun x hx => hx, fun x hx => hx, fun x hx => (wideQ_props hm hs zm zs (seen := seen) hn hu (fun _ => True) (fun _ _ _ _ => trivial) (fun _ _ => trivial)).2.2 x hx, fun y hy hn => absurd hy hn⟩
theorem mem_next (hm : mayB m = true) {seen : List Int} {Q : List Pla} (x : Pla) : (∃ e ∈ othL m.ev.toNat seen, x ∈ stepQ m s Q e) ↔ ∃ y ∈ Q, x ∈ unQ m s seen y := by
  have hz := mayB_size hm
  unfold sizeOk at hz
  constructor
  · rintro ⟨e, he, hx⟩
    obtain ⟨y, hy, hx⟩ := (mem_stepQ m s Q e x).1 hx
    obtain ⟨a, g1, g2, g3, rfl⟩ := mem_evQ.1 hx
    exact ⟨y, hy, mem_unQ.2 ⟨a, g1, g2, by rw [g3]; exact ((mem_oth _ _ _).1 he).2, rfl⟩⟩
  · rintro ⟨y, hy, hx⟩
    obtain ⟨a, g1, g2, g3, rfl⟩ := mem_unQ.1 hx
    have ha := may_arrs hm a g1
    unfold arrIn at ha
    exact ⟨a.e, (mem_oth _ _ _).2 ⟨by omega, g3⟩, (mem_stepQ m s Q a.e _).2 ⟨y, hy, mem_evQ.2 ⟨a, g1, g2, rfl, rfl⟩⟩⟩
theorem rep_next (hm : mayB m = true) (hs : mayB s = true) (zm : m.st ≤ 6) (zs : s.st ≤ 4) (he : m.ev = s.ev) {seen : List Int} {R : Nat → Nat} {Q : List Pla} (h : Rep R (Q.map encQ)) (hl : ∀ x ∈ Q, x ∈ allQ m s) : Rep (nxS m.ev.toNat m.arrows s.arrows seen R) ((Q.flatMap (unQ m s seen)).map encQ) := by
  have hz := mayB_size hm
  unfold sizeOk at hz
  have hin : ∀ x ∈ Q.flatMap (unQ m s seen), x ∈ allQ m s := fun x hx => by
    obtain ⟨y, -, hx⟩ := List.mem_flatMap.1 hx
    obtain ⟨a, g1, -, -, rfl⟩ := mem_unQ.1 hx
    exact plTo_in hm hs zm zs g1
  refine ⟨ok_nxF _ _ _ _ _, enc_bd zm hin, fun k hk => ?_⟩
  unfold nxS nxF
  rw [has_toF, List.mem_map]
  constructor
  · rintro ⟨n, hn, hx⟩
    obtain ⟨e, h2, rfl⟩ := List.mem_map.1 hn
    have b := ((mem_oth _ _ _).1 h2).1
    have r := rep_lq hm hs zm zs he b.1 (by omega) h hl
    obtain ⟨x, g1, g2⟩ := List.mem_map.1 ((r.mem k hk).1 hx)
    obtain ⟨y, hy, hx⟩ := (mem_next hm x).1 ⟨e, h2, g1⟩
    exact ⟨x, List.mem_flatMap.2 ⟨y, hy, hx⟩, g2⟩
  · rintro ⟨x, hx, e1⟩
    obtain ⟨y, hy, hx⟩ := List.mem_flatMap.1 hx
    obtain ⟨e, h2, g1⟩ := (mem_next hm x).2 ⟨y, hy, hx⟩
    have b := ((mem_oth _ _ _).1 h2).1
    have r := rep_lq hm hs zm zs he b.1 (by omega) h hl
    exact ⟨e.toNat, List.mem_map.2 ⟨e, h2, rfl⟩, (r.mem k hk).2 (List.mem_map.2 ⟨x, g1, e1⟩)⟩
theorem StQ.next (hm : mayB m = true) (hs : mayB s = true) (zm : m.st ≤ 6) (zs : s.st ≤ 4) (he : m.ev = s.ev) {seen : List Int} {l0 : List Pla} (hn : l0.Nodup) (hu : ∀ x ∈ l0, x ∈ allQ m s) {S R : Nat → Nat} (h : StQ m s seen l0 S R) : StQ m s seen l0 (joinS S (frQ m.ev.toNat m.arrows s.arrows seen S R)) (frQ m.ev.toNat m.arrows s.arrows seen S R) := by
  obtain ⟨F, Q, h1, h2, h3, h4, h5, h6, h7⟩ := h
  have hQ : ∀ x ∈ Q, x ∈ allQ m s := fun x hx => h3 x (h4 x hx)
  have hin : ∀ x ∈ Q.flatMap (unQ m s seen), x ∈ allQ m s := fun x hx => by
    obtain ⟨y, -, hx⟩ := List.mem_flatMap.1 hx
    obtain ⟨a, g1, -, -, rfl⟩ := mem_unQ.1 hx
    exact plTo_in hm hs zm zs g1
  have r1 := rep_lessL (rep_next hm hs zm zs he h2 hQ (seen := seen)) h1
  have hN : ∀ x, x ∈ (Q.flatMap (unQ m s seen)).filter (fun x => decide (¬ x ∈ F)) ↔ (∃ y ∈ Q, x ∈ unQ m s seen y) ∧ ¬ x ∈ F := fun x => by
    rw [List.mem_filter, List.mem_flatMap, decide_eq_true_eq]
  have r2 : Rep (frQ m.ev.toNat m.arrows s.arrows seen S R) (((Q.flatMap (unQ m s seen)).filter (fun x => decide (¬ x ∈ F))).map encQ) := by
    refine rep_same r1 (fun n => ?_)
    rw [List.mem_filter, List.mem_map, List.mem_map, Bool.not_eq_true']
    constructor
    · rintro ⟨⟨x, hx, rfl⟩, hb⟩
      refine ⟨x, List.mem_filter.2 ⟨hx, decide_eq_true (fun hF => ?_)⟩, rfl⟩
      rw [(hasB_iff _ _).2 (List.mem_map.2 ⟨x, hF, rfl⟩)] at hb; cases hb
    · rintro ⟨x, hx, rfl⟩
      obtain ⟨g1, g2⟩ := List.mem_filter.1 hx
      refine ⟨⟨x, g1, rfl⟩, ?_⟩
      cases hb : hasB (F.map encQ) (encQ x) with
      | false => rfl
      | true => exact absurd ((enc_mem zm h3 (hin x g1)).1 ((hasB_iff _ _).1 hb)) (of_decide_eq_true g2)
  obtain ⟨w1, w2, w3⟩ := wideQ_props hm hs zm zs (seen := seen) hn hu (fun _ => True) (fun _ _ _ _ => trivial) (fun _ _ => trivial)
  refine ⟨F ++ (Q.flatMap (unQ m s seen)).filter (fun x => decide (¬ x ∈ F)), (Q.flatMap (unQ m s seen)).filter (fun x => decide (¬ x ∈ F)), ?_, r2, fun x hx => ?_, fun x hx => List.mem_append_right _ hx, fun x hx => List.mem_append_left _ (h5 x hx), fun x hx => ?_, fun y hy hn x hx => ?_⟩
  · rw [List.map_append]; exact rep_joinL h1 r2
  · rcases List.mem_append.1 hx with q | q
    · exact h3 x q
    · exact hin x (List.mem_filter.1 q).1
  · rcases List.mem_append.1 hx with q | q
    · exact h6 x q
    · obtain ⟨⟨y, hy, hx⟩, -⟩ := (hN x).1 q
      exact w2 y (h6 y (h4 y hy)) x hx
  · rcases List.mem_append.1 hy with q | q
    · by_cases hyQ : y ∈ Q
      · by_cases hxF : x ∈ F
        · exact List.mem_append_left _ hxF
        · exact List.mem_append_right _ ((hN x).2 ⟨⟨y, hyQ, hx⟩, hxF⟩)
      · exact List.mem_append_left _ (h7 y q hyQ x hx)
    · exact absurd q hn
theorem StQ.done (hm : mayB m = true) (hs : mayB s = true) (zm : m.st ≤ 6) (zs : s.st ≤ 4) {seen : List Int} {l0 : List Pla} (hn : l0.Nodup) (hu : ∀ x ∈ l0, x ∈ allQ m s) {S R : Nat → Nat} (h : StQ m s seen l0 S R) (he : emptyB R = true) : Rep S ((wideQ m s seen l0).map encQ) := by
  obtain ⟨F, Q, h1, h2, h3, h4, h5, h6, h7⟩ := h
  have hQ : Q = [] := by
    have := empty_yes h2 he
    simpa using this
  subst hQ
  obtain ⟨w1, -, -⟩ := wideQ_props hm hs zm zs (seen := seen) hn hu (fun x => x ∈ F) (fun y hy x hx => h7 y hy (by simp) x hx) h5
  refine rep_same h1 (fun n => ?_)
  rw [List.mem_map, List.mem_map]
  exact ⟨fun ⟨x, hx, e⟩ => ⟨x, h6 x hx, e⟩, fun ⟨x, hx, e⟩ => ⟨x, w1 x hx, e⟩⟩
theorem StQ.msr {seen : List Int} {l0 : List Pla} {S R : Nat → Nat} (h : StQ m s seen l0 S R) (ev : Nat) (A B : List Arr) (he : emptyB R = false) : Proofs.YtmlkpdeidpcidaaDoor.msr (joinS S (frQ ev A B seen S R)) (frQ ev A B seen S R) < Proofs.YtmlkpdeidpcidaaDoor.msr S R := by
  have okF := h.okS.1
  have o1 : Proofs.YtmlkpdeidpcidaaDoor.okS (frQ ev A B seen S R) := okS_less (ok_nxF _ _ _ _ _)
  have hf := allS_filter (F := S) (G := joinS S (frQ ev A B seen S R)) (fun n _ hx => by rw [hasS_join, hx]; rfl)
  have hl2 := allS_len (joinS S (frQ ev A B seen S R))
  unfold Proofs.YtmlkpdeidpcidaaDoor.msr
  rw [he]
  cases hE : emptyB (frQ ev A B seen S R) with
  | true =>
    have : (allS S).length ≤ (allS (joinS S (frQ ev A B seen S R))).length := by rw [hf]; exact List.length_filter_le _ _
    simp
    omega
  | false =>
    obtain ⟨n, hn, hx⟩ := empty_not o1 hE
    have : (allS S).length < (allS (joinS S (frQ ev A B seen S R))).length := by
      rw [hf]
      apply List.length_filter_lt_length_iff_exists.2
      refine ⟨n, (mem_allS _ _).2 ⟨hn, by rw [hasS_join, hx]; simp⟩, ?_⟩
      have := hx
      unfold frQ at this
      rw [hasS_less okF, Bool.and_eq_true] at this
      have h2 : hasS S n = false := by simpa using this.2
      rw [h2]; simp
    simp
    omega
end

end Go.Proofs.YtmlkpdeidpcidaaDoor
namespace Go.Proofs.YtmlkpdeidpcidaaDoor
open Go.RowKit
set_option linter.unusedVariables false

theorem rngI_snoc (k : Nat) : rngI (k + 1) = rngI k ++ [(k : Int)] := by unfold rngI; rw [List.range_succ, List.map_append]; rfl
theorem oth_hit {l : List Int} {k : Nat} (h : hasB l (k : Int) = false) : othL (k + 1) l = othL k l ++ [(k : Int)] := by
  unfold othL
  rw [rngI_snoc, List.filter_append, List.filter_cons_of_pos (by rw [h]; rfl), List.filter_nil]
theorem oth_miss {l : List Int} {k : Nat} (h : hasB l (k : Int) = true) : othL (k + 1) l = othL k l := by
  unfold othL
  rw [rngI_snoc, List.filter_append, List.filter_cons_of_neg (by rw [h]; simp), List.filter_nil, List.append_nil]
theorem oth_len (k : Nat) (l : List Int) : (othL k l).length ≤ k := by
  unfold othL
  refine Nat.le_trans (List.length_filter_le _ _) ?_
  unfold rngI; simp

set_option maxHeartbeats 2000000 in
set_option maxRecDepth 100000 in
theorem others_any (ev : Nat) (a : Option Addr) (cap : Nat) (xs : List Int) (w : World) (he : ev ≤ 8) (hs : At w a xs) (hl : xs.length ≤ maxLen) :
    Calls Tryd.prog 143 #[.int .i64 ev, .slice a xs.length cap] w fun e w' => ∃ v, e = .returned v ∧ Own w' w.heap.size v (othL ev xs) ∧ Below w.heap.size w w' := by
  obtain ⟨i0, hi, hz0, hz1, hz2⟩ := info_parts Tryd.infoInt
  have HS := Hid.of hs
  have HL := Hid.of hl
  clear hs hl
  go_enter Tryd.func143, Tryd.ntmps143
  go_wp2
  go_loopw [5, 8] (fun v i wr => ∃ k : Nat, k ≤ ev ∧ i = .int .i64 k ∧ Own wr w.heap.size v (othL k xs) ∧ Below w.heap.size w wr) (fun _ i _ => ev - (intOf i).toNat)
  case atStart => exact ⟨0, Nat.zero_le _, rfl, own_nil _ _, Below.refl _ _⟩
  case round =>
    obtain ⟨k, hk, rfl, hown, hbel⟩ := hrel
    by_cases hlt : k < ev
    · have hll := oth_len k xs
      have hsz := hbel.size
      have hat := Hid.of (HS.out.below hbel (Nat.le_refl _))
      go_wp2_with fail
      refine (rowHas_any a cap xs k _ hat.out HL.out).mono ?_
      rintro e w1 ⟨rfl, rfl⟩
      by_cases hh : hasB xs (k : Int) = true
      · have r1 := hown
        rw [← oth_miss hh] at r1
        rw [hh]
        clear hown hh
        go_wp2
        go_roundw
        case rel => exact ⟨k + 1, by omega, by go_num, r1, hbel⟩
        case measure => simp [intOf]; omega
      · have hh : hasB xs (k : Int) = false := by simpa using hh
        have HH : Hid (hasB xs (k : Int) = false) := hh
        rw [hh]
        clear hh
        go_wp2_with (at_builtin; refine wpList_append_own _ rfl _ _ 22 rfl w.heap.size 3 i0 (.int .i64 0) 1 8 Tryd.underlying22 hi hz0 hz1 hz2 rfl (by decide) _ _ _ rfl (World.ownsRow.alloc hown _) ⟨w1.heap.size, 0, none⟩ 1 1 [.int .i64 (k : Int)] rfl rfl (cell_one_new _ _ _) (by intro u hu; simp at hu; subst hu; rfl) (by unfold maxLen; omega) (by omega) (by simp; omega) ?_)
        intro v' w2 hown' hgrow _
        obtain ⟨r1, r2, -⟩ := own_snoc hown hbel hsz hown' hgrow
        rw [← oth_hit HH.out] at r1
        clear hown' hgrow hown
        go_wp2
        go_roundw
        case rel => exact ⟨k + 1, by omega, by go_num, r1, r2⟩
        case measure => simp [intOf]; omega
    · have hke : k = ev := by omega
      subst hke
      go_wp2
      go_ret
      exact ⟨_, rfl, hown, hbel⟩

end Go.Proofs.YtmlkpdeidpcidaaDoor
namespace Go.Proofs.YtmlkpdeidpcidaaDoor
open Go.RowKit
set_option linter.unusedVariables false

theorem results_twoS {fn : Func} {p u : Tmp} (h : fn.results = #[.cell p 85, .cell u 85]) (tmps : Array Value) (w : World) (g k : Nat) (S T : Nat → Nat) (hp : tmps.getD p undef = .pointer (some ⟨g, 0, none⟩)) (hu : tmps.getD u undef = .pointer (some ⟨k, 0, none⟩)) (hB : SB w g S) (hC : SB w k T) :
    (results fn tmps).run Tryd.prog w = .ok (.tuple #[sval S, sval T]) w := by
  obtain ⟨x0, x1, x2, x3⟩ := SB.cells hB
  obtain ⟨y0, y1, y2, y3⟩ := SB.cells hC
  have e : (results fn tmps).run Tryd.prog w = ((asAddr (tmps.getD p undef)).run Tryd.prog w).andThen fun a w₁ => ((loadVar 85 a).run Tryd.prog w₁).andThen fun r w₂ => ((asAddr (tmps.getD u undef)).run Tryd.prog w₂).andThen fun b w₃ => ((loadVar 85 b).run Tryd.prog w₃).andThen fun r' w₄ => .ok (.tuple #[r, r']) w₄ := by
    simp only [results, h]
    simp [Sem.run_bind, Result.andThen]
  rw [e, hp, hu]
  go_simp

set_option maxHeartbeats 4000000 in
set_option maxRecDepth 100000 in
theorem pairOf_any (n : Nat) (hn : n < 256) (w : World) :
    Calls Tryd.prog 182 #[.int .i64 n] w fun e w' => e = .returned (.tuple #[sval (withS zeroS (n / 16)), sval (oneW (n % 16))]) ∧ Below w.heap.size w w' := by
  obtain ⟨q, hq⟩ : ∃ q, q = n / 16 := ⟨_, rfl⟩
  obtain ⟨r, hr⟩ : ∃ r, r = n % 16 := ⟨_, rfl⟩
  have hq1 : (n : Int).tdiv 16 = (q : Int) := by rw [Int.tdiv_eq_ediv_of_nonneg (by omega)]; omega
  have hr1 : (n : Int).tmod 16 = (r : Int) := by rw [Int.tmod_eq_emod_of_nonneg (by omega)]; omega
  have hq2 : q < 256 := by omega
  have hr2 : r < 16 := by omega
  have hw1 : IntKind.i64.wrap (q : Int) = (q : Int) := by rw [IntKind.wrap_i64]; omega
  have hw2 : IntKind.i64.wrap (r : Int) = (r : Int) := by rw [IntKind.wrap_i64]; omega
  have hw3 : IntKind.u64.wrap (r : Int) = (r : Int) := by rw [IntKind.wrap_u64]; omega
  rw [← hq, ← hr]
  clear hq hr
  have B0 : Hid (Below w.heap.size w ((w.alloc (.cells #[.int .u64 0, .int .u64 0, .int .u64 0, .int .u64 0] 85)).alloc (.cells #[.int .u64 0, .int .u64 0, .int .u64 0, .int .u64 0] 85))) := ((Below.refl _ _).alloc (Nat.le_refl _) _).alloc (by simp) _
  have K0 : Hid (SB ((w.alloc (.cells #[.int .u64 0, .int .u64 0, .int .u64 0, .int .u64 0] 85)).alloc (.cells #[.int .u64 0, .int .u64 0, .int .u64 0, .int .u64 0] 85)) w.heap.size zeroS) := (Blk.new w _ _).alloc _
  have R0 : Hid (SB ((w.alloc (.cells #[.int .u64 0, .int .u64 0, .int .u64 0, .int .u64 0] 85)).alloc (.cells #[.int .u64 0, .int .u64 0, .int .u64 0, .int .u64 0] 85)) (w.heap.size + 1) zeroS) := by
    have := Blk.new (w.alloc (.cells #[.int .u64 0, .int .u64 0, .int .u64 0, .int .u64 0] 85)) 85 (scells zeroS)
    rwa [World.size_alloc] at this
  go_enter Tryd.func182, Tryd.ntmps182
  go_wp2_with fail
  revert B0 K0 R0
  generalize (w.alloc (.cells #[.int .u64 0, .int .u64 0, .int .u64 0, .int .u64 0] 85)).alloc (.cells #[.int .u64 0, .int .u64 0, .int .u64 0, .int .u64 0] 85) = V
  intro B0 K0 R0
  refine (with_any zeroS (q : Int) V okS_zero (by omega) (by omega)).mono ?_
  rintro e V1 ⟨rfl, hb⟩
  rw [Int.toNat_natCast]
  replace B0 := Hid.of (B0.out.trans (hb.mono B0.out.size))
  replace K0 := Hid.of (K0.out.below hb K0.out.lt)
  replace R0 := Hid.of (R0.out.below hb R0.out.lt)
  clear hb
  obtain ⟨Q, HQ⟩ : ∃ Q, Hid (Q = withS zeroS q) := ⟨_, rfl⟩
  rw [← HQ.out]
  have rz := K0.out.frozen
  obtain ⟨r0, r1, r2, r3⟩ := SB.cells K0.out
  have KK := Hid.of (SB.set4 K0.out Q)
  have RR := Hid.of (Blk.other4 R0.out (b' := w.heap.size) (by omega) (.int .u64 (Q 0)) (.int .u64 (Q 1)) (.int .u64 (Q 2)) (.int .u64 (Q 3)))
  have BB := Hid.of (below_set4 B0.out (b' := w.heap.size) (Nat.le_refl _) (.int .u64 (Q 0)) (.int .u64 (Q 1)) (.int .u64 (Q 2)) (.int .u64 (Q 3)))
  have sz := RR.out.frozen
  obtain ⟨s0, s1, s2, s3⟩ := SB.cells RR.out
  have RF := Hid.of (SB.set4 RR.out (oneW r))
  have KF := Hid.of (Blk.other4 KK.out (b' := w.heap.size + 1) (by omega) (.int .u64 (oneW r 0)) (.int .u64 (oneW r 1)) (.int .u64 (oneW r 2)) (.int .u64 (oneW r 3)))
  have BF := Hid.of (below_set4 BB.out (b' := w.heap.size + 1) (by omega) (.int .u64 (oneW r 0)) (.int .u64 (oneW r 1)) (.int .u64 (oneW r 2)) (.int .u64 (oneW r 3)))
  clear K0 R0 B0 KK RR BB
  go_wp2_with fail
  exact bodyPost_ret (v := .tuple #[sval Q, sval (oneW r)]) (results_twoS (p := 2) (u := 3) rfl _ _ w.heap.size (w.heap.size + 1) Q (oneW r) rfl rfl KF.out RF.out) rfl ⟨by rw [HQ.out], BF.out⟩

end Go.Proofs.YtmlkpdeidpcidaaDoor
namespace Go.Proofs.YtmlkpdeidpcidaaDoor
open Go.RowKit Go.Shelf
set_option linter.unusedVariables false
attribute [local go_sem] Oper.semAt_some

set_option maxRecDepth 100000 in
set_option maxHeartbeats 4000000 in
theorem pairs_in (S T : Nat → Nat) (hS : okS S) (hall : ∀ k ∈ allS S, k < 15) (hb16 : T 0 < 16) (w : World) (hT : Tab w) :
    CallsIn Fence.wide 5 Tryd.prog 144 #[sval S, sval T] w fun e W' => e = .returned (sval (pairsS S (T 0))) ∧ Below w.heap.size w W' := by
  obtain ⟨xs, hxs⟩ := nb_of (N := 15) (allS S) hall
  clear hall
  refine callsIn_of_wp_marks Tryd.func144 rfl trivial ?_ rfl
  simp only [Tryd.ntmps144, List.size_toArray, List.length_cons, List.length_nil, Nat.reduceAdd, Nat.reduceSub, Array.replicate_succ, Array.replicate_zero, List.push_toArray, List.append_toArray, List.nil_append, List.cons_append]
  gi_wp2_with (refine ⟨trivial, ?_⟩; refine CallsIn.mono (callsIn_wide.2 (all_any S _)) ?_; rintro e w1 ⟨rfl, rfl⟩)
  have hB0 : Below w.heap.size w (((((w.alloc (.cells (scells S) 85)).alloc (.cells (scells T) 85)).alloc (.cells #[.int .u64 0, .int .u64 0, .int .u64 0, .int .u64 0] 85)).alloc (.cells #[.int .u64 0, .int .u64 0, .int .u64 0, .int .u64 0] 85)).alloc (.cells (scells S) 85)) := (((((Below.refl _ _).alloc (Nat.le_refl _) _).alloc (by simp) _).alloc (by simp; omega) _).alloc (by simp; omega) _).alloc (by simp; omega) _
  have bX : SB (((((w.alloc (.cells (scells S) 85)).alloc (.cells (scells T) 85)).alloc (.cells #[.int .u64 0, .int .u64 0, .int .u64 0, .int .u64 0] 85)).alloc (.cells #[.int .u64 0, .int .u64 0, .int .u64 0, .int .u64 0] 85)).alloc (.cells (scells S) 85)) (w.heap.size + 1) T := by
    have := ((((Blk.new (w.alloc (.cells (scells S) 85)) 85 (scells T)).alloc (.cells #[.int .u64 0, .int .u64 0, .int .u64 0, .int .u64 0] 85)).alloc (.cells #[.int .u64 0, .int .u64 0, .int .u64 0, .int .u64 0] 85)).alloc (.cells (scells S) 85))
    rwa [World.size_alloc] at this
  have bR : SB (((((w.alloc (.cells (scells S) 85)).alloc (.cells (scells T) 85)).alloc (.cells #[.int .u64 0, .int .u64 0, .int .u64 0, .int .u64 0] 85)).alloc (.cells #[.int .u64 0, .int .u64 0, .int .u64 0, .int .u64 0] 85)).alloc (.cells (scells S) 85)) (w.heap.size + 1 + 1) zeroS := by
    have := (((Blk.new ((w.alloc (.cells (scells S) 85)).alloc (.cells (scells T) 85)) 85 #[.int .u64 0, .int .u64 0, .int .u64 0, .int .u64 0]).alloc (.cells #[.int .u64 0, .int .u64 0, .int .u64 0, .int .u64 0] 85)).alloc (.cells (scells S) 85))
    rwa [World.size_alloc, World.size_alloc] at this
  have bO : SB (((((w.alloc (.cells (scells S) 85)).alloc (.cells (scells T) 85)).alloc (.cells #[.int .u64 0, .int .u64 0, .int .u64 0, .int .u64 0] 85)).alloc (.cells #[.int .u64 0, .int .u64 0, .int .u64 0, .int .u64 0] 85)).alloc (.cells (scells S) 85)) (w.heap.size + 1 + 1 + 1) zeroS := by
    have := ((Blk.new (((w.alloc (.cells (scells S) 85)).alloc (.cells (scells T) 85)).alloc (.cells #[.int .u64 0, .int .u64 0, .int .u64 0, .int .u64 0] 85)) 85 #[.int .u64 0, .int .u64 0, .int .u64 0, .int .u64 0]).alloc (.cells (scells S) 85))
    rwa [World.size_alloc, World.size_alloc, World.size_alloc] at this
  have bN : SB (((((w.alloc (.cells (scells S) 85)).alloc (.cells (scells T) 85)).alloc (.cells #[.int .u64 0, .int .u64 0, .int .u64 0, .int .u64 0] 85)).alloc (.cells #[.int .u64 0, .int .u64 0, .int .u64 0, .int .u64 0] 85)).alloc (.cells (scells S) 85)) (w.heap.size + 1 + 1 + 1 + 1) S := by
    have := (Blk.new ((((w.alloc (.cells (scells S) 85)).alloc (.cells (scells T) 85)).alloc (.cells #[.int .u64 0, .int .u64 0, .int .u64 0, .int .u64 0] 85)).alloc (.cells #[.int .u64 0, .int .u64 0, .int .u64 0, .int .u64 0] 85)) 85 (scells S))
    rwa [World.size_alloc, World.size_alloc, World.size_alloc, World.size_alloc] at this
  have hsz0 : (((((w.alloc (.cells (scells S) 85)).alloc (.cells (scells T) 85)).alloc (.cells #[.int .u64 0, .int .u64 0, .int .u64 0, .int .u64 0] 85)).alloc (.cells #[.int .u64 0, .int .u64 0, .int .u64 0, .int .u64 0] 85)).alloc (.cells (scells S) 85)).heap.size = w.heap.size + 5 := by simp
  revert hB0 bX bR bO bN hsz0
  generalize (((((w.alloc (.cells (scells S) 85)).alloc (.cells (scells T) 85)).alloc (.cells #[.int .u64 0, .int .u64 0, .int .u64 0, .int .u64 0] 85)).alloc (.cells #[.int .u64 0, .int .u64 0, .int .u64 0, .int .u64 0] 85)).alloc (.cells (scells S) 85)) = W0
  intro hB0 bX bR bO bN hsz0
  have hT0 := hT.below hB0 hT.lt
  have hw0 := hT.lt
  refine wpIn_rangeFunc_ownG rfl (by omega) (gf := 164) (lb := #[.pointer (some ⟨w.heap.size + 1 + 1 + 1 + 1, 0, none⟩)]) rfl trivial (enters_of Tryd.func164 (by kernel_rfl) rfl)
    (all_stops 4 (by omega) (w.heap.size + 1 + 1 + 1 + 1) (w.heap.size + 3) S hS xs hxs (by omega) W0 (by omega) bN hT0) belowK_t (belowK_b (by omega)) (Below.refl _ _) (fun _ => rfl)
    (fun pre W' => SB W' (w.heap.size + 1 + 1 + 1) (prsF (T 0) (nbNats pre)) ∧ Below (w.heap.size + 3) W0 W')
    (fun _ _ _ => False)
    (OwnFrom.and (Go.Own.from (own_SB (w.heap.size + 1 + 1 + 1) (fun pre : List (NB 15) => prsF (T 0) (nbNats pre))) _) (ownFrom_below (by omega) (by omega)))
    (fun _ _ _ _ _ hs _ _ => hs)
    ⟨bO, Below.refl _ _⟩
    (fun x => { tmps := #[sval S, sval T, .pointer (some ⟨w.heap.size, 0, none⟩), .pointer (some ⟨w.heap.size + 1, 0, none⟩), .pointer (some ⟨w.heap.size + 1 + 1, 0, none⟩), .pointer (some ⟨w.heap.size + 1 + 1 + 1, 0, none⟩), .int .i64 (x.1 : Int), sval S, .func (.func 164) #[] #[.pointer (some ⟨w.heap.size + 1 + 1 + 1 + 1, 0, none⟩)], .int .i64 (x.1 : Int), undef, undef, undef, undef, undef, undef, undef, undef, undef], defers := [] }) ?assign ?body ?done ?stop
  case assign =>
    intro l x W K hK
    gi_wp2
    exact hK
  case body =>
    rintro l' pre x W' ⟨hO, hB'⟩ hlt
    have hXW := bX.below hB' (by omega)
    obtain ⟨c1, -, -, -⟩ := SB.cells hXW
    have hx := x.2
    obtain ⟨n, hn⟩ : ∃ n, Hid (n = x.1) := ⟨_, rfl⟩
    rw [← hn.out] at hx ⊢
    obtain ⟨b, hbT⟩ : ∃ b, Hid (b = T 0) := ⟨_, rfl⟩
    rw [← hbT.out] at hb16 c1
    obtain ⟨q, hq⟩ : ∃ q, q = n * 16 := ⟨_, rfl⟩
    obtain ⟨p, hp⟩ : ∃ p, p = n * 16 + b := ⟨_, rfl⟩
    have hw1 : IntKind.i64.wrap ((n : Int) * 16) = (q : Int) := by rw [IntKind.wrap_i64]; omega
    have hw2 : IntKind.i64.wrap (b : Int) = (b : Int) := by rw [IntKind.wrap_i64]; omega
    have hw3 : IntKind.i64.wrap ((q : Int) + (b : Int)) = (p : Int) := by rw [IntKind.wrap_i64]; omega
    have hp1 : p < 256 := by omega
    have HP := Hid.of hp
    clear hp hq
    obtain ⟨o0, o1, o2, o3⟩ := hO.cells
    have hOk : Hid (okS (prsF (T 0) (nbNats pre))) := ok_prsF _ _
    have HX : Hid (prsF (T 0) (nbNats (pre ++ [x])) = withS (prsF (T 0) (nbNats pre)) p) := by show _ = _; rw [nbNats_snoc, prsF_snoc, HP.out, hn.out, hbT.out]
    have HB := Hid.of hB'
    have HO := Hid.of hO
    clear hXW hB' hO
    generalize prsF (T 0) (nbNats pre) = O at *
    gi_wp2_with (refine ⟨trivial, ?_⟩; refine CallsIn.mono (CallsIn.inRound l' (callsIn_wide.2 (with_any O (p : Int) _ hOk.out (by omega) (by omega)))) ?_; rw [Int.toNat_natCast]; rintro e' w1 ⟨rfl, hb1⟩; have hO1 := Blk.below HO.out hb1 HO.out.lt; obtain ⟨y0, y1, y2, y3⟩ := SB.cells hO1; have fO1 := Blk.frozen hO1)
    all_goals
      have k1 : KeepsOthers W' w1 := ⟨hb1.size, fun k o hk _ => (hb1.block k (Array.getElem?_eq_some_iff.1 hk).1).trans hk⟩
      have k2 : Below (w.heap.size + 3) W' w1 := hb1.mono (Nat.le_of_lt HO.out.lt)
      have k3 := below_set4 k2 (b' := w.heap.size + 1 + 1 + 1) (Nat.le_refl _) (.int .u64 (withS O p 0)) (.int .u64 (withS O p 1)) (.int .u64 (withS O p 2)) (.int .u64 (withS O p 3))
      exact ⟨((((k1.trans (KeepsOthers.setCell _ _ _)).trans (KeepsOthers.setCell _ _ _)).trans (KeepsOthers.setCell _ _ _)).trans (KeepsOthers.setCell _ _ _)).from _, k3, by rw [HX.out]; exact SB.set4 hO1 _, HB.out.trans k3⟩
  case done =>
    rintro D ys W' hD rfl ⟨hO, hB'⟩ hK
    have hBW : Below w.heap.size w W' := hB0.trans (hB'.mono (by omega))
    obtain ⟨o0, o1, o2, o3⟩ := hO.cells
    have HQ : Hid (prsF (T 0) (nbNats ys) = pairsS S (T 0)) := by show _ = _; unfold pairsS; rw [← hxs]; rfl
    have hres := bR.below hB' (by omega)
    obtain ⟨r0, r1, r2, r3⟩ := SB.cells hres
    have rz := hres.frozen
    have k2 := Hid.of (SB.set4 hres (prsF (T 0) (nbNats ys)))
    have k3 := Hid.of (below_set4 hBW (b' := w.heap.size + 1 + 1) (by omega) (.int .u64 (prsF (T 0) (nbNats ys) 0)) (.int .u64 (prsF (T 0) (nbNats ys) 1)) (.int .u64 (prsF (T 0) (nbNats ys) 2)) (.int .u64 (prsF (T 0) (nbNats ys) 3)))
    have hMk : Marks w.heap.size [D] W' := by
      refine ⟨fun D' hD' => ?_, by simp⟩
      have e : D' = D := by simpa using hD'
      rw [e]
      exact ⟨by omega, hK⟩
    have k4 := Hid.of (hMk.other4 hres (prsF (T 0) (nbNats ys)))
    clear hMk
    clear hO hBW hB' hres hK
    generalize prsF (T 0) (nbNats ys) = O at *
    gi_wp2
    refine leaves_marks (B := w.heap.size) (fun W => SB W (w.heap.size + 1 + 1) O ∧ Below w.heap.size w W) ?hJ ?hfin [D] _ k4.out ⟨k2.out, k3.out⟩
    case hJ =>
      rintro W D ⟨h1, h2⟩ hD hk
      refine ⟨(World.putObj_heap_other (fun e => ?_)).trans h1, h2.trans (belowK_b (w := w) (Nat.le_refl _) W D _ _ hD hk rfl rfl)⟩
      have h3 : W.heap[w.heap.size + 1 + 1]? = _ := h1
      rw [e, hk] at h3
      cases h3
    case hfin =>
      rintro W ⟨h1, h2⟩
      exact ⟨_, results_cell_row (g := w.heap.size + 1 + 1) (p := 4) rfl _ _ _ _ _ _ rfl h1 Tryd.underlying85 rfl (by kernel_rfl), by rw [← HQ.out], h2⟩
  case stop =>
    rintro D c pre W _ _ h _
    exact h.elim

theorem pairs_any (S T : Nat → Nat) (hS : okS S) (hall : ∀ k ∈ allS S, k < 15) (hb16 : T 0 < 16) (w : World) (hT : Tab w) :
    Calls Tryd.prog 144 #[sval S, sval T] w fun e W' => e = .returned (sval (pairsS S (T 0))) ∧ Below w.heap.size w W' :=
  callsIn_wide.1 (pairs_in S T hS hall hb16 w hT)

end Go.Proofs.YtmlkpdeidpcidaaDoor
