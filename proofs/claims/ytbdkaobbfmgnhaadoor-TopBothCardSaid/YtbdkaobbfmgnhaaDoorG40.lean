/-
  The walks of the three closures of row.Join, row.Meet and row.Less.
  The walk of row.Join.
  The walk of jalousietop.all.
  Plain: the table of where the states of a machine lead to, as package beside fills it. No program, no model.
  Package beside's table of where the states of a machine lead to, in a world: rows of integers, each in its own block.
  The walk of beside.leads.
  The walk of finder.spread.
-/
import Derived.Test.YtbdkaobbfmgnhaaDoorG37
import Derived.Test.YtbdkaobbfmgnhaaDoorG38
import Derived.Test.YtbdkaobbfmgnhaaDoorG14
import Derived.Test.YtbdkaobbfmgnhaaDoorG04
import Derived.Test.YtbdkaobbfmgnhaaDoorG28
import Derived.Test.YtbdkaobbfmgnhaaDoorG39
import Derived.Test.YtbdkaobbfmgnhaaDoorG08
namespace Go.Proofs.YtbdkaobbfmgnhaaDoor
open Go.RowKit
set_option linter.unusedVariables false

set_option maxHeartbeats 1000000 in
theorem join_stays (w : World) (B : Nat) (a1 : Option Addr) (c1 : Nat) (xs : List Int) (a2 : Option Addr) (c2 : Nat) (ys : List Int) (n : Int) (hi : Hid (Inc xs)) (hj : Hid (Inc ys)) (h : PI w B a1 c1 xs a2 c2 ys n) :
    Calls Tryd.prog 102 #[.int .i64 n, .pointer (some ⟨B + 4, 0, none⟩), .pointer (some ⟨B + 5, 0, none⟩)] w fun e w' => e = .returned (.bool (hasB xs n || hasB ys n)) ∧ PI w' B a1 c1 xs a2 c2 ys n ∧ Kept (fun k => k ≠ B + 1 ∧ k ≠ B + 3) w w' := by
  have hqa := h.qa
  obtain ⟨k1, f1⟩ := h.f1
  by_cases hx : hasB xs n = false
  · have HX : Hid (hasB xs n = false) := hx
    go_enter Tryd.func102, Tryd.ntmps102
    go_wp2_with fail
    refine (rowFind_any _ _ _ _ _ _ xs n k1 hi f1).mono ?_
    rintro e w1 ⟨rfl, h1, hk1⟩
    have p1 := h.first h1 hk1
    have hqb := p1.qb
    obtain ⟨k2, f2⟩ := p1.f2
    clear hqa h1
    go_wp2_with fail
    refine (rowFind_any _ _ _ _ _ _ ys n k2 hj f2).mono ?_
    rintro e w2 ⟨rfl, h2, hk2⟩
    have p2 := p1.second h2 hk2
    clear hqb h2
    go_wp2
    go_ret
    exact ⟨ret_bool (by rw [HX.out]; simp), p2, (hk1.mono (fun k h => h.1)).trans (hk2.mono (fun k h => h.2))⟩
  · have hx : hasB xs n = true := by simpa using hx
    have HX : Hid (hasB xs n = true) := hx
    go_enter Tryd.func102, Tryd.ntmps102
    go_wp2_with fail
    refine (rowFind_any _ _ _ _ _ _ xs n k1 hi f1).mono ?_
    rintro e w1 ⟨rfl, h1, hk1⟩
    have p1 := h.first h1 hk1
    clear hqa h1
    go_wp2
    go_ret
    exact ⟨ret_bool (by rw [HX.out]; simp), p1, hk1.mono (fun k h => h.1)⟩

end Go.Proofs.YtbdkaobbfmgnhaaDoor
namespace Go.Proofs.YtbdkaobbfmgnhaaDoor
open Go.RowKit
set_option linter.unusedVariables false

/-- The world in which pick is called: two lists, their places, the two closures. -/
abbrev jw (w : World) (a1 : Option Addr) (n1 c1 : Nat) (a2 : Option Addr) (n2 c2 : Nat) : World :=
  (((((w.alloc (.cells #[.slice a1 n1 c1] 22)).alloc (.cells #[.int .i64 0] 3)).alloc (.cells #[.slice a2 n2 c2] 22)).alloc (.cells #[.int .i64 0] 3)).alloc (.cells #[.func (.func 130) #[] #[.pointer (some ⟨w.heap.size + 1, 0, none⟩), .pointer (some ⟨w.heap.size, 0, none⟩)]] 120)).alloc
    (.cells #[.func (.func 130) #[] #[.pointer (some ⟨w.heap.size + 1 + 1 + 1, 0, none⟩), .pointer (some ⟨w.heap.size + 1 + 1, 0, none⟩)]] 120)

theorem jw_below (w : World) (a1 : Option Addr) (n1 c1 : Nat) (a2 : Option Addr) (n2 c2 : Nat) : Below w.heap.size w (jw w a1 n1 c1 a2 n2 c2) :=
  ((((((Below.refl _ _).alloc (Nat.le_refl _) _).alloc (by simp) _).alloc (by simp; omega) _).alloc (by simp; omega) _).alloc (by simp; omega) _).alloc (by simp; omega) _

theorem jw_size (w : World) (a1 : Option Addr) (n1 c1 : Nat) (a2 : Option Addr) (n2 c2 : Nat) : (jw w a1 n1 c1 a2 n2 c2).heap.size = w.heap.size + 6 := by simp [jw]

theorem pi_new (w : World) (a1 : Option Addr) (c1 : Nat) (xs : List Int) (a2 : Option Addr) (c2 : Nat) (ys : List Int) (n : Int) (h1 : At w a1 xs) (h2 : At w a2 ys) (l1 : xs.length ≤ maxLen) (l2 : ys.length ≤ maxLen) : PI (jw w a1 xs.length c1 a2 ys.length c2) w.heap.size a1 c1 xs a2 c2 ys n := by
  have f1 := fi_new w w.heap.size a1 c1 xs n h1.atB (Nat.le_refl _) l1
  have kw : Kept (fun k => k < w.heap.size) w ((w.alloc (.cells #[.slice a1 xs.length c1] 22)).alloc (.cells #[.int .i64 0] 3)) := (kept_alloc w _ (fun _ h => h)).trans (kept_alloc _ _ (fun k h => by simp; omega))
  have f2 := fi_new _ w.heap.size a2 c2 ys n (h2.atB.kept kw (fun _ h => h)) (by simp; omega) l2
  refine ⟨⟨0, f1.kept (K := fun k => k < w.heap.size + 2) ?_ (by omega) (by omega) (fun k h => by omega)⟩, ⟨0, ?_⟩, ?_, ?_⟩
  · exact (((kept_alloc _ _ (fun k h => by simp; omega)).trans (kept_alloc _ _ (fun k h => by simp; omega))).trans (kept_alloc _ _ (fun k h => by simp; omega))).trans (kept_alloc _ _ (fun k h => by simp; omega))
  · have f2' := f2.kept (K := fun k => k < w.heap.size + 4) ((kept_alloc _ (.cells #[.func (.func 130) #[] #[.pointer (some ⟨w.heap.size + 1, 0, none⟩), .pointer (some ⟨w.heap.size, 0, none⟩)]] 120) (fun k h => by simp; omega)).trans (kept_alloc _ (.cells #[.func (.func 130) #[] #[.pointer (some ⟨w.heap.size + 1 + 1 + 1, 0, none⟩), .pointer (some ⟨w.heap.size + 1 + 1, 0, none⟩)]] 120) (fun k h => by simp; omega))) (by simp) (by simp) (fun k h => by omega)
    simpa using f2'
  · rw [World.cell?_alloc_past _ _ _ (by simp), World.cell?_alloc_at _ _ _ _ (by simp)]; rfl
  · rw [World.cell?_alloc_at _ _ _ _ (by simp)]; rfl

theorem join_at (w : World) (a1 : Option Addr) (c1 : Nat) (xs : List Int) (a2 : Option Addr) (c2 : Nat) (ys : List Int) (h1 : At w a1 xs) (h2 : At w a2 ys) (k1 : xs.length ≤ c1) (k2 : ys.length ≤ c2) (m1 : c1 ≤ maxLen) (m2 : c2 ≤ maxLen) (hx : Hid (rowB 2147483648 xs = true)) (hy : Hid (rowB 2147483648 ys = true)) :
    Calls Tryd.prog 101 #[.slice a1 xs.length c1, .slice a2 ys.length c2, .func (.func 102) #[] #[.pointer (some ⟨w.heap.size + 1 + 1 + 1 + 1, 0, none⟩), .pointer (some ⟨w.heap.size + 1 + 1 + 1 + 1 + 1, 0, none⟩)]] (jw w a1 xs.length c1 a2 ys.length c2) fun e w' => ∃ v, e = .returned (.tuple #[v, .int .i64 0]) ∧ Own w' (w.heap.size + 6) v ((uni xs ys).filter fun n => hasB xs n || hasB ys n) ∧ Below w.heap.size (jw w a1 xs.length c1 a2 ys.length c2) w' :=
  join_pick (jw w a1 xs.length c1 a2 ys.length c2) w.heap.size a1 c1 xs a2 c2 ys (fun n => hasB xs n || hasB ys n) (fun w n h => join_stays w _ a1 c1 xs a2 c2 ys n (rowB_inc hx.out) (rowB_inc hy.out) h) (pi_new w a1 c1 xs a2 c2 ys (-1) h1 h2 (by omega) (by omega))
    (h1.atB.kept (K := fun k => k < w.heap.size) ⟨(jw_below w a1 xs.length c1 a2 ys.length c2).os, (jw_below w a1 xs.length c1 a2 ys.length c2).tape, (jw_below w a1 xs.length c1 a2 ys.length c2).output, (jw_below w a1 xs.length c1 a2 ys.length c2).size, (jw_below w a1 xs.length c1 a2 ys.length c2).block⟩ (fun _ h => h))
    (h2.atB.kept (K := fun k => k < w.heap.size) ⟨(jw_below w a1 xs.length c1 a2 ys.length c2).os, (jw_below w a1 xs.length c1 a2 ys.length c2).tape, (jw_below w a1 xs.length c1 a2 ys.length c2).output, (jw_below w a1 xs.length c1 a2 ys.length c2).size, (jw_below w a1 xs.length c1 a2 ys.length c2).block⟩ (fun _ h => h))
    k1 k2 m1 m2 (by rw [jw_size]; exact Nat.le_refl _) hx hy

set_option maxHeartbeats 400000 in
theorem join_yes (w : World) (a1 : Option Addr) (c1 : Nat) (xs : List Int) (a2 : Option Addr) (c2 : Nat) (ys : List Int) (h1 : At w a1 xs) (h2 : At w a2 ys) (k1 : xs.length ≤ c1) (k2 : ys.length ≤ c2) (m1 : c1 ≤ maxLen) (m2 : c2 ≤ maxLen) (hx : Hid (rowB 2147483648 xs = true)) (hy : Hid (rowB 2147483648 ys = true)) :
    Calls Tryd.prog 60 #[.slice a1 xs.length c1, .slice a2 ys.length c2] w fun e w' => ∃ v, e = .returned (.tuple #[v, .int .i64 0]) ∧ Own w' (w.heap.size + 6) v ((uni xs ys).filter fun n => hasB xs n || hasB ys n) ∧ Below w.heap.size w w' := by
  have hmf : ∀ (fn : Fn) (first cap : Array Value) (w : World), (Instr.makeFunc fn first cap).run Tryd.prog w = .ok (.func fn first cap) w := fun _ _ _ _ => rfl
  go_enter Tryd.func60, Tryd.ntmps60
  go_wp2_with fail
  refine (finder_any a1 c1 xs _).mono ?_
  rintro e w1 ⟨rfl, rfl⟩
  go_wp2_with fail
  refine (finder_any a2 c2 ys _).mono ?_
  rintro e w1 ⟨rfl, rfl⟩
  go_wp2_with fail
  refine (join_at w a1 c1 xs a2 c2 ys h1 h2 k1 k2 m1 m2 hx hy).mono ?_
  rintro e w1 ⟨v, rfl, hown, hbel⟩
  go_wp2
  go_ret2
  exact ⟨v, rfl, hown, (jw_below w a1 xs.length c1 a2 ys.length c2).trans hbel⟩

end Go.Proofs.YtbdkaobbfmgnhaaDoor
namespace Go.Proofs.YtbdkaobbfmgnhaaDoor
open Go.RowKit
set_option linter.unusedVariables false

/-! jalousietop.all -/
set_option maxHeartbeats 2000000 in
theorem allT_any (v : Nat) (hv : v ≤ 8) (w : World) : Calls Tryd.prog 45 #[.int .i64 (v : Int)] w fun e w' => GivesO w (rngI v) e w' := by
  obtain ⟨k0, ki, kz0, kz1, kz2⟩ := info_parts Tryd.infoInt
  go_enter Tryd.func45, Tryd.ntmps45
  go_wp2
  go_loopw [3, 4] (fun x i wr => ∃ k : Nat, i = .int .i64 k ∧ k ≤ v ∧ Hid (Own wr w.heap.size x (rngI k)) ∧ Hid (Below w.heap.size w wr)) (fun _ i _ => v - (intOf i).toNat)
  case atStart => exact ⟨0, rfl, Nat.zero_le _, own_nil _ _, Below.refl _ _⟩
  case round =>
    obtain ⟨k, rfl, hk, HO, HB⟩ := hrel
    have hl := rngI_len k
    have hsz := HB.out.size
    by_cases hlt : k < v
    · go_wp2_with (at_builtin; refine wpList_append_ints _ rfl (.tmp 10) (.tmp 12) 22 rfl w.heap.size k0 Tryd.underlying22 ki kz0 kz1 kz2 _ (rngI k) rfl (World.ownsRow.alloc HO.out _) (some ⟨wr.heap.size, 0, none⟩) 1 [(k : Int)] rfl (at_onew wr (k : Int)) (fun h => by cases h) (by rw [hl]; simp only [List.length_cons, List.length_nil]; omega) (by simp; omega) ?_)
      intro v1 u1 o1 b1 s1
      have O1 : Hid (Own u1 w.heap.size v1 (rngI (k + 1))) := by show Own _ _ _ _; rw [rngI_succ]; exact o1
      have B1 : Hid (Below w.heap.size w u1) := (HB.out.alloc hsz _).trans b1
      clear o1 b1 s1 HO HB hl hsz
      go_wp2
      go_roundw
      case rel => exact ⟨k + 1, by go_num, by omega, O1, B1⟩
      case measure => simp [intOf]; omega
    · have : k = v := by omega
      subst this
      clear hl hsz
      go_wp2
      go_ret
      exact ⟨_, rfl, HO.out, HB.out⟩

end Go.Proofs.YtbdkaobbfmgnhaaDoor
namespace Go.Proofs.YtbdkaobbfmgnhaaDoor
open Go.RowKit
set_option linter.unusedVariables false

/-- What stands at place p ahead of the arrows. -/
def tab0 (of : List Int) (E k p : Nat) : List Int := if p < k ∧ hasB of ((p % E : Nat) : Int) = false then [((p / E : Nat) : Int)] else []
theorem tab0_skip {of : List Int} {E k : Nat} (h : hasB of ((k % E : Nat) : Int) = true) (p : Nat) : tab0 of E (k + 1) p = tab0 of E k p := by
  unfold tab0
  by_cases c : p < k ∧ hasB of ((p % E : Nat) : Int) = false
  · rw [if_pos c, if_pos ⟨by omega, c.2⟩]
  · rw [if_neg c, if_neg (fun d => ?_)]
    rcases Nat.lt_or_ge p k with h1 | h1
    · exact c ⟨h1, d.2⟩
    · have e : p = k := by omega
      rw [e, h] at d; cases d.2
theorem tab0_put {of : List Int} {E k : Nat} (h : hasB of ((k % E : Nat) : Int) = false) : tab0 of E (k + 1) k = [((k / E : Nat) : Int)] := if_pos ⟨by omega, h⟩
theorem tab0_other {of : List Int} {E k p : Nat} (h : p ≠ k) : tab0 of E (k + 1) p = tab0 of E k p := by
  unfold tab0
  by_cases c : p < k ∧ hasB of ((p % E : Nat) : Int) = false
  · rw [if_pos c, if_pos ⟨by omega, c.2⟩]
  · rw [if_neg c, if_neg (fun d => c ⟨by omega, d.2⟩)]
/-- .. and what k arrows have brought. -/
def tabL (ars : List Arr) (of : List Int) (E N k p : Nat) : List Int := tab0 of E N p ++ ((ars.take k).filter fun a => hasB of a.e && decide (a.f * E + a.e = (p : Int))).map (·.t)
theorem tabL_zero (ars : List Arr) (of : List Int) (E N p : Nat) : tabL ars of E N 0 p = tab0 of E N p := by simp [tabL]
theorem tabL_next {ars : List Arr} {of : List Int} {E N k p : Nat} {a : Arr} (h : k < ars.length) (ha : Hid (a = ars[k]?.getD arr0)) : tabL ars of E N (k + 1) p = if (hasB of a.e && decide (a.f * E + a.e = (p : Int))) = true then tabL ars of E N k p ++ [a.t] else tabL ars of E N k p := by
  have ha := ha.out
  rw [List.getElem?_eq_getElem h, Option.getD_some] at ha
  unfold tabL
  rw [List.take_add_one, List.getElem?_eq_getElem h, ← ha, List.filter_append, List.map_append]
  by_cases c : (hasB of a.e && decide (a.f * E + a.e = (p : Int))) = true
  · rw [if_pos c, ← List.append_assoc]
    congr 1
    simp only [Option.toList_some, List.filter_cons, c, if_true, List.filter_nil, List.map_cons, List.map_nil]
  · rw [if_neg c]
    simp only [Option.toList_some, List.filter_cons, c, Bool.false_eq_true, if_false, List.filter_nil, List.map_nil, List.append_nil]
theorem place_iff {f e : Int} {E s k : Nat} (hf : 0 ≤ f) (he : 0 ≤ e ∧ e < E) (hk : k < E) : f * E + e = ((s * E + k : Nat) : Int) ↔ f = s ∧ e = k := by
  constructor
  · intro h
    obtain ⟨F, rfl⟩ : ∃ F : Nat, f = F := ⟨f.toNat, by omega⟩
    obtain ⟨G, rfl⟩ : ∃ G : Nat, e = G := ⟨e.toNat, by omega⟩
    have h' : F * E + G = s * E + k := by
      have : ((F * E + G : Nat) : Int) = ((s * E + k : Nat) : Int) := by rw [← h]; simp
      exact Int.ofNat.inj this
    have hG : G < E := by omega
    have hE : 0 < E := by omega
    have h1 : (F * E + G) / E = (s * E + k) / E := by rw [h']
    rw [Nat.mul_comm F, Nat.mul_comm s, Nat.mul_add_div hE, Nat.mul_add_div hE, Nat.div_eq_of_lt hG, Nat.div_eq_of_lt hk] at h1
    have h2 : F = s := by omega
    subst h2
    have : G = k := by omega
    subst this
    exact ⟨rfl, rfl⟩
  · rintro ⟨rfl, rfl⟩; simp
theorem tabL_end {m : Mach} (hm : mayB m = true) {E : Nat} (hE : m.ev = (E : Int)) (of : List Int) {N s k : Nat} (hN : s * E + k < N) (hk : k < E) : tabL m.arrows of E N m.arrows.length (s * E + k) = toL m.arrows of s k := by
  have e1 : (s * E + k) % E = k := by rw [Nat.mul_comm, Nat.mul_add_mod, Nat.mod_eq_of_lt hk]
  have e2 : (s * E + k) / E = s := by rw [Nat.mul_comm, Nat.mul_add_div (by omega), Nat.div_eq_of_lt hk]; omega
  unfold tabL tab0 toL tosL
  rw [List.take_of_length_le (Nat.le_refl _), e1, e2]
  have hfil : ∀ a ∈ m.arrows, (hasB of a.e && decide (a.f * E + a.e = ((s * E + k : Nat) : Int))) = (hasB of (k : Int) && (a.f == (s : Int) && a.e == (k : Int))) := by
    intro a ha
    have hin := may_arrs hm a ha
    unfold arrIn at hin
    have hp := place_iff (f := a.f) (e := a.e) (E := E) (s := s) (k := k) hin.1 ⟨hin.2.2.2.2.1, by rw [← hE]; exact hin.2.2.2.2.2⟩ hk
    by_cases hc : a.f = (s : Int) ∧ a.e = (k : Int)
    · rw [hc.1, hc.2]; simp
    · have h1 : decide (a.f * E + a.e = ((s * E + k : Nat) : Int)) = false := by
        rw [decide_eq_false_iff_not]; exact fun h => hc (hp.1 h)
      have h2 : (a.f == (s : Int) && a.e == (k : Int)) = false := by
        rw [← Bool.not_eq_true]; simp; exact fun h1 h2 => hc ⟨h1, h2⟩
      rw [h1, h2]; simp
  rw [List.filter_congr hfil]
  cases hb : hasB of (k : Int) with
  | true => simp
  | false => simp [hN]
end Go.Proofs.YtbdkaobbfmgnhaaDoor
namespace Go.Proofs.YtbdkaobbfmgnhaaDoor
open Go.RowKit
set_option linter.unusedVariables false

/-- The table at block bt: N rows, made from block B on, no two in one block. -/
structure TW (B : Nat) (W : World) (bt N : Nat) (vv : Nat → Value) (T : Nat → List Int) : Prop where
  blk : ∃ cs, Blk W bt 22 cs ∧ cs.size = N ∧ ∀ p, p < N → cs[p]? = some (vv p)
  own : ∀ p, p < N → Own W B (vv p) (T p)
  ne : ∀ p q, p < N → q < N → p ≠ q → (vv p).ownBlock = none ∨ (vv p).ownBlock ≠ (vv q).ownBlock
  lo : B ≤ bt
def upd {α : Type} (f : Nat → α) (p : Nat) (x : α) : Nat → α := fun q => if q = p then x else f q
theorem upd_same {α : Type} (f : Nat → α) (p : Nat) (x : α) : upd f p x p = x := if_pos rfl
theorem upd_other {α : Type} (f : Nat → α) {p q : Nat} (h : q ≠ p) (x : α) : upd f p x q = f q := if_neg h
section
variable {B : Nat} {W W' : World} {bt N : Nat} {vv : Nat → Value} {T : Nat → List Int}
theorem TW.lt (h : TW B W bt N vv T) : bt < W.heap.size := by obtain ⟨cs, hb, -⟩ := h.blk; exact hb.lt
theorem TW.below (h : TW B W bt N vv T) (hb : Below W.heap.size W W') : TW B W' bt N vv T := by
  obtain ⟨cs, h1, h2, h3⟩ := h.blk
  exact ⟨⟨cs, h1.below hb h1.lt, h2, h3⟩, fun p hp => own_same (h.own p hp) (fun k hk => hb.block k (World.ownsRow.lt (h.own p hp) k hk).2), h.ne, h.lo⟩
theorem TW.cell (h : TW B W bt N vv T) {p : Nat} (hp : p < N) : W.cell? ⟨bt, p, none⟩ = some (vv p) := by
  obtain ⟨cs, h1, h2, h3⟩ := h.blk; exact h1.cell p (h3 p hp)
theorem TW.apart (h : TW B W bt N vv T) {p : Nat} (hp : p < N) : (vv p).ownBlock ≠ some bt := fun hk => by
  obtain ⟨cs, h1, -⟩ := h.blk
  obtain ⟨c2, h2⟩ := own_type (h.own p hp) hk
  rw [show W.heap[bt]? = _ from h1] at h2
  cases h2
/-- A row is another one: in its old block, or in a new one. -/
theorem TW.store {W3 W2 : World} {v : Value} {xs : List Int} {p : Nat} (h : TW B W bt N vv T) (hp : p < N) (hW3 : Below W.heap.size W W3) (o1 : Own W2 B v xs) (g : W3.grownBy W2 (vv p).ownBlock) (hb : v.ownBlock = (vv p).ownBlock ∨ ∃ k, v.ownBlock = some k ∧ W.heap.size ≤ k) (T' : Nat → List Int) (hT : ∀ q, q < N → T' q = upd T p xs q) :
    W2.cell? ⟨bt, p, none⟩ = some (vv p) ∧ (∀ j, W2.frozen? ⟨bt, j, none⟩ = false) ∧ TW B (W2.setCell ⟨bt, p, none⟩ v) bt N (upd vv p v) T' ∧ (∀ n, n ≤ B → B ≤ W.heap.size → Below n W (W2.setCell ⟨bt, p, none⟩ v)) := by
  have h1 := h.below hW3
  obtain ⟨cs, c1, c2, c3⟩ := h1.blk
  have hap := h1.apart hp
  have b2 : Blk W2 bt 22 cs := (g.block bt c1.lt (fun e => hap e.symm)).trans c1
  have hvb : v.ownBlock ≠ some bt := by
    rcases hb with hb | ⟨k, hb, hk⟩
    · rw [hb]; exact hap
    · rw [hb]; intro e; have := Option.some.inj e; have := h.lt; omega
  refine ⟨b2.cell p (c3 p hp), b2.frozen, ⟨⟨cs.setIfInBounds p v, b2.set p v, by simp [c2], fun q hq => ?_⟩, fun q hq => ?_, fun q r hq hr hne => ?_, h.lo⟩, fun n hn hB => ?_⟩
  · by_cases e : q = p
    · subst e; rw [upd_same, Array.getElem?_setIfInBounds, if_pos rfl, if_pos (by omega)]
    · rw [upd_other _ e, Array.getElem?_setIfInBounds, if_neg (fun h => e h.symm)]; exact c3 q hq
  · rw [hT q hq]
    by_cases e : q = p
    · subst e; rw [upd_same, upd_same]
      exact own_same o1 (fun k hk => Below.heap_setCell _ _ _ _ (fun e => hvb (by rw [hk, e])))
    · rw [upd_other _ e, upd_other _ e]
      refine own_same (h1.own q hq) (fun k hk => ?_)
      rw [Below.heap_setCell _ _ _ _ (fun e => h1.apart hq (by rw [hk, e]))]
      refine g.block k (World.ownsRow.lt (h1.own q hq) k hk).2 (fun e1 => ?_)
      rcases h.ne q p hq hp e with h2 | h2
      · rw [h2] at hk; cases hk
      · exact h2 (hk.trans e1)
  · have key : ∀ s, s < N → s ≠ p → v.ownBlock = none ∨ v.ownBlock ≠ (vv s).ownBlock := fun s hs hsp => by
      rcases hb with hb | ⟨k, hb, hk⟩
      · rw [hb]; exact h.ne p s hp hs (Ne.symm hsp)
      · right; rw [hb]; intro e
        have := (World.ownsRow.lt (h.own s hs) k e.symm).2; omega
    by_cases e : q = p
    · subst e; rw [upd_same, upd_other _ (Ne.symm hne)]; exact key r hr (Ne.symm hne)
    · rw [upd_other _ e]
      by_cases e' : r = p
      · subst e'; rw [upd_same]
        rcases key q hq e with h2 | h2
        · cases hqv : (vv q).ownBlock with
          | none => exact .inl rfl
          | some j => right; rw [h2]; simp
        · exact .inr (fun h3 => h2 h3.symm)
      · rw [upd_other _ e']; exact h.ne q r hq hr hne
  · have hr : ∀ k, (vv p).ownBlock = some k → n ≤ k := fun k hk => Nat.le_trans hn (World.ownsRow.lt (h.own p hp) k hk).1
    have t1 : Below n W W3 := hW3.mono (Nat.le_trans hn hB)
    have t2 : Below n W W2 := t1.grown g (Nat.le_trans (Nat.le_trans hn hB) hW3.size) hr
    exact t2.setCell (p := ⟨bt, p, none⟩) (Nat.le_trans hn h.lo) v
/-- The table is read: what lies in no block of F. -/
structure RT (F : Nat → Prop) (W : World) (bt N : Nat) (T : Nat → List Int) : Prop where
  lt : bt < W.heap.size
  nf : ¬ F bt
  row : ∀ p, p < N → ∃ a c, W.cell? ⟨bt, p, none⟩ = some (.slice a (T p).length c) ∧ AtF W F a (T p)
theorem RT.turn {F F' : Nat → Prop} (h : RT F W bt N T) (t : Turn F F' W W') : RT F' W' bt N T := by
  refine ⟨Nat.lt_of_lt_of_le h.lt t.size, fun hF => ?_, fun p hp => ?_⟩
  · rcases t.fp bt hF with h1 | h1
    · exact h.nf h1
    · have := h.lt; omega
  · obtain ⟨a, c, h1, h2⟩ := h.row p hp
    exact ⟨a, c, (World.cell?_of_block (w := W) (t.block bt h.lt h.nf)).trans h1, h2.turn t⟩
theorem TW.rt {F : Nat → Prop} (h : TW B W bt N vv T) (hF : ∀ j, F j → j < B) : RT F W bt N T := by
  refine ⟨h.lt, fun hf => by have := hF _ hf; have := h.lo; omega, fun p hp => ?_⟩
  have ho := h.own p hp
  rcases ho.2 with ⟨hv, hn⟩ | ⟨g, cap, cur, hv, hg, hh, hnc, hcm, hcs, ht⟩
  · exact ⟨none, 0, by rw [h.cell hp, hv, hn], .inl (List.eq_nil_of_length_eq_zero hn)⟩
  · refine ⟨_, cap, by rw [h.cell hp, hv], .inr ⟨g, 0, rfl, (Array.getElem?_eq_some_iff.1 hh).1, fun hf => by have := hF _ hf; omega, fun j hj => ?_⟩⟩
    have hB : Blk W g 3 cur := hh
    refine hB.cell _ ?_
    have h1 : (cur.toList.take ((T p).length * 1))[j]? = some (.int .i64 ((T p).getD j 0)) := by
      rw [ht, List.getElem?_map, List.getElem?_eq_getElem hj]; simp [List.getElem?_eq_getElem hj]
    rw [List.getElem?_take_of_lt (by omega), Array.getElem?_toList] at h1
    rw [Nat.zero_add]; exact h1
end

end Go.Proofs.YtbdkaobbfmgnhaaDoor
namespace Go.Proofs.YtbdkaobbfmgnhaaDoor
open Go.RowKit
set_option linter.unusedVariables false

theorem TW.made {B : Nat} {W : World} {bt N : Nat} (h : Blk W bt 22 (madeCells #[.slice none 0 0] N)) (hB : B ≤ bt) : TW B W bt N (fun _ => .slice none 0 0) (fun _ => []) := by
  refine ⟨⟨_, h, size_madeCells _ _, fun p hp => ?_⟩, fun p hp => World.ownsRow_nil _ _ _ _, fun p q _ _ _ => .inl rfl, hB⟩
  unfold madeCells
  rw [Array.getElem?_map, Array.getElem?_range, if_pos hp]
  simp [Nat.mod_one]
theorem TW.congr {B : Nat} {W : World} {bt N : Nat} {vv : Nat → Value} {T T' : Nat → List Int} (h : TW B W bt N vv T) (hT : ∀ p, p < N → T' p = T p) : TW B W bt N vv T' :=
  ⟨h.blk, fun p hp => by rw [hT p hp]; exact h.own p hp, h.ne, h.lo⟩
theorem w64_in (n : Int) (h : -9223372036854775808 ≤ n ∧ n ≤ 9223372036854775807) : wrap64 n = n := by unfold wrap64; omega
/-- What leads leaves. -/
def LeadsPost (w : World) (N : Nat) (T : Nat → List Int) (e : Ending) (w' : World) : Prop :=
  ∃ bt vv, e = .returned (.slice (some ⟨bt, 0, none⟩) N N) ∧ TW w.heap.size w' bt N vv T ∧ Below w.heap.size w w'

set_option maxRecDepth 100000 in
set_option maxHeartbeats 8000000 in
theorem leads_some (S0 E0 : Nat) (starts : List Int) (ars : List Arr) (ends : List Int) (a1 : Option Addr) (c1 : Nat) (a2 : Option Addr) (c2 : Nat) (a3 : Option Addr) (c3 : Nat) (fa : Option Addr) (fc : Nat) (of : List Int) (w : World) (hS : S0 ≤ 256) (hE : E0 ≤ 8) (hlen : ars.length ≤ 4096) (hca : Hid (AtA w a2 ars)) (hin : Hid (∀ a ∈ ars, (0 ≤ a.f ∧ a.f < (S0 : Int)) ∧ 0 ≤ a.e ∧ a.e < (E0 : Int))) (hof : Hid (At w fa of)) (hofl : Hid (of.length ≤ maxLen)) :
    Calls Tryd.prog 63 #[mval ⟨S0, E0, starts, ars, ends⟩ ⟨a1, c1, a2, c2, a3, c3⟩, .slice fa of.length fc] w fun e w' => LeadsPost w (S0 * E0) (tabL ars of E0 (S0 * E0) ars.length) e w' := by
  obtain ⟨i0, hi, hz0, hz1, hz2⟩ := info_parts Tryd.infoInts
  have hN : S0 * E0 ≤ 2048 := Nat.le_trans (Nat.mul_le_mul hS hE) (by decide)
  obtain ⟨N, HN⟩ : ∃ N, Hid (N = S0 * E0) := ⟨_, rfl⟩
  have hmul : ((S0 : Int) * (E0 : Int)) = (N : Int) := by rw [HN.out]; simp
  rw [← HN.out] at hN ⊢
  have hmk : ∀ w : World, (Instr.makeSlice 39 (.int .i64 N) (.int .i64 N)).run Tryd.prog w = .ok (.slice (some ⟨w.heap.size, 0, none⟩) N N) (w.alloc (.cells (madeCells #[.slice none 0 0] N) 22)) := fun w => by
    have := run_make (P := Tryd.prog) w 39 22 i0 (.slice none 0 0) Tryd.underlying39 hi hz0 .i64 .i64 N N (by omega) (by omega) (by rw [hz2]; omega) (by omega)
    rw [hz1, Int.toNat_natCast, Nat.mul_one] at this
    exact this
  clear hi hz0 hz1 hz2
  obtain ⟨j0, ji, jz0, jz1, jz2⟩ := info_parts Tryd.infoInt
  have hw1 : IntKind.i64.wrap ((S0 : Int) * (E0 : Int)) = (N : Int) := by rw [hmul]; simp [IntKind.wrap, IntKind.bits, IntKind.signed]; omega
  go_enter Tryd.func63, Tryd.ntmps63
  go_wp2_with fail
  go_loopw [18] (fun i wr => ∃ (k : Nat) (vv : Nat → Value), k ≤ N ∧ i = .int .i64 k ∧ Hid (Blk wr w.heap.size 25 (mcells ⟨S0, E0, starts, ars, ends⟩ ⟨a1, c1, a2, c2, a3, c3⟩)) ∧ Hid (TW w.heap.size wr (w.heap.size + 1) N vv (tab0 of E0 k)) ∧ Hid (Below w.heap.size w wr)) (fun i _ => N - (intOf i).toNat)
  case atStart =>
    refine ⟨0, fun _ => .slice none 0 0, by omega, rfl, (Blk.new w _ _).alloc _, ?_, ((Below.refl _ _).alloc (Nat.le_refl _) _).alloc (by simp) _⟩
    have := Blk.new (w.alloc (.cells (mcells ⟨S0, E0, starts, ars, ends⟩ ⟨a1, c1, a2, c2, a3, c3⟩) 25)) 22 (madeCells #[.slice none 0 0] N)
    rw [World.size_alloc] at this
    exact (TW.made (B := w.heap.size) this (Nat.le_succ _)).congr (T' := tab0 of E0 0) (fun p _ => by simp [tab0])
  case round =>
    clear hmk
    obtain ⟨k, vv, hk, rfl, HM, HT, HB⟩ := hrel
    obtain ⟨x0, x1, x2, x3, x4⟩ := mcell_at HM.out
    by_cases hlt : k < N
    · have hE0 : 0 < E0 := by
        rcases Nat.eq_zero_or_pos E0 with h | h
        · rw [HN.out, h] at hlt; simp at hlt
        · exact h
      have hmc : ((k : Int) % (E0 : Int)) = ((k % E0 : Nat) : Int) := by simp
      have hdc : ((k : Int) / (E0 : Int)) = ((k / E0 : Nat) : Int) := by simp
      have hml : k % E0 < E0 := Nat.mod_lt _ hE0
      have hlb := HM.out.lt
      have HMC := Hid.of hmc
      have HDC := Hid.of hdc
      have hkd : k / E0 ≤ k := Nat.div_le_self _ _
      have hwq : wrap64 ((k : Int) / (E0 : Int)) = (k : Int) / (E0 : Int) := w64_in _ (by rw [hdc]; generalize k / E0 = d at hkd; omega)
      clear hmc hdc
      have hHas := fun W (hW : Below w.heap.size w W) => rowHas_any fa fc of ((k : Int) % (E0 : Int)) W (hof.out.below hW (Nat.le_refl _)) hofl.out
      have HHas := Hid.of hHas
      clear hHas
      cases hh : hasB of ((k : Int) % (E0 : Int)) with
      | true =>
        have HNX : Hid (∀ p, p < N → tab0 of E0 (k + 1) p = tab0 of E0 k p) := fun p _ => tab0_skip (by rw [← HMC.out]; exact hh) p
        go_wp2_with fail
        refine (HHas.out _ HB.out).mono ?_
        rintro e w1 ⟨rfl, rfl⟩
        rw [hh]
        go_wp2_with fail
        go_roundw
        case rel => exact ⟨k + 1, vv, by omega, by go_num, HM, HT.out.congr HNX.out, HB⟩
        case measure => simp [intOf]; omega
      | false =>
        obtain ⟨z1, zf, hT2, hB2⟩ := HT.out.store (W3 := wr.alloc (.cells #[.int .i64 ((k : Int) / (E0 : Int))] 3)) (W2 := wr.alloc (.cells #[.int .i64 ((k : Int) / (E0 : Int))] 3)) (v := .slice (some ⟨wr.heap.size, 0, none⟩) 1 1) (xs := [(k : Int) / (E0 : Int)]) hlt ((Below.refl _ _).alloc (Nat.le_refl _) _) (World.ownsRow_lit wr #[.int .i64 ((k : Int) / (E0 : Int))] 1 HB.out.size (by unfold maxLen; omega) rfl) ⟨rfl, rfl, rfl, Nat.le_refl _, fun _ _ _ => rfl⟩ (.inr ⟨_, rfl, Nat.le_refl _⟩) (tab0 of E0 (k + 1)) (fun q hq => by
          by_cases e : q = k
          · subst e; rw [upd_same, tab0_put (by rw [← HMC.out]; exact hh), HDC.out]
          · rw [upd_other _ e]; exact tab0_other e)
        have HT2 := Hid.of hT2
        have HB2 := Hid.of (HB.out.trans (hB2 w.heap.size (Nat.le_refl _) HB.out.size))
        have HM2 := Hid.of (((HM.out.alloc (.cells #[.int .i64 ((k : Int) / (E0 : Int))] 3)).other (b' := w.heap.size + 1) (j := k) (by omega) (.slice (some ⟨wr.heap.size, 0, none⟩) 1 1)))
        clear hT2 hB2
        have hlt1 := HT.out.lt
        rw [World.setCell_alloc_past _ _ _ _ hlt1] at HT2 HB2 HM2
        go_wp2_with fail
        refine (HHas.out _ HB.out).mono ?_
        rintro e w1 ⟨rfl, rfl⟩
        rw [hh]
        go_wp2_with fail
        go_roundw
        case rel => exact ⟨k + 1, _, by omega, by go_num, HM2, HT2, HB2⟩
        case measure => simp [intOf]; omega
    · have hkN : k = N := by omega
      subst hkN
      have HT0 : Hid (TW w.heap.size wr (w.heap.size + 1) k vv (tabL ars of E0 k 0)) := HT.out.congr (fun p _ => tabL_zero _ _ _ _ _)
      clear HT
      go_wp2_with fail
      clear x0 x1 x2 x3 x4
      go_loopw [40] (fun i wr => ∃ (q : Nat) (vv : Nat → Value), q ≤ ars.length ∧ i = .int .i64 q ∧ Hid (Blk wr w.heap.size 25 (mcells ⟨S0, E0, starts, ars, ends⟩ ⟨a1, c1, a2, c2, a3, c3⟩)) ∧ Hid (TW w.heap.size wr (w.heap.size + 1) k vv (tabL ars of E0 k q)) ∧ Hid (Below w.heap.size w wr)) (fun i _ => ars.length - (intOf i).toNat)
      case atStart => exact ⟨0, vv, Nat.zero_le _, rfl, HM, HT0, HB⟩
      case round =>
        clear HM HT0 HB
        obtain ⟨q, vv, hq, rfl, HM, HT, HB⟩ := hrel
        obtain ⟨x0, x1, x2, x3, x4⟩ := mcell_at HM.out
        have hlb := HM.out.lt
        by_cases hqt : q < ars.length
        · have hat2 : AtA wr a2 ars := hca.out.below HB.out (Nat.le_refl _)
          rcases hat2 with hat2 | ⟨b, off, ha2, hb, hcc⟩
          · rw [hat2] at hqt; simp at hqt
          obtain ⟨a, HA, y0, y1, y2⟩ := hcc.at hqt
          subst ha2
          clear hcc
          have HAM : Hid ((0 ≤ a.f ∧ a.f < (S0 : Int)) ∧ 0 ≤ a.e ∧ a.e < (E0 : Int)) := hin.out a (by rw [HA.out, List.getElem?_eq_getElem hqt]; exact List.getElem_mem hqt)
          have hHas := fun W (hW : Below w.heap.size w W) => rowHas_any fa fc of a.e W (hof.out.below hW (Nat.le_refl _)) hofl.out
          have HHas := Hid.of hHas
          clear hHas
          have HE : Hid (tabL ars of E0 k (q + 1) = fun p : Nat => if (hasB of a.e && decide (a.f * E0 + a.e = (p : Int))) = true then tabL ars of E0 k q p ++ [a.t] else tabL ars of E0 k q p) := by
            show _ = _
            funext p; exact tabL_next hqt HA
          have HBA := Hid.of (HB.out.alloc HB.out.size (.cells #[.int .i64 a.f, .int .i64 a.e, .int .i64 a.t] 58))
          have HTA := Hid.of (HT.out.below ((Below.refl _ _).alloc (Nat.le_refl _) (.cells #[.int .i64 a.f, .int .i64 a.e, .int .i64 a.t] 58)))
          have HMA := Hid.of (HM.out.alloc (.cells #[.int .i64 a.f, .int .i64 a.e, .int .i64 a.t] 58))
          have HAA := Hid.of (Blk.new wr 58 #[.int .i64 a.f, .int .i64 a.e, .int .i64 a.t])
          cases hh : hasB of a.e with
          | false =>
            rw [hh] at HE
            go_wp2_with fail
            refine (HHas.out _ HBA.out).mono ?_
            rintro e w1 ⟨rfl, rfl⟩
            rw [hh]
            go_wp2_with fail
            go_roundw
            case rel => exact ⟨q + 1, vv, by omega, by go_num, HMA, by show TW _ _ _ _ _ _; rw [HE.out]; exact HTA.out, HBA⟩
            case measure => simp [intOf]; omega
          | true =>
            obtain ⟨P0, HP0⟩ : ∃ P0 : Nat, Hid ((P0 : Int) = a.f * E0 + a.e ∧ P0 < k) := by
              obtain ⟨F, hF⟩ : ∃ F : Nat, a.f = F := ⟨a.f.toNat, by have := HAM.out.1.1; omega⟩
              obtain ⟨G, hG⟩ : ∃ G : Nat, a.e = G := ⟨a.e.toNat, by have := HAM.out.2.1; omega⟩
              refine ⟨F * E0 + G, by rw [hF, hG]; simp, ?_⟩
              have h1 : F < S0 := by have := HAM.out.1.2; omega
              have h2 : G < E0 := by have := HAM.out.2.2; omega
              rw [HN.out]
              have h3 : (F + 1) * E0 ≤ S0 * E0 := Nat.mul_le_mul_right _ h1
              rw [Nat.succ_mul] at h3
              omega
            have hpk := HP0.out.2
            have hpv := HP0.out.1
            have HE2 : Hid (∀ p, p < k → tabL ars of E0 k (q + 1) p = upd (tabL ars of E0 k q) P0 (tabL ars of E0 k q P0 ++ [a.t]) p) := fun p hp => by
              rw [HE.out]
              show (if _ then _ else _) = _
              by_cases e : p = P0
              · subst e; rw [upd_same, if_pos]; simp [hh]; omega
              · rw [upd_other _ e, if_neg]; simp [hh]; omega
            clear hpv HE
            have hwm : wrap64 (a.f * (E0 : Int) + a.e) = (P0 : Int) := by rw [← HP0.out.1]; exact w64_in _ (by omega)
            have hb1 : 0 ≤ a.f * (E0 : Int) ∧ a.f * (E0 : Int) ≤ (P0 : Int) := by
              have h0 := HAM.out
              exact ⟨Int.mul_nonneg h0.1.1 (by omega), by have := HP0.out.1; have := h0.2.1; omega⟩
            have hwn : wrap64 (a.f * (E0 : Int)) = a.f * (E0 : Int) := w64_in _ (by omega)
            go_wp2_with fail
            refine (HHas.out _ HBA.out).mono ?_
            rintro e w1 ⟨rfl, rfl⟩
            rw [hh]
            clear x0 x1 x2 x3 x4 y0 y1 y2
            revert HBA HTA HMA HAA
            generalize hV : wr.alloc (.cells #[.int .i64 a.f, .int .i64 a.e, .int .i64 a.t] 58) = V
            intro HBA HTA HMA HAA
            obtain ⟨x0, x1, x2, x3, x4⟩ := mcell_at HMA.out
            have y0 : V.cell? ⟨wr.heap.size, 0, none⟩ = some (.int .i64 a.f) := HAA.out.cell 0 rfl
            have y1 : V.cell? ⟨wr.heap.size, 1, none⟩ = some (.int .i64 a.e) := HAA.out.cell 1 rfl
            have y2 : V.cell? ⟨wr.heap.size, 2, none⟩ = some (.int .i64 a.t) := HAA.out.cell 2 rfl
            have hl1 := HMA.out.lt
            have hl2 := HAA.out.lt
            have hl3 := HTA.out.lt
            clear hV HM HT HB HHas hb hlb
            obtain ⟨ra, rc, hrv, hr1, hr2, hr3⟩ := own_form2 (HTA.out.own P0 hpk)
            have hzp := HTA.out.cell hpk
            rw [hrv] at hzp
            have HRV := Hid.of hrv
            clear hrv
            have MNE : Hid ((Value.slice ra (tabL ars of E0 k q P0).length rc).ownBlock ≠ some w.heap.size) := fun e => by
              rw [← HRV.out] at e
              obtain ⟨cs, hc⟩ := own_type (HTA.out.own P0 hpk) e
              rw [show V.heap[w.heap.size]? = _ from HMA.out] at hc; cases hc
            have hRl : (tabL ars of E0 k q P0).length ≤ 4097 := by
              unfold tabL tab0
              rw [List.length_append, List.length_map]
              have h1 : ((ars.take q).filter fun a => hasB of a.e && decide (a.f * E0 + a.e = (P0 : Int))).length ≤ ars.length := Nat.le_trans (List.length_filter_le _ _) (List.length_take_le' _ _)
              split <;> simp <;> omega
            go_wp2_with fail
            go_region_law (first | (refine step_append_block rfl (.tmp 61) (.tmp 64) 22 rfl w.heap.size 3 j0 (.int .i64 0) 1 8 Tryd.underlying22 ji jz0 jz1 jz2 rfl (by decide) _ (tabL ars of E0 k q P0).length ((tabL ars of E0 k q P0).map (Value.int .i64)) rfl (World.ownsRow.alloc (own_same (W := V) (by rw [← HRV.out]; exact HTA.out.own P0 hpk) (fun _ _ => rfl)) _) ⟨V.heap.size, 0, none⟩ 1 1 [.int .i64 a.t] rfl rfl (cell_one_new _ _ _) (by intro u hu; simp at hu; subst hu; rfl) (by decide) (by unfold maxLen; omega) (by omega) (Nat.le_trans HBA.out.size (((Below.refl _ V).drew).alloc (Nat.le_refl _) _).size) ?_; intro v9 w9 o9 g9 n9; obtain ⟨ga, gc, hv9, -, -, -⟩ := own_form2 o9; subst hv9; obtain ⟨e1, e2, e3, e4⟩ := HTA.out.store (v := .slice ga ((tabL ars of E0 k q P0).length + 1) gc) (xs := tabL ars of E0 k q P0 ++ [a.t]) hpk (((Below.refl _ V).drew).alloc (Nat.le_refl _) _) (show World.ownsRow _ _ _ _ _ _ _ by rw [List.length_append, List.map_append]; exact o9) (by rw [HRV.out]; exact g9) (by rw [HRV.out]; exact n9.imp id (fun h => ⟨_, h, (((Below.refl _ V).drew).alloc (Nat.le_refl _) _).size⟩)) (tabL ars of E0 k (q + 1)) HE2.out; rw [HRV.out] at e1; have M9 := Hid.of (Blk.other (b' := w.heap.size + 1) (j := P0) ((g9.block w.heap.size (Nat.lt_of_lt_of_le hl1 (((Below.refl _ V).drew).alloc (Nat.le_refl _) _).size) (fun e => MNE.out e.symm)).trans (HMA.out.below (((Below.refl _ V).drew).alloc (Nat.le_refl _) _) hl1)) (by omega) (.slice ga ((tabL ars of E0 k q P0).length + 1) gc)); have E3 := Hid.of e3; have E4 := Hid.of (e4 w.heap.size (Nat.le_refl _) HBA.out.size); clear e3 e4 o9 g9 n9))
            all_goals
              have M4 : Hid (Blk (w9.setCell ⟨w.heap.size + 1, P0, none⟩ (.slice ga ((tabL ars of E0 k q P0).length + 1) gc)) w.heap.size 25 (mcells ⟨S0, E0, starts, ars, ends⟩ ⟨a1, c1, some ⟨b, off, none⟩, c2, a3, c3⟩)) := M9.out
              go_wp2_with fail
              go_roundw
              case rel => exact ⟨q + 1, _, by omega, by go_num, M4, E3, HBA.out.trans E4.out⟩
              case measure => simp [intOf]; omega
        · have hqq : q = ars.length := by omega
          subst hqq
          go_wp2_with fail
          go_ret
          exact ⟨_, vv, rfl, HT.out, HB.out⟩

end Go.Proofs.YtbdkaobbfmgnhaaDoor
namespace Go.Proofs.YtbdkaobbfmgnhaaDoor
open Go.RowKit
set_option linter.unusedVariables false

/-- What spread leaves. -/
def SprPost (B : Nat) (W : World) (bf br : Nat) (ev : Int) (vs va ve vp : Value) (S E : List Int) (r : Option BS) (e : Ending) (W' : World) : Prop :=
  ∃ va' vp', Turn (FF bf br vs va ve vp) (FF bf br vs va' ve vp') W W' ∧ match r with
    | none => e = .returned (.bool false)
    | some s => e = .returned (.bool true) ∧ FD B W' bf br s.ps.length ev vs va' ve vp' S (srtA s.ar) E s.ps ∧ s.ps.length ≤ 256

theorem bPair_ev {a b : Mach} {ofA ofB : List Int} {s : BS} {k E0 : Nat} {p : Int × Int} (hE : a.ev = (E0 : Int)) : (evL E0 ofA ofB).foldl (bEv a b ofA ofB k p) s = bEvs a b ofA ofB k p s a.ev.toNat := by
  rw [bEvs_evL, hE]; rfl
theorem go_big {a b : Mach} {ofA ofB : List Int} {f k : Nat} {s : BS} {p : Int × Int} (hp : s.ps[k]? = some p) (hB : bBig (bEvs a b ofA ofB k p s a.ev.toNat) = true) (hf : 0 < f) : bGo a b ofA ofB f k s = none := by
  obtain ⟨g, rfl⟩ : ∃ g, f = g + 1 := ⟨f - 1, by omega⟩
  have hk := (List.getElem?_eq_some_iff.1 hp).1
  have e : bPair a b ofA ofB s k = bEvs a b ofA ofB k p s a.ev.toNat := by unfold bPair; rw [hp]; rfl
  unfold bGo
  rw [if_pos hk, e, if_pos hB]
theorem go_next {a b : Mach} {ofA ofB : List Int} {f k : Nat} {s : BS} {p : Int × Int} (hp : s.ps[k]? = some p) (hB : bBig (bEvs a b ofA ofB k p s a.ev.toNat) = false) (hf : 0 < f) : bGo a b ofA ofB f k s = bGo a b ofA ofB (f - 1) (k + 1) (bEvs a b ofA ofB k p s a.ev.toNat) := by
  obtain ⟨g, rfl⟩ : ∃ g, f = g + 1 := ⟨f - 1, by omega⟩
  have hk := (List.getElem?_eq_some_iff.1 hp).1
  have e : bPair a b ofA ofB s k = bEvs a b ofA ofB k p s a.ev.toNat := by unfold bPair; rw [hp]; rfl
  rw [bGo, if_pos hk, e, if_neg (by rw [hB]; simp)]; rfl
theorem go_end {a b : Mach} {ofA ofB : List Int} {f k : Nat} {s : BS} (h : ¬ k < s.ps.length) : bGo a b ofA ofB f k s = some s := by
  cases f with
  | zero => rfl
  | succ f => rw [bGo, if_neg h]
theorem wrap_at {x E0 e N : Nat} (h : x * E0 + e < N) (hN : N ≤ 2048) : wrap64 ((x : Int) * (E0 : Int)) = (x : Int) * (E0 : Int) ∧ wrap64 ((x : Int) * (E0 : Int) + (e : Int)) = ((x * E0 + e : Nat) : Int) := by
  have h1 : ((x : Int) * (E0 : Int)) = ((x * E0 : Nat) : Int) := by simp
  have h2 : ((x : Int) * (E0 : Int) + (e : Int)) = ((x * E0 + e : Nat) : Int) := by simp
  constructor
  · rw [h1]; exact w64_in _ (by generalize x * E0 = d at h; omega)
  · rw [h2]; exact w64_in _ (by generalize x * E0 = d at h; omega)
theorem iwrap_at {x E0 e N : Nat} (h : x * E0 + e < N) (hN : N ≤ 2048) : IntKind.i64.wrap ((x : Int) * (E0 : Int)) = (x : Int) * (E0 : Int) ∧ IntKind.i64.wrap ((x : Int) * (E0 : Int) + (e : Int)) = ((x * E0 + e : Nat) : Int) := by
  have h1 : ((x : Int) * (E0 : Int)) = ((x * E0 : Nat) : Int) := by simp
  have h2 : ((x : Int) * (E0 : Int) + (e : Int)) = ((x * E0 + e : Nat) : Int) := by simp
  constructor
  · rw [h1]; generalize x * E0 = d at h; simp [IntKind.wrap, IntKind.bits, IntKind.signed]; omega
  · rw [h2]; generalize x * E0 = d at h; simp [IntKind.wrap, IntKind.bits, IntKind.signed]; omega
theorem place_lt {x E0 e S0 : Nat} (h1 : x < S0) (h2 : e < E0) : x * E0 + e < S0 * E0 := by
  have h3 : (x + 1) * E0 ≤ S0 * E0 := Nat.mul_le_mul_right _ h1
  rw [Nat.succ_mul] at h3
  omega

set_option maxHeartbeats 8000000 in
set_option maxRecDepth 100000 in
theorem bspread_any (B : Nat) (W : World) (bf br : Nat) (vs va ve vp : Value) (S E : List Int) (a b : Mach) (ofA ofB : List Int) (SA SB E0 : Nat) (ta tb : Nat) (TA TB : Nat → List Int) (ea : Option Addr) (ec : Nat) (s0 : BS)
    (ma : Hid (mayB a = true)) (mb : Hid (mayB b = true)) (hSA : a.st = (SA : Int)) (hSB : b.st = (SB : Int)) (hEa : Hid (a.ev = (E0 : Int))) (hE8 : E0 ≤ 8) (hSA2 : SA ≤ 256) (hSB2 : SB ≤ 256)
    (hF : Hid (FD B W bf br s0.ps.length (E0 : Int) vs va ve vp S (srtA s0.ar) E s0.ps)) (hs0 : Hid (s0.ps = crossP a.starts b.starts ∧ s0.ar = [])) (hfit : s0.ps.length ≤ 256)
    (hTA : Hid (RT (FF bf br vs va ve vp) W ta (SA * E0) TA)) (hTB : Hid (RT (FF bf br vs va ve vp) W tb (SB * E0) TB)) (hev : Hid (AtF W (FF bf br vs va ve vp) ea (evL E0 ofA ofB)))
    (eA : Hid (∀ x e : Nat, x < SA → e < E0 → TA (x * E0 + e) = toL a.arrows ofA x e)) (eB : Hid (∀ x e : Nat, x < SB → e < E0 → TB (x * E0 + e) = toL b.arrows ofB x e)) :
    Calls Tryd.prog 62 #[.pointer (some ⟨bf, 0, none⟩), .slice ea (evL E0 ofA ofB).length ec, .slice (some ⟨ta, 0, none⟩) (SA * E0) (SA * E0), .slice (some ⟨tb, 0, none⟩) (SB * E0) (SB * E0)] W fun e W' => SprPost B W bf br (E0 : Int) vs va ve vp S E (besideS a b ofA ofB) e W' := by
  have hNA : SA * E0 ≤ 2048 := Nat.le_trans (Nat.mul_le_mul hSA2 hE8) (by decide)
  have hNB : SB * E0 ≤ 2048 := Nat.le_trans (Nat.mul_le_mul hSB2 hE8) (by decide)
  obtain ⟨NA, HNA⟩ : ∃ N, Hid (N = SA * E0) := ⟨_, rfl⟩
  obtain ⟨NB, HNB⟩ : ∃ N, Hid (N = SB * E0) := ⟨_, rfl⟩
  rw [← HNA.out] at hNA hTA ⊢
  rw [← HNB.out] at hNB hTB ⊢
  have hel : (evL E0 ofA ofB).length ≤ 8 := Nat.le_trans (evL_len _ _ _) hE8
  have SI0 : Hid (SI a b 0 0 s0) := by
    have sa := may_starts ma.out
    have sb := may_starts mb.out
    refine ⟨?_, fun p hp => ?_, fun x hx => ?_⟩
    · rw [hs0.out.1]; exact nodup_crossP (inc_nodup sa.1) (inc_nodup sb.1)
    · rw [hs0.out.1] at hp
      obtain ⟨h1, h2⟩ := (mem_crossP _ _ _).1 hp
      exact ⟨sa.2 _ h1, sb.2 _ h2⟩
    · rw [hs0.out.2] at hx; simp at hx
  have HBS : Hid (besideS a b ofA ofB = bGo a b ofA ofB 300 0 s0) := by
    show _ = _
    unfold besideS
    congr 1
    have h1 := hs0.out
    cases s0
    simp at h1
    rw [h1.1, h1.2]
  have HL0 : Hid ((srtA s0.ar).length = s0.ar.length) := by show _ = _; rw [hs0.out.2]; rfl
  have HG0 : Hid (bBig s0 = false) := bBig_mk hfit (by rw [hs0.out.2]; simp)
  go_enter Tryd.func62, Tryd.ntmps62
  go_wp2_with fail
  go_loopw [9] (fun i wr => ∃ (k : Nat) (s : BS) (va' vp' : Value), i = .int .i64 k ∧ k ≤ s.ps.length ∧ s.ps.length ≤ 256 ∧ Hid (FD B wr bf br s.ps.length (E0 : Int) vs va' ve vp' S (srtA s.ar) E s.ps) ∧ Hid (Turn (FF bf br vs va ve vp) (FF bf br vs va' ve vp') W wr) ∧ Hid (bBig s = false) ∧ Hid ((srtA s.ar).length = s.ar.length) ∧ Hid (SI a b k 0 s) ∧ Hid (besideS a b ofA ofB = bGo a b ofA ofB (300 - k) k s)) (fun i _ => 300 - (intOf i).toNat)
  case atStart => exact ⟨0, s0, va, vp, rfl, Nat.zero_le _, hfit, hF, Turn.refl _ _, HG0, HL0, SI0, HBS⟩
  case round =>
    clear hF hfit HG0 HL0 SI0 HBS
    obtain ⟨k, s, va1, vp1, rfl, hk, hps, HF, HT, HG, HL, HS, HE⟩ := hrel
    have c0 := HF.out.cells.1
    have c5 := HF.out.cells.2.2.2.2.2.1
    have lb := HF.out.blk.lt
    by_cases hlt : k < s.ps.length
    · obtain ⟨p, hp⟩ : ∃ p, Hid (s.ps[k]? = some p) := ⟨_, List.getElem?_eq_getElem hlt⟩
      have hcr := HS.out.cr p (List.mem_of_getElem? hp.out)
      rw [hSA, hSB] at hcr
      obtain ⟨px, py⟩ := p
      dsimp only at hcr
      obtain ⟨x0, rfl⟩ : ∃ x0 : Nat, px = x0 := ⟨px.toNat, by omega⟩
      obtain ⟨y0, rfl⟩ : ∃ y0 : Nat, py = y0 := ⟨py.toNat, by omega⟩
      have hx0 : x0 < SA := by omega
      have hy0 : y0 < SB := by omega
      clear hcr
      obtain ⟨g, cap, hvp, hg1, hg2, p0, p1⟩ := HF.out.ps.cell hp.out
      rw [hvp] at c5
      have HX1 : Hid (Turn (FF bf br vs va1 ve vp1) (FF bf br vs va1 ve vp1) wr (wr.alloc (.cells #[.int .i64 x0, .int .i64 y0] 135))) := (Turn.refl _ _).alloc _
      have HXF := Hid.of (HF.out.alloc (.cells #[.int .i64 x0, .int .i64 y0] 135))
      have HXP := Hid.of (Blk.new wr 135 #[.int .i64 x0, .int .i64 y0])
      have HNF : Hid (¬ FF bf br vs va1 ve vp1 wr.heap.size) := fun h => by have := (HF.out.lt _ h).2; omega
      go_wp2_with fail
      clear c0 c5 p0 p1 hg1 hg2 hvp lb
      have HXT := Hid.of (HT.out.trans HX1.out)
      have HXA := Hid.of (hTA.out.turn HXT.out)
      have HXB := Hid.of (hTB.out.turn HXT.out)
      have HXE := Hid.of (hev.out.turn HXT.out)
      revert HXF HXP HXT HXA HXB HXE
      clear HX1 HF HT
      obtain ⟨pb, Hpb⟩ : ∃ pb, pb = wr.heap.size := ⟨_, rfl⟩
      rw [← Hpb] at HNF ⊢
      generalize wr.alloc (.cells #[.int .i64 x0, .int .i64 y0] 135) = X
      intro HXF HXP HXT HXA HXB HXE
      clear Hpb
      have SIQ : Hid (∀ e : Int, 0 ≤ e → SI a b k e s) := fun e he => HS.out.mono (.inr ⟨rfl, he⟩)
      go_loopw [31] (fun i wr => ∃ (q : Nat) (va' vp' : Value), q ≤ (evL E0 ofA ofB).length ∧ i = .int .i64 q ∧ Hid (FD B wr bf br (((evL E0 ofA ofB).take q).foldl (bEv a b ofA ofB k ((x0 : Int), (y0 : Int))) s).ps.length (E0 : Int) vs va' ve vp' S (srtA (((evL E0 ofA ofB).take q).foldl (bEv a b ofA ofB k ((x0 : Int), (y0 : Int))) s).ar) E (((evL E0 ofA ofB).take q).foldl (bEv a b ofA ofB k ((x0 : Int), (y0 : Int))) s).ps) ∧ Hid (Turn (FF bf br vs va1 ve vp1) (FF bf br vs va' ve vp') X wr) ∧ Hid (bBig (((evL E0 ofA ofB).take q).foldl (bEv a b ofA ofB k ((x0 : Int), (y0 : Int))) s) = false) ∧ Hid ((srtA (((evL E0 ofA ofB).take q).foldl (bEv a b ofA ofB k ((x0 : Int), (y0 : Int))) s).ar).length = (((evL E0 ofA ofB).take q).foldl (bEv a b ofA ofB k ((x0 : Int), (y0 : Int))) s).ar.length) ∧ Hid (∀ e : Int, 0 ≤ e → (∀ x ∈ (evL E0 ofA ofB).take q, x < e) → SI a b k e (((evL E0 ofA ofB).take q).foldl (bEv a b ofA ofB k ((x0 : Int), (y0 : Int))) s))) (fun i _ => (evL E0 ofA ofB).length - (intOf i).toNat)
      case atStart => exact ⟨0, va1, vp1, Nat.zero_le _, rfl, HXF, Turn.refl _ _, HG, HL, fun e he _ => SIQ.out e he⟩
      case round =>
        clear HG HL SIQ HXF
        obtain ⟨q, va2, vp2, hq, rfl, HF, HT, HG, HL, HSQ⟩ := hrel
        by_cases hqt : q < (evL E0 ofA ofB).length
        · obtain ⟨be, oe, ex, hea, hbe, HEX, ce⟩ := (HXE.out.turn HT.out).get hqt
          have hmem : ex ∈ evL E0 ofA ofB := by rw [HEX.out, List.getElem?_eq_getElem hqt]; exact List.getElem_mem hqt
          obtain ⟨hexb, hexh⟩ := evL_bd ex hmem
          have hnx : ((evL E0 ofA ofB).take (q + 1)) = (evL E0 ofA ofB).take q ++ [ex] := by
            rw [List.take_add_one, List.getElem?_eq_getElem hqt]
            have := HEX.out
            rw [List.getElem?_eq_getElem hqt] at this
            rw [this]; rfl
          have hsi := HSQ.out ex hexb.1 (fun x hx => by
            obtain ⟨j, hj⟩ := List.mem_iff_getElem?.1 hx
            rw [List.getElem?_take] at hj
            split at hj
            · rename_i hjq
              obtain ⟨l1, e1⟩ := List.getElem?_eq_some_iff.1 hj
              have h3 := List.pairwise_iff_getElem.1 (evL_inc E0 ofA ofB) j q l1 hqt hjq
              have := HEX.out
              rw [List.getElem?_eq_getElem hqt, Option.getD_some] at this
              rw [this, ← e1]; exact h3
            · cases hj)
          obtain ⟨e0, rfl⟩ : ∃ e0 : Nat, ex = e0 := ⟨ex.toNat, by omega⟩
          have he0 : e0 < E0 := by omega
          have HSI := Hid.of hsi
          have HNX : Hid (((evL E0 ofA ofB).take (q + 1)).foldl (bEv a b ofA ofB k ((x0 : Int), (y0 : Int))) s = bEv a b ofA ofB k ((x0 : Int), (y0 : Int)) (((evL E0 ofA ofB).take q).foldl (bEv a b ofA ofB k ((x0 : Int), (y0 : Int))) s) (e0 : Int)) := by show _ = _; rw [hnx, List.foldl_append]; rfl
          have HMON : Hid (∀ s2, s2 = ((evL E0 ofA ofB).take (q + 1)).foldl (bEv a b ofA ofB k ((x0 : Int), (y0 : Int))) s → bBig s2 = true → bBig ((evL E0 ofA ofB).foldl (bEv a b ofA ofB k ((x0 : Int), (y0 : Int))) s) = true) := fun s2 h1 h2 => by
            rw [← List.take_append_drop (q + 1) (evL E0 ofA ofB), List.foldl_append, ← h1]
            exact bBig_evs _ h2
          have HTK : Hid (∀ e : Int, (∀ x ∈ (evL E0 ofA ofB).take (q + 1), x < e) → (e0 : Int) < e) := fun e h => h _ (by rw [hnx]; simp)
          clear hsi hnx hmem
          have ia := place_lt hx0 he0
          have ib := place_lt hy0 he0
          rw [← HNA.out] at ia
          rw [← HNB.out] at ib
          obtain ⟨wa1, wa2⟩ := wrap_at ia hNA
          obtain ⟨wb1, wb2⟩ := wrap_at ib hNB
          obtain ⟨va1', va2'⟩ := iwrap_at ia hNA
          obtain ⟨vb1', vb2'⟩ := iwrap_at ib hNB
          obtain ⟨pa, Hpa⟩ : ∃ pa, Hid (pa = x0 * E0 + e0) := ⟨_, rfl⟩
          obtain ⟨qa, Hqa⟩ : ∃ qa, Hid (qa = y0 * E0 + e0) := ⟨_, rfl⟩
          rw [← Hpa.out] at ia wa2 va2'
          rw [← Hqa.out] at ib wb2 vb2'
          have HRA := Hid.of (HXA.out.turn HT.out)
          have HRB := Hid.of (HXB.out.turn HT.out)
          obtain ⟨aa, ac, ra1, ra2⟩ := HRA.out.row pa ia
          obtain ⟨ba, bc, rb1, rb2⟩ := HRB.out.row qa ib
          have RA2 := Hid.of ra2
          have RB2 := Hid.of rb2
          have HLA : Hid (TA pa = toL a.arrows ofA x0 e0) := by show _ = _; rw [Hpa.out]; exact eA.out x0 e0 hx0 he0
          have HLB : Hid (TB qa = toL b.arrows ofB y0 e0) := by show _ = _; rw [Hqa.out]; exact eB.out y0 e0 hy0 he0
          clear ra2 rb2
          obtain ⟨s1, HS1⟩ : ∃ s1, Hid (s1 = ((evL E0 ofA ofB).take q).foldl (bEv a b ofA ofB k ((x0 : Int), (y0 : Int))) s) := ⟨_, rfl⟩
          rw [← HS1.out] at HF HG HL HSI HNX
          have HFO : Hid ((crossP (TA pa) (TB qa)).foldl (bAdd k (e0 : Int)) s1 = bEv a b ofA ofB k ((x0 : Int), (y0 : Int)) s1 (e0 : Int)) := by
            show _ = _
            rw [HLA.out, HLB.out]
            unfold bEv
            rw [leadsP_to ma.out mb.out ofA ofB _ _ hexh]
          have HS2 : Hid (SI a b k ((e0 : Int) + 1) (bEv a b ofA ofB k ((x0 : Int), (y0 : Int)) s1 (e0 : Int))) := by
            rw [← HFO.out]
            refine HSI.out.fold (fun p hp => ?_)
            obtain ⟨h1, h2⟩ := (mem_crossP _ _ _).1 hp
            rw [HLA.out] at h1
            rw [HLB.out] at h2
            exact ⟨toL_bd ma.out ofA _ ⟨by omega, by rw [hSA]; omega⟩ _ h1, toL_bd mb.out ofB _ ⟨by omega, by rw [hSB]; omega⟩ _ h2⟩
          have HPX : Hid (∀ {F' : Nat → Prop} {Y : World}, Turn (FF bf br vs va1 ve vp1) F' X Y → Blk Y pb 135 #[.int .i64 x0, .int .i64 y0]) := fun {F' Y} t => (t.block pb HXP.out.lt HNF.out).trans HXP.out
          have b0 := (HPX.out HT.out).cell 0 rfl
          have b1 := (HPX.out HT.out).cell 1 rfl
          have f1 := HF.out.cells.2.1
          have lpb := (HPX.out HT.out).lt
          have lta := HRA.out.lt
          have ltb := HRB.out.lt
          have lbf := HF.out.blk.lt
          have HLEAD : Hid (Calls Tryd.prog 105 #[.pointer (some ⟨bf, 0, none⟩), .int .i64 k, .int .i64 e0, .slice aa (TA pa).length ac, .slice ba (TB qa).length bc] wr.drew fun r W' => LeadPost B wr.drew bf br (E0 : Int) vs va2 ve vp2 S E ((crossP (TA pa) (TB qa)).foldl (bAdd k (e0 : Int)) s1) r W') :=
            lead_any B wr.drew bf br (E0 : Int) vs va2 ve vp2 S E s1 a b k (e0 : Int) aa ba ac bc (TA pa) (TB qa) HF.out.drew HG HL HSI.out.lo (by omega) (by omega) (RA2.out.turn (Turn.refl _ _).drew) (RB2.out.turn (Turn.refl _ _).drew) (by rw [HLA.out]; exact toL_len ma.out _ _ _) (by rw [HLB.out]; exact toL_len mb.out _ _ _) (by rw [HLA.out]; exact toL_inc ma.out _ _ _) (by rw [HLB.out]; exact toL_inc mb.out _ _ _)
              (fun x hx => by rw [HLA.out] at hx; have := toL_bd ma.out ofA (s := (x0 : Int)) _ ⟨by omega, by rw [hSA]; omega⟩ x hx; rw [hSA] at this; omega) (fun x hx => by rw [HLB.out] at hx; have := toL_bd mb.out ofB (s := (y0 : Int)) _ ⟨by omega, by rw [hSB]; omega⟩ x hx; rw [hSB] at this; omega)
          rw [HFO.out] at HLEAD
          obtain ⟨s2, HS2e⟩ : ∃ s2, Hid (s2 = bEv a b ofA ofB k ((x0 : Int), (y0 : Int)) s1 (e0 : Int)) := ⟨_, rfl⟩
          rw [← HS2e.out] at HLEAD HS2 HNX
          clear HFO HLA HLB HSI HEX
          rw [hea]
          have HAFT : Hid (∀ (w1 : World) (va3 vp3 : Value), Turn (FF bf br vs va2 ve vp2) (FF bf br vs va3 ve vp3) wr.drew w1 → w1.cell? ⟨bf, 1, none⟩ = some (.int .i64 E0) → w1.cell? ⟨pb, 0, none⟩ = some (.int .i64 x0) ∧ w1.cell? ⟨pb, 1, none⟩ = some (.int .i64 y0) ∧ w1.cell? ⟨bf, 1, none⟩ = some (.int .i64 E0) ∧ w1.cell? ⟨ta, pa, none⟩ = some (.slice aa (TA pa).length ac) ∧ w1.cell? ⟨tb, qa, none⟩ = some (.slice ba (TB qa).length bc)) := fun w1 va3 vp3 t hbf => by
            have t' := HT.out.drew.trans t
            refine ⟨(HPX.out t').cell 0 rfl, (HPX.out t').cell 1 rfl, hbf, ?_, ?_⟩
            · exact (World.cell?_of_block (w := wr) (t.block ta HRA.out.lt HRA.out.nf)).trans ra1
            · exact (World.cell?_of_block (w := wr) (t.block tb HRB.out.lt HRB.out.nf)).trans rb1
          have hk8 : k ≤ 256 := by omega
          go_wp2_with fail
          cases hb2 : bBig s2 with
          | true =>
            have HNO : Hid (besideS a b ofA ofB = none) := by
              show _ = _
              rw [HE.out]
              refine go_big hp.out ?_ (by omega)
              rw [← bPair_ev hEa.out]
              exact HMON.out s2 HNX.out.symm hb2
            go_region_held3 (fun w' => w'.cell? ⟨pb, 0, none⟩ = some (.int .i64 x0) ∧ w'.cell? ⟨pb, 1, none⟩ = some (.int .i64 y0) ∧ w'.cell? ⟨bf, 1, none⟩ = some (.int .i64 E0) ∧ w'.cell? ⟨ta, pa, none⟩ = some (.slice aa (TA pa).length ac) ∧ w'.cell? ⟨tb, qa, none⟩ = some (.slice ba (TB qa).length bc)) (go_keep) (first | (go_at_call 105; refine HLEAD.out.mono ?_; rintro r w1 ⟨va3, vp3, rfl, hT3, hc3, hF3⟩; have T3 := Hid.of (HT.out.drew.trans hT3); have F3 := Hid.of hF3; rw [hb2]; obtain ⟨d0, d1, d2, d3, d4⟩ := HAFT.out w1 va3 vp3 hT3 hc3; clear hT3 hF3 hc3))
            go_wp2_with fail
            go_ret
            refine ⟨va3, vp3, HXT.out.trans T3.out, ?_⟩
            rw [HNO.out]; rfl
          | false =>
            go_region_held3 (fun w' => w'.cell? ⟨pb, 0, none⟩ = some (.int .i64 x0) ∧ w'.cell? ⟨pb, 1, none⟩ = some (.int .i64 y0) ∧ w'.cell? ⟨bf, 1, none⟩ = some (.int .i64 E0) ∧ w'.cell? ⟨ta, pa, none⟩ = some (.slice aa (TA pa).length ac) ∧ w'.cell? ⟨tb, qa, none⟩ = some (.slice ba (TB qa).length bc)) (go_keep) (first | (go_at_call 105; refine HLEAD.out.mono ?_; rintro r w1 ⟨va3, vp3, rfl, hT3, hc3, hF3⟩; have T3 := Hid.of (HT.out.drew.trans hT3); have F3 := Hid.of hF3; rw [hb2]; obtain ⟨d0, d1, d2, d3, d4⟩ := HAFT.out w1 va3 vp3 hT3 hc3; clear hT3 hF3 hc3))
            go_wp2_with fail
            go_roundw
            case rel => exact ⟨q + 1, va3, vp3, by omega, by go_num, by show FD _ _ _ _ _ _ _ _ _ _ _ _ _ _; rw [HNX.out]; exact (F3.out hb2).1, T3, by show _ = _; rw [HNX.out]; exact hb2, by show _ = _; rw [HNX.out]; exact (F3.out hb2).2, fun e he h => by rw [HNX.out]; exact HS2.out.mono (.inr ⟨rfl, by have := HTK.out e h; omega⟩)⟩
            case measure => simp [intOf]; omega
        · have hqq : q = (evL E0 ofA ofB).length := by omega
          rw [List.take_of_length_le (show (evL E0 ofA ofB).length ≤ q by omega)] at HF HG HL HSQ
          rw [bPair_ev hEa.out] at HF HG HL HSQ
          have HNG : Hid (besideS a b ofA ofB = bGo a b ofA ofB (300 - (k + 1)) (k + 1) (bEvs a b ofA ofB k ((x0 : Int), (y0 : Int)) s a.ev.toNat)) := by
            show _ = _
            rw [HE.out, go_next hp.out HG.out (by omega)]; rfl
          have hbs := bBig_some HG.out
          have HPS : Hid (k + 1 ≤ (bEvs a b ofA ofB k ((x0 : Int), (y0 : Int)) s a.ev.toNat).ps.length) := by
            obtain ⟨t, ht⟩ := bEvs_ps a b ofA ofB k ((x0 : Int), (y0 : Int)) s a.ev.toNat
            show _ ≤ _
            rw [ht, List.length_append]; omega
          have HSN : Hid (SI a b ((k + 1 : Nat) : Int) 0 (bEvs a b ofA ofB k ((x0 : Int), (y0 : Int)) s a.ev.toNat)) := (HSQ.out (E0 : Int) (by omega) (fun x hx => by have := (evL_bd x hx).1.2; omega)).mono (.inl (by omega))
          go_wp2_with fail
          go_roundw
          case rel => exact ⟨k + 1, _, va2, vp2, by go_num, HPS.out, hbs.1, HF, HXT.out.trans HT.out, HG, HL, HSN, HNG⟩
          case measure => simp [intOf]; omega
    · have HFIN : Hid (besideS a b ofA ofB = some s) := by show _ = _; rw [HE.out]; exact go_end hlt
      go_wp2_with fail
      go_ret
      refine ⟨va1, vp1, HT.out, ?_⟩
      rw [HFIN.out]
      exact ⟨rfl, HF.out, hps⟩

end Go.Proofs.YtbdkaobbfmgnhaaDoor
