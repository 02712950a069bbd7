/-
  The walk of row.pick: the numbers of two rows of which a closure says that they stay; and its answer where one is no row.
-/
import Derived.Test.YtfjkdlhnieiibaaFirst
import Derived.Test.YtfjkdlhnieiibaaRowIs
namespace Go.Proofs.Ytfjkdlhnieiibaa
open Go.RowKit
set_option linter.unusedVariables false

theorem AtB.at {w : World} {B : Nat} {a : Option Addr} {xs : List Int} (h : AtB w B a xs) (hB : B ≤ w.heap.size) : At w a xs := by
  rcases h with h | ⟨b, off, rfl, hlt, hc⟩
  · exact .inl h
  · exact .inr ⟨b, off, rfl, by omega, hc⟩

/-- Not both are empty. -/
def NE (xs ys : List Int) : Prop := ¬ (xs = [] ∧ ys = [])

/-- What a closure that says whether a number stays is good for. -/
def StaysSaid (F B : Nat) (a1 : Option Addr) (c1 : Nat) (xs : List Int) (a2 : Option Addr) (c2 : Nat) (ys : List Int) (st : Int → Bool) : Prop :=
  ∀ (w : World) (n : Int), PI w B a1 c1 xs a2 c2 ys n → Calls Try.prog F #[.int .i64 n, .pointer (some ⟨B + 4, 0, none⟩), .pointer (some ⟨B + 5, 0, none⟩)] w fun e w' => e = .returned (.bool (st n)) ∧ PI w' B a1 c1 xs a2 c2 ys n ∧ Kept (fun k => k ≠ B + 1 ∧ k ≠ B + 3) w w'

/-- What holds at the head of each round of pick. -/
structure PR (w wr : World) (B : Nat) (a1 : Option Addr) (c1 : Nat) (xs : List Int) (a2 : Option Addr) (c2 : Nat) (ys : List Int) (st : Int → Bool) (p1 : Option Addr) (d1 : Nat) (xs' : List Int) (p2 : Option Addr) (d2 : Nat) (ys' : List Int) (v : Value) (L : List Int) (m : Int) : Prop where
  r1 : AtB wr B p1 xs'
  r2 : AtB wr B p2 ys'
  k1 : xs'.length ≤ d1
  k2 : ys'.length ≤ d2
  m1 : d1 ≤ maxLen
  m2 : d2 ≤ maxLen
  i1 : Inc xs'
  i2 : Inc ys'
  g1 : ∀ z ∈ xs', m ≤ z
  g2 : ∀ z ∈ ys', m ≤ z
  pi : PI wr B a1 c1 xs a2 c2 ys m
  own : Own wr (B + 6) v L
  bel : Below B w wr
  hsz : B + 6 ≤ wr.heap.size
  eq : (uni xs ys).filter st = L ++ (uni xs' ys').filter st

/-- The length of a slice value. -/
def lenSl : Value → Nat
  | .slice _ n _ => n
  | _ => 0

theorem pi_drewN {w : World} {B : Nat} {a1 : Option Addr} {c1 : Nat} {xs : List Int} {a2 : Option Addr} {c2 : Nat} {ys : List Int} {n : Int} (h : PI w B a1 c1 xs a2 c2 ys n) (q : Nat) : PI (w.drewN q) B a1 c1 xs a2 c2 ys n := h.kept ⟨rfl, rfl, rfl, Nat.le_refl _, fun _ _ => rfl⟩
theorem atB_drewN {w : World} {B : Nat} {a : Option Addr} {xs : List Int} (h : AtB w B a xs) (q : Nat) : AtB (w.drewN q) B a xs := h

theorem Own.kept {w w' : World} {B : Nat} {v : Value} {xs : List Int} {K : Nat → Prop} (h : Own w B v xs) (hk : Kept K w w') (hK : ∀ k, B ≤ k → K k) : Own w' B v xs := by
  refine ⟨h.1, ?_⟩
  rcases h.2 with hn | ⟨g, cap, cur, rfl, hb, hgg, rest⟩
  · exact .inl hn
  · exact .inr ⟨g, cap, cur, rfl, hb, (hk.block g (hK g hb)).trans hgg, rest⟩

theorem kept_drewN {K : Nat → Prop} {a w : World} (h : Kept K (a) w) (q : Nat) : Kept K a (w.drewN q) := h.trans ⟨rfl, rfl, rfl, Nat.le_refl _, fun _ _ => rfl⟩
theorem kept_of_drewN {K : Nat → Prop} {a w : World} {q : Nat} (h : Kept K (a.drewN q) w) : Kept K a w := ⟨h.os, h.tape, h.output, h.size, h.block⟩

section
variable {w wr w2 : World} {B : Nat} {a1 : Option Addr} {c1 : Nat} {xs : List Int} {a2 : Option Addr} {c2 : Nat} {ys : List Int} {st : Int → Bool} {p1 : Option Addr} {d1 : Nat} {xs' : List Int} {p2 : Option Addr} {d2 : Nat} {ys' : List Int} {v : Value} {L : List Int} {m : Int} {p1' : Option Addr} {d1' : Nat} {p2' : Option Addr} {d2' : Nat} {q : Nat}

theorem PR.drop (hr : PR w wr B a1 c1 xs a2 c2 ys st p1 d1 xs' p2 d2 ys' v L m) (hne : NE xs' ys')
    (s1 : AtB (wr.drewN q) B p1' (rem xs' (fst xs' ys'))) (s2 : (rem xs' (fst xs' ys')).length ≤ d1') (s3 : d1' ≤ maxLen) (t1 : AtB (wr.drewN q) B p2' (rem ys' (fst xs' ys'))) (t2 : (rem ys' (fst xs' ys')).length ≤ d2') (t3 : d2' ≤ maxLen)
    (hpi : PI w2 B a1 c1 xs a2 c2 ys (fst xs' ys')) (hk : Kept (fun k => k ≠ B + 1 ∧ k ≠ B + 3) (wr.drewN q) w2) (hs : st (fst xs' ys') = false) :
    PR w w2 B a1 c1 xs a2 c2 ys st p1' d1' (rem xs' (fst xs' ys')) p2' d2' (rem ys' (fst xs' ys')) v L (fst xs' ys') where
  r1 := s1.kept hk (fun k h => by omega)
  r2 := t1.kept hk (fun k h => by omega)
  k1 := s2
  k2 := t2
  m1 := s3
  m2 := t3
  i1 := inc_rem _ hr.i1
  i2 := inc_rem _ hr.i2
  g1 := fun z hz => Int.le_of_lt ((rem_low hr.i1 hr.i2).1 z hz)
  g2 := fun z hz => Int.le_of_lt ((rem_low hr.i1 hr.i2).2 z hz)
  pi := hpi
  own := hr.own.kept (kept_of_drewN hk) (fun k h => by omega)
  bel := hr.bel.trans ((kept_of_drewN hk).below (fun k h => by omega))
  hsz := Nat.le_trans hr.hsz hk.size
  eq := by rw [hr.eq, uni_step _ _ hne, List.filter_cons, hs]; rfl

theorem PR.keep {w3 : World} {v' : Value} {o : Obj} (hr : PR w wr B a1 c1 xs a2 c2 ys st p1 d1 xs' p2 d2 ys' v L m) (hne : NE xs' ys')
    (s1 : AtB (wr.drewN q) B p1' (rem xs' (fst xs' ys'))) (s2 : (rem xs' (fst xs' ys')).length ≤ d1') (s3 : d1' ≤ maxLen) (t1 : AtB (wr.drewN q) B p2' (rem ys' (fst xs' ys'))) (t2 : (rem ys' (fst xs' ys')).length ≤ d2') (t3 : d2' ≤ maxLen)
    (hpi : PI w2 B a1 c1 xs a2 c2 ys (fst xs' ys')) (hk : Kept (fun k => k ≠ B + 1 ∧ k ≠ B + 3) (wr.drewN q) w2) (hs : st (fst xs' ys') = true)
    (hown' : w3.ownsRow (B + 6) 3 1 v' (L.length + 1) (L.map (Value.int .i64) ++ [.int .i64 (fst xs' ys')])) (hgrow : (w2.alloc o).grownBy w3 v.ownBlock) :
    PR w w3 B a1 c1 xs a2 c2 ys st p1' d1' (rem xs' (fst xs' ys')) p2' d2' (rem ys' (fst xs' ys')) v' (L ++ [fst xs' ys']) (fst xs' ys') := by
  have hsz2 : B + 6 ≤ w2.heap.size := Nat.le_trans hr.hsz hk.size
  obtain ⟨o1, o2, o3⟩ := own_snoc (w := w2) (hr.own.kept (kept_of_drewN hk) (fun k h => by omega)) (Below.refl _ _) hsz2 hown' hgrow
  have hk3 : Kept (fun k => k < B + 6) w2 w3 := ⟨o2.os, o2.tape, o2.output, o2.size, o2.block⟩
  exact {
    r1 := (s1.kept hk (fun k h => by omega)).kept hk3 (fun k h => by omega)
    r2 := (t1.kept hk (fun k h => by omega)).kept hk3 (fun k h => by omega)
    k1 := s2
    k2 := t2
    m1 := s3
    m2 := t3
    i1 := inc_rem _ hr.i1
    i2 := inc_rem _ hr.i2
    g1 := fun z hz => Int.le_of_lt ((rem_low hr.i1 hr.i2).1 z hz)
    g2 := fun z hz => Int.le_of_lt ((rem_low hr.i1 hr.i2).2 z hz)
    pi := hpi.kept hk3
    own := o1
    bel := (hr.bel.trans ((kept_of_drewN hk).below (fun k h => by omega))).trans (o2.mono (by omega))
    hsz := o3
    eq := by rw [hr.eq, uni_step _ _ hne, List.filter_cons, hs]; simp }

theorem PR.room (hr : PR w wr B a1 c1 xs a2 c2 ys st p1 d1 xs' p2 d2 ys' v L m) : L.length ≤ xs.length + ys.length := by
  have h := congrArg List.length hr.eq
  have h1 := List.length_filter_le st (uni xs ys)
  have h2 := uni_len_le xs ys
  rw [List.length_append] at h
  omega
end


end Go.Proofs.Ytfjkdlhnieiibaa
