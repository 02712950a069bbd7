/-
  What is said of a slice of slices of integers: that it reads as a list of lists ('At2'), that it is in the call's own memory ('Own2'); one row more.
  append onto a row of the call's own: the row stays in its block, or it is in a new one.
  Small facts on rows that a call has made: their blocks are apart by their types; a block that is another object.
  The walks of slices.Index, slices.Contains and row.Has: whether a list has a number.
  Plain: states, and where unseen events lead to from them, as the reference finds them. No program, no model.
  Plain: what unseen events come to, and the machine of what is seen. No program, no model.
  Plain: the machine of what is seen: it may be, and it accepts what is seen of the words that are accepted. No program, no model.
-/
import Derived.Test.YtmlkpdeidpcidaaDoorG04
import Derived.Test.YtmlkpdeidpcidaaDoorG03
import Derived.Deep.RegionLaw
import Derived.Test.YtmlkpdeidpcidaaDoorG05
import Derived.Test.YtmlkpdeidpcidaaDoorG11
namespace Go.Proofs.YtmlkpdeidpcidaaDoor
open Go.RowKit
set_option linter.unusedVariables false

/-- A slice of slices reads as a list of lists. -/
def At2 (w : World) (a : Option Addr) (LL : List (List Int)) : Prop :=
  LL = [] ∨ ∃ b off, a = some ⟨b, off, none⟩ ∧ b < w.heap.size ∧ ∀ (k : Nat) (xs : List Int), LL[k]? = some xs → ∃ a' c', w.cell? ⟨b, off + k, none⟩ = some (.slice a' xs.length c') ∧ At w a' xs ∧ xs.length ≤ maxLen
theorem At2.below {w w' : World} {a : Option Addr} {LL : List (List Int)} {B : Nat} (h : At2 w a LL) (hb : Below B w w') (hB : w.heap.size ≤ B) : At2 w' a LL := by
  rcases h with h | ⟨b, off, rfl, hlt, hc⟩
  · exact .inl h
  · refine .inr ⟨b, off, rfl, Nat.lt_of_lt_of_le hlt hb.size, fun k xs hk => ?_⟩
    obtain ⟨a', c', h1, h2, h3⟩ := hc k xs hk
    exact ⟨a', c', (hb.cell (p := ⟨b, off + k, none⟩) (Nat.lt_of_lt_of_le hlt hB)).trans h1, h2.below hb hB, h3⟩
end Go.Proofs.YtmlkpdeidpcidaaDoor
namespace Go.Proofs.YtmlkpdeidpcidaaDoor
open Go.RowKit
set_option linter.unusedVariables false

section
variable {P : Program} (w : World)
theorem run_append_block (base : Nat) (t ty e : TypeId) (i : TypeInfo) (z : Value) (size bytes : Nat) (ht : P.underlying t = some (.slice e)) (hi : P.info? e = some i) (hz : i.zero = some z)
    (hsize : i.size = size) (hby : i.bytes = bytes) (hzs : z.cells.size = size) (hsz : 0 < size)
    (v : Value) (n : Nat) (xs : List Value) (hown : w.ownsRow base e size v n xs)
    (a : Addr) (m c : Nat) (news : List Value) (hl : news.length = m * size) (hnews : ∀ j u, news[j]? = some u → w.cell? (a.add j) = some u) (h1 : ∀ u ∈ news, u.oneCell' = true)
    (hm : 0 < m) (h63 : n + m ≤ maxLen) (hbytes : (n + m) * bytes ≤ 140737488355328) (hbase : base ≤ w.heap.size) :
    ∃ v' w', (Builtin.append_ #[t, t] ty #[v, .slice (some a) m c]).run P w = .ok v' w' ∧ w'.ownsRow base e size v' (n + m) (xs ++ news) ∧ w.grownBy w' v.ownBlock ∧ (v'.ownBlock = v.ownBlock ∨ v'.ownBlock = some w.heap.size) := by
  obtain ⟨v', w', hrun, h2, h3, -⟩ := run_append_own (P := P) w base t ty e i z size bytes ht hi hz hsize hby hzs hsz v n xs hown a m c news hl hnews h1 h63 hbytes hbase
  refine ⟨v', w', hrun, h2, h3, ?_⟩
  have h9 : n + m ≤ 9223372036854775807 := by simp only [maxLen] at h63; omega
  subst hsize
  subst hby
  rcases hown.2 with ⟨rfl, rfl⟩ | ⟨g, cap, cur, rfl, hbg, hg, hnc, hcm, hcs, htake⟩
  · have hr := run_append_nil (P := P) w t ty e i z ht hi hz a m c news hl hnews hm (by omega) (by have hb := hbytes; simp only [Nat.zero_add] at hb; omega)
    rw [hrun] at hr
    injection hr with e1 e2
    right; rw [e1]; rfl
  · by_cases hroom : n + m ≤ cap
    · have hr := run_append_room (P := P) w t ty e i ht hi g n cap cur hg a m c news hl hnews h1 hroom (by rw [hl, hcs, ← Nat.add_mul]; exact Nat.mul_le_mul_right _ hroom)
      rw [hrun] at hr
      injection hr with e1 e2
      left; rw [e1]; rfl
    · have hr := run_append_grow (P := P) w t ty e i z ht hi hz ⟨g, 0, none⟩ n cap xs hown.1 (hown.cells (g := g) rfl) a m c news hl hnews (by omega) (by omega) (growslice_fits (by omega) hbytes)
      rw [hrun] at hr
      injection hr with e1 e2
      right; rw [e1]; rfl

theorem wpList_append_block {ops : Array Oper} {rest : List Oper} {o : Oper} {a : Act} {Q : Exit → Act → World → Prop} (hgd : o.guard = none) (s x : Operand) (t : TypeId)
    (ho : o.op = .call { callee := .builtin .append, args := #[s, x], argTypes := #[t, t] })
    (base : Nat) (e : TypeId) (i : TypeInfo) (z : Value) (size bytes : Nat) (ht : P.underlying t = some (.slice e)) (hi : P.info? e = some i) (hz : i.zero = some z)
    (hsize : i.size = size) (hby : i.bytes = bytes) (hzs : z.cells.size = size) (hsz : 0 < size)
    (v : Value) (n : Nat) (xs : List Value) (hs : a.eval s = v) (hown : w.ownsRow base e size v n xs)
    (ad : Addr) (m c : Nat) (news : List Value) (hx : a.eval x = .slice (some ad) m c) (hl : news.length = m * size) (hnews : ∀ j u, news[j]? = some u → w.cell? (ad.add j) = some u) (h1 : ∀ u ∈ news, u.oneCell' = true)
    (hm : 0 < m) (h63 : n + m ≤ maxLen) (hbytes : (n + m) * bytes ≤ 140737488355328) (hbase : base ≤ w.heap.size)
    (h : ∀ v' w', w'.ownsRow base e size v' (n + m) (xs ++ news) → w.grownBy w' v.ownBlock → (v'.ownBlock = v.ownBlock ∨ v'.ownBlock = some w.heap.size) → wpList P ops Q rest (a.put o.dst v') w') : wpList P ops Q (o :: rest) a w := by
  obtain ⟨v', w', hr, h2, h3, h4⟩ := run_append_block (P := P) w base t o.type e i z size bytes ht hi hz hsize hby hzs hsz v n xs hown ad m c news hl hnews h1 hm h63 hbytes hbase
  refine wpList_plain hgd fun _ hK => ?_
  unfold Oper.wp execOp
  simp only [ho, resolve, invoke, builtin, Sem.run_bind, Sem.run_pure, Result.andThen_ok, List.map_toArray, List.map_cons, List.map_nil, hs, hx, hr]
  exact hK _ _ (h v' w' h2 h3 h4)
end

section
variable {P : Program} {ops : Array Oper} {o : Oper} {a : Act} {w : World} {K : Act → World → Prop} {Q : Exit → Act → World → Prop} {E : Prop}
/-- The same, as one step of a region that draws. -/
theorem step_append_block (hg : o.guard = none) (s x : Operand) (t : TypeId) (hop : o.op = Op.call { callee := Callee.builtin Builtin.append, args := #[s, x], argTypes := #[t, t] })
    (base : Nat) (e : TypeId) (i : TypeInfo) (z : Value) (size bytes : Nat) (h1 : P.underlying t = some (.slice e)) (h2 : P.info? e = some i) (h3 : i.zero = some z) (h4 : i.size = size) (h5 : i.bytes = bytes) (h6 : z.cells.size = size) (h7 : 0 < size)
    (v : Value) (n : Nat) (xs : List Value) (hs : a.eval s = v) (hown : w.ownsRow base e size v n xs)
    (ad : Addr) (m c : Nat) (news : List Value) (hx : a.eval x = .slice (some ad) m c) (hn : news.length = m * size) (hc : ∀ j u, news[j]? = some u → w.cell? (ad.add j) = some u) (h1c : ∀ u ∈ news, u.oneCell' = true)
    (hm : 0 < m) (b1 : n + m ≤ maxLen) (b2 : (n + m) * bytes ≤ 140737488355328) (hbase : base ≤ w.heap.size)
    (hK : ∀ v' w', w'.ownsRow base e size v' (n + m) (xs ++ news) → w.grownBy w' v.ownBlock → (v'.ownBlock = v.ownBlock ∨ v'.ownBlock = some w.heap.size) → K (a.put o.dst v') w') :
    if Region.wanted o (yielded ops a.tmps) = true then Oper.wp P o a w K Q else E := by
  have hw : Region.wanted o (yielded ops a.tmps) = true := by simp [Region.wanted, hg]
  rw [if_pos hw]
  obtain ⟨v', w', hrun, r1, r2, r3⟩ := run_append_block (P := P) w base t o.type e i z size bytes h1 h2 h3 h4 h5 h6 h7 v n xs hown ad m c news hn hc h1c hm b1 b2 hbase
  unfold Oper.wp
  simp [execOp, hop, resolve, invoke, builtin, hs, hx, hrun, Result.andThen]
  exact hK v' w' r1 r2 r3
end

end Go.Proofs.YtmlkpdeidpcidaaDoor
namespace Go.Proofs.YtmlkpdeidpcidaaDoor
open Go.RowKit
set_option linter.unusedVariables false

theorem own_type {W : World} {B s n k : Nat} {e : TypeId} {v : Value} {xs : List Value} (h : W.ownsRow B e s v n xs) (hk : v.ownBlock = some k) : ∃ cs, W.heap[k]? = some (.cells cs e (0, 0)) := by
  rcases h.2 with ⟨rfl, -⟩ | ⟨g, cap, cur, rfl, hg, hh, -⟩
  · cases hk
  · cases hk; exact ⟨cur, hh⟩
theorem own_apart {W : World} {B B' s s' n n' : Nat} {e e' : TypeId} {v v' : Value} {xs xs' : List Value} (h : W.ownsRow B e s v n xs) (h' : W.ownsRow B' e' s' v' n' xs') (hne : e ≠ e') : v.ownBlock = none ∨ v.ownBlock ≠ v'.ownBlock := by
  cases hk : v.ownBlock with
  | none => exact .inl rfl
  | some k =>
    refine .inr fun e1 => ?_
    obtain ⟨c1, h1⟩ := own_type h hk
    obtain ⟨c2, h2⟩ := own_type h' e1.symm
    rw [h1] at h2; cases h2; exact hne rfl
theorem own_form2 {W : World} {B s n : Nat} {e : TypeId} {v : Value} {xs : List Value} (h : W.ownsRow B e s v n xs) : ∃ a c, v = .slice a n c ∧ n ≤ c ∧ c ≤ maxLen ∧ (a = none → c = 0) := by
  rcases h.2 with ⟨rfl, rfl⟩ | ⟨g, cap, cur, rfl, -, -, h1, h2, -⟩
  · exact ⟨none, 0, rfl, Nat.le_refl _, Nat.zero_le _, fun _ => rfl⟩
  · exact ⟨_, cap, rfl, h1, h2, fun h => by cases h⟩
theorem own_same {W W' : World} {B s n : Nat} {e : TypeId} {v : Value} {xs : List Value} (h : W.ownsRow B e s v n xs) (hb : ∀ k, v.ownBlock = some k → W'.heap[k]? = W.heap[k]?) : W'.ownsRow B e s v n xs := by
  refine ⟨h.1, ?_⟩
  rcases h.2 with hn | ⟨g, cap, cur, rfl, hg, hgg, rest⟩
  · exact .inl hn
  · exact .inr ⟨g, cap, cur, rfl, hg, (hb g rfl).trans hgg, rest⟩
theorem cells_three (W W' : World) (hW : W'.heap = W.heap) (t : TypeId) (x y z : Value) : ∀ j u, ([x, y, z] : List Value)[j]? = some u → (W'.alloc (.cells #[x, y, z] t)).cell? ((⟨W.heap.size, 0, none⟩ : Addr).add j) = some u := by
  intro j u hu
  rw [addr0_add, Nat.zero_add, ← hW]
  exact (Blk.new W' t #[x, y, z]).cell j (by rw [← Array.getElem?_toList]; exact hu)
theorem own_arr {W : World} {B : Nat} {v : Value} {A : List Arr} {x : Arr} (h : W.ownsRow B 81 3 v (A.length + 1) (aflat A ++ [.int .i64 x.f, .int .i64 x.e, .int .i64 x.t])) : OwnA W B v (A ++ [x]) := by
  unfold OwnA
  rw [List.length_append, aflat_append]
  exact h
/-- A block is another object. -/
def setMap (w : World) (b : Nat) (o : Obj) : World := { w with heap := w.heap.setIfInBounds b o }
theorem heap_setMap_ne (W : World) (b : Nat) (o : Obj) {j : Nat} (h : j ≠ b) : (setMap W b o).heap[j]? = W.heap[j]? := by
  simp [setMap, Ne.symm h]
theorem heap_setMap (W : World) {b : Nat} (o : Obj) (h : b < W.heap.size) : (setMap W b o).heap[b]? = some o := by
  simp [setMap, h]
theorem size_setMap (W : World) (b : Nat) (o : Obj) : (setMap W b o).heap.size = W.heap.size := by simp [setMap]
theorem ownsRow_set {W : World} {B b j s n : Nat} {e : TypeId} {v : Value} {xs : List Value} (h : W.ownsRow B e s v n xs) (hb : b < B) (x : Value) : (W.setCell ⟨b, j, none⟩ x).ownsRow B e s v n xs := by
  refine ⟨h.1, ?_⟩
  rcases h.2 with hn | ⟨g, cap, cur, rfl, hg, hgg, rest⟩
  · exact .inl hn
  · exact .inr ⟨g, cap, cur, rfl, hg, (Below.heap_setCell W ⟨b, j, none⟩ x g (by show g ≠ b; omega)).trans hgg, rest⟩

end Go.Proofs.YtmlkpdeidpcidaaDoor
namespace Go.Proofs.YtmlkpdeidpcidaaDoor
open Go.RowKit

/-- What slices.Index answers: the first place, or -1. -/
def idxFrom (n : Int) : Nat → List Int → Int
  | _, [] => -1
  | k, x :: r => if n = x then k else idxFrom n (k + 1) r

theorem idx_has (n : Int) : ∀ (xs : List Int) (k : Nat), decide (0 ≤ idxFrom n k xs) = hasB xs n
  | [], _ => rfl
  | x :: r, k => by
    unfold idxFrom
    by_cases h : n = x
    · rw [if_pos h]; subst h; simp [hasB]
    · rw [if_neg h, idx_has n r (k + 1)]
      have h1 : (n == x) = false := by simp [h]
      simp only [hasB, List.contains_cons, h1, Bool.false_or]
theorem idx_hit {xs : List Int} {k : Nat} {n x : Int} (h : k < xs.length) (e : Hid (idxFrom n 0 xs = idxFrom n k (xs.drop k))) (hv : Hid (x = xs[k]?.getD 0)) (hx : (n == x) = true) : (k : Int) = idxFrom n 0 xs := by
  have hx : n = x := by simpa using hx
  rw [e.out, drop_cons h, ← hv.out, idxFrom, if_pos hx]
theorem idx_miss {xs : List Int} {k : Nat} {n x : Int} (h : k < xs.length) (e : Hid (idxFrom n 0 xs = idxFrom n k (xs.drop k))) (hv : Hid (x = xs[k]?.getD 0)) (hx : (n == x) = false) : Hid (idxFrom n 0 xs = idxFrom n (k + 1) (xs.drop (k + 1))) := by
  have hx : ¬ n = x := by simpa using hx
  show idxFrom n 0 xs = _
  rw [e.out, drop_cons h, ← hv.out, idxFrom, if_neg hx]
theorem idx_end {xs : List Int} {k : Nat} {n : Int} (h : ¬ k < xs.length) (e : Hid (idxFrom n 0 xs = idxFrom n k (xs.drop k))) : -1 = idxFrom n 0 xs := by
  rw [e.out, List.drop_eq_nil_of_le (by omega)]; rfl

set_option maxHeartbeats 400000 in
theorem index_some (b off cap : Nat) (xs : List Int) (n : Int) (w : World) (hl : xs.length ≤ 9223372036854775807) (hc : Cells w b off xs) :
    Calls Tryd.prog 131 #[.slice (some ⟨b, off, none⟩) xs.length cap, .int .i64 n] w fun e w' => e = .returned (.int .i64 (idxFrom n 0 xs)) ∧ w' = w := by
  go_enter Tryd.func131, Tryd.ntmps131
  go_wp2
  go_loop [8] (fun i => ∃ k : Nat, k ≤ xs.length ∧ i = .int .i64 k ∧ Hid (idxFrom n 0 xs = idxFrom n k (xs.drop k))) (fun i => xs.length - (intOf i).toNat)
  case atStart => exact ⟨0, Nat.zero_le _, rfl, rfl⟩
  case round =>
    obtain ⟨k, hk, rfl, he⟩ := hrel
    by_cases hlt : k < xs.length
    · obtain ⟨x, HX, hcell⟩ := hc.at hlt
      go_wp2
      · go_ret
        exact ⟨ret_int (idx_hit hlt he HX (by assumption)), rfl⟩
      · go_round
        case rel => exact ⟨k + 1, by omega, by go_num, idx_miss hlt he HX (by assumption)⟩
        case measure => simp [intOf]; omega
    · go_wp2
      go_ret
      exact ⟨ret_int (idx_end hlt he), rfl⟩

set_option maxHeartbeats 400000 in
theorem index_nil (a : Option Addr) (cap : Nat) (n : Int) (w : World) :
    Calls Tryd.prog 131 #[.slice a 0 cap, .int .i64 n] w fun e w' => e = .returned (.int .i64 (-1)) ∧ w' = w := by
  go_enter Tryd.func131, Tryd.ntmps131
  go_wp2
  refine wp_loop_rounds 1 ?_
  rw [rounds_succ]
  go_wp2
  go_ret
  exact ⟨rfl, rfl⟩

theorem index_any (a : Option Addr) (cap : Nat) (xs : List Int) (n : Int) (w : World) (hs : At w a xs) (hl : xs.length ≤ maxLen) :
    Calls Tryd.prog 131 #[.slice a xs.length cap, .int .i64 n] w fun e w' => e = .returned (.int .i64 (idxFrom n 0 xs)) ∧ w' = w := by
  rcases hs with rfl | ⟨b, off, rfl, -, hc⟩
  · exact index_nil a cap n w
  · exact index_some b off cap xs n w hl hc

set_option maxHeartbeats 400000 in
theorem contains_any (a : Option Addr) (cap : Nat) (xs : List Int) (n : Int) (w : World) (hs : At w a xs) (hl : xs.length ≤ maxLen) :
    Calls Tryd.prog 178 #[.slice a xs.length cap, .int .i64 n] w fun e w' => e = .returned (.bool (hasB xs n)) ∧ w' = w := by
  go_enter Tryd.func178, Tryd.ntmps178
  go_wp2_with fail
  refine (index_any a cap xs n _ hs hl).mono ?_
  rintro e w' ⟨rfl, rfl⟩
  go_wp2
  go_ret
  exact ⟨ret_bool (idx_has n xs 0), rfl⟩

set_option maxHeartbeats 400000 in
theorem rowHas_any (a : Option Addr) (cap : Nat) (xs : List Int) (n : Int) (w : World) (hs : At w a xs) (hl : xs.length ≤ maxLen) :
    Calls Tryd.prog 128 #[.slice a xs.length cap, .int .i64 n] w fun e w' => e = .returned (.bool (hasB xs n)) ∧ w' = w := by
  go_enter Tryd.func128, Tryd.ntmps128
  go_wp2_with fail
  refine (contains_any a cap xs n _ hs hl).mono ?_
  rintro e w' ⟨rfl, rfl⟩
  go_wp2
  go_ret
  exact ⟨rfl, rfl⟩

end Go.Proofs.YtmlkpdeidpcidaaDoor
namespace Go.Proofs.YtmlkpdeidpcidaaDoor
open Go.RowKit
set_option linter.unusedVariables false

/-- What is seen of a word. -/
def seenL (seen word : List Int) : List Int := word.filter fun n => hasB seen n == true

/-- One arrow more. -/
def wAdd (seen : List Int) (x : Int) (l : List Int) (a : Arr) : List Int := if (decide (a.f = x) && (!hasB seen a.e && !hasB l a.t)) = true then l ++ [a.t] else l
def wRow (ars : List Arr) (seen : List Int) (x : Int) (l : List Int) : List Int := ars.foldl (wAdd seen x) l
def wGo (ars : List Arr) (seen : List Int) : Nat → Nat → List Int → List Int
  | 0, _, l => l
  | f + 1, k, l => if k < l.length then wGo ars seen f (k + 1) (wRow ars seen (l[k]?.getD 0) l) else l
def wideL (ars : List Arr) (seen ss : List Int) : List Int := srt (wGo ars seen (ss.length + 256) 0 ss)

/-- How a list has grown. -/
def WB (ss l : List Int) : Prop := ∃ t, l = ss ++ t ∧ t.Nodup ∧ ∀ x ∈ t, 0 ≤ x ∧ x < (256 : Nat)
theorem WB.refl (ss : List Int) : WB ss ss := ⟨[], by simp, by simp, by simp⟩
theorem WB.len {ss l : List Int} (h : WB ss l) : l.length ≤ ss.length + 256 := by
  obtain ⟨t, rfl, h1, h2⟩ := h
  have := nodup_len 256 t h1 h2
  rw [List.length_append]; omega
theorem WB.add {ss l : List Int} (h : WB ss l) {seen : List Int} {x : Int} {a : Arr} (ha : 0 ≤ a.t ∧ a.t < (256 : Nat)) : WB ss (wAdd seen x l a) := by
  unfold wAdd
  split
  · rename_i hc
    obtain ⟨t, rfl, h1, h2⟩ := h
    have hn : a.t ∉ ss ++ t := by
      intro hm
      rw [(hasB_iff _ _).2 hm] at hc
      simp at hc
    refine ⟨t ++ [a.t], by rw [List.append_assoc], ?_, ?_⟩
    · rw [List.nodup_append]
      exact ⟨h1, by simp, fun y hy z hz e => by simp at hz; subst hz; subst e; exact hn (by simp [hy])⟩
    · intro y hy
      rcases List.mem_append.1 hy with hy | hy
      · exact h2 y hy
      · have : y = a.t := by simpa using hy
        rw [this]; exact ha
  · exact h
theorem wAdd_pre (seen : List Int) (x : Int) (l : List Int) (a : Arr) : ∃ t, wAdd seen x l a = l ++ t := by
  unfold wAdd; split
  · exact ⟨_, rfl⟩
  · exact ⟨[], by simp⟩
theorem wRow_pre (seen : List Int) (x : Int) : ∀ (ars : List Arr) (l : List Int), ∃ t, wRow ars seen x l = l ++ t
  | [], l => ⟨[], by simp [wRow]⟩
  | a :: r, l => by
    obtain ⟨t, h⟩ := wAdd_pre seen x l a
    obtain ⟨u, h'⟩ := wRow_pre seen x r (wAdd seen x l a)
    exact ⟨t ++ u, by show wRow r seen x (wAdd seen x l a) = _; rw [h', h, List.append_assoc]⟩
theorem wRow_take {ars : List Arr} {seen : List Int} {x : Int} {l : List Int} {j : Nat} {a : Arr} (h : j < ars.length) (ha : Hid (a = ars[j]?.getD arr0)) : wRow (ars.take (j + 1)) seen x l = wAdd seen x (wRow (ars.take j) seen x l) a := by
  have ha := ha.out
  rw [List.getElem?_eq_getElem h, Option.getD_some] at ha
  unfold wRow
  rw [List.take_add_one, List.getElem?_eq_getElem h, List.foldl_append, ← ha]; rfl
theorem wRow_nth {ars : List Arr} {seen : List Int} {x : Int} {l : List Int} {k : Nat} (h : k < l.length) : k < (wRow ars seen x l).length ∧ (wRow ars seen x l)[k]?.getD 0 = l[k]?.getD 0 := by
  obtain ⟨t, e⟩ := wRow_pre seen x ars l
  rw [e, List.getElem?_append_left h, List.length_append]
  exact ⟨by omega, rfl⟩
theorem wGo_next {ars : List Arr} {seen : List Int} {f k : Nat} {l : List Int} (hk : k < l.length) (hf : 0 < f) : wGo ars seen f k l = wGo ars seen (f - 1) (k + 1) (wRow ars seen (l[k]?.getD 0) l) := by
  obtain ⟨g, rfl⟩ : ∃ g, f = g + 1 := ⟨f - 1, by omega⟩
  rw [wGo, if_pos hk]; rfl
theorem wGo_end {ars : List Arr} {seen : List Int} {f k : Nat} {l : List Int} (hk : ¬ k < l.length) : wGo ars seen f k l = l := by
  cases f with
  | zero => rfl
  | succ g => rw [wGo, if_neg hk]
theorem wGo_none (seen : List Int) : ∀ (f k : Nat) (l : List Int), wGo [] seen f k l = l
  | 0, _, _ => rfl
  | f + 1, k, l => by
    rw [wGo]
    split
    · exact wGo_none seen f (k + 1) l
    · rfl
theorem wide_none (seen ss : List Int) : wideL [] seen ss = srt ss := by unfold wideL; rw [wGo_none]

end Go.Proofs.YtmlkpdeidpcidaaDoor
namespace Go.Proofs.YtmlkpdeidpcidaaDoor
open Go.RowKit
set_option linter.unusedVariables false

/-- The arrows that are not seen. -/
def unseenA (ars : List Arr) (seen : List Int) : List Arr := ars.filter fun a => !hasB seen a.e
theorem mem_unseen (ars : List Arr) (seen : List Int) (a : Arr) : a ∈ unseenA ars seen ↔ a ∈ ars ∧ hasB seen a.e = false := by
  unfold unseenA; rw [List.mem_filter]; simp
theorem wAdd_in {seen : List Int} {y x : Int} {l : List Int} {a : Arr} (h : x ∈ wAdd seen y l a) : x ∈ l ∨ (a.f = y ∧ hasB seen a.e = false ∧ x = a.t) := by
  unfold wAdd at h
  split at h
  · rename_i hc
    simp only [Bool.and_eq_true, decide_eq_true_eq, Bool.not_eq_true'] at hc
    rcases List.mem_append.1 h with h | h
    · exact .inl h
    · exact .inr ⟨hc.1, hc.2.1, by simpa using h⟩
  · exact .inl h
theorem wAdd_has {seen : List Int} {y : Int} {l : List Int} {a : Arr} (h1 : a.f = y) (h2 : hasB seen a.e = false) : a.t ∈ wAdd seen y l a := by
  unfold wAdd
  split
  · simp
  · rename_i hc
    cases h3 : hasB l a.t with
    | true => exact (hasB_iff _ _).1 h3
    | false => exact absurd (by simp [h1, h2, h3]) hc
theorem wRow_in {seen : List Int} {y x : Int} : ∀ {ars : List Arr} {l : List Int}, x ∈ wRow ars seen y l → x ∈ l ∨ ∃ a ∈ ars, a.f = y ∧ hasB seen a.e = false ∧ x = a.t
  | [], l, h => .inl h
  | a :: r, l, h => by
    rcases wRow_in (ars := r) (l := wAdd seen y l a) h with h | ⟨c, hc, h'⟩
    · rcases wAdd_in h with h | h
      · exact .inl h
      · exact .inr ⟨a, by simp, h⟩
    · exact .inr ⟨c, by simp [hc], h'⟩
theorem wRow_has {seen : List Int} {y : Int} : ∀ {ars : List Arr} {l : List Int} {a : Arr}, a ∈ ars → a.f = y → hasB seen a.e = false → a.t ∈ wRow ars seen y l
  | [], _, a, h, _, _ => by simp at h
  | c :: r, l, a, h, h1, h2 => by
    rcases List.mem_cons.1 h with rfl | h
    · obtain ⟨t, e⟩ := wRow_pre seen y r (wAdd seen y l a)
      show a.t ∈ wRow r seen y (wAdd seen y l a)
      rw [e]
      exact List.mem_append_left _ (wAdd_has h1 h2)
    · exact wRow_has (ars := r) h h1 h2
theorem wRow_wb {ss : List Int} {seen : List Int} {y : Int} : ∀ {ars : List Arr} {l : List Int}, (∀ a ∈ ars, 0 ≤ a.t ∧ a.t < (256 : Nat)) → WB ss l → WB ss (wRow ars seen y l)
  | [], _, _, h => h
  | a :: r, l, hin, h => wRow_wb (ars := r) (fun c hc => hin c (by simp [hc])) (h.add (hin a (by simp)))
/-- What is known when the first k have been gone on from. -/
structure WI (ars : List Arr) (seen ss : List Int) (k : Nat) (l : List Int) : Prop where
  wb : WB ss l
  rch : ∀ x ∈ l, Rch (·.f) (·.t) (unseenA ars seen) ss x
  cl : ∀ i, i < k → ∀ y, l[i]? = some y → ∀ a ∈ unseenA ars seen, a.f = y → a.t ∈ l
theorem wi_next {ars : List Arr} {seen ss : List Int} (hin : ∀ a ∈ ars, 0 ≤ a.t ∧ a.t < (256 : Nat)) {k : Nat} {l : List Int} (h : WI ars seen ss k l) (hk : k < l.length) : WI ars seen ss (k + 1) (wRow ars seen (l[k]?.getD 0) l) := by
  have hy : l[k]? = some l[k] := List.getElem?_eq_getElem hk
  rw [hy, Option.getD_some]
  obtain ⟨t, ht⟩ := wRow_pre seen l[k] ars l
  refine ⟨wRow_wb hin h.wb, fun x hx => ?_, fun i hi y hy' a ha hf => ?_⟩
  · rcases wRow_in hx with hx | ⟨a, ha, h1, h2, rfl⟩
    · exact h.rch x hx
    · exact rch_step (fr := (·.f)) (to := (·.t)) ((mem_unseen _ _ _).2 ⟨ha, h2⟩) (by rw [h1]; exact h.rch _ (List.getElem_mem _))
  · have hl : i < l.length := by omega
    rw [ht, List.getElem?_append_left hl] at hy'
    by_cases hik : i = k
    · subst hik
      rw [hy] at hy'
      have hy' := Option.some.inj hy'
      obtain ⟨h1, h2⟩ := (mem_unseen _ _ _).1 ha
      exact wRow_has h1 (by rw [hf, hy']) h2
    · rw [ht]
      exact List.mem_append_left _ (h.cl i (by omega) y hy' a ha hf)
theorem wi_go {ars : List Arr} {seen ss : List Int} (hin : ∀ a ∈ ars, 0 ≤ a.t ∧ a.t < (256 : Nat)) : ∀ (f k : Nat) (l : List Int), WI ars seen ss k l → ss.length + 256 ≤ f + k → k ≤ l.length → WI ars seen ss (wGo ars seen f k l).length (wGo ars seen f k l)
  | 0, k, l, h, hf, hk => by
    have := h.wb.len
    have e : k = l.length := by omega
    show WI ars seen ss l.length l
    rw [← e]; exact h
  | f + 1, k, l, h, hf, hk => by
    rw [wGo]
    split
    · rename_i hlt
      refine wi_go hin f (k + 1) _ (wi_next hin h hlt) (by omega) ?_
      obtain ⟨t, ht⟩ := wRow_pre seen (l[k]?.getD 0) ars l
      rw [ht, List.length_append]; omega
    · rename_i hlt
      have e : k = l.length := by omega
      rw [← e]; exact h
theorem mem_wide {ars : List Arr} {seen ss : List Int} (hin : ∀ a ∈ ars, 0 ≤ a.t ∧ a.t < (256 : Nat)) (x : Int) : x ∈ wideL ars seen ss ↔ Rch (·.f) (·.t) (unseenA ars seen) ss x := by
  have h := wi_go hin (ss.length + 256) 0 ss ⟨WB.refl _, fun x hx => rch_start hx, fun i hi => by omega⟩ (by omega) (by omega) (seen := seen)
  unfold wideL
  rw [mem_srt]
  constructor
  · exact h.rch x
  · intro hx
    refine hx (· ∈ wGo ars seen (ss.length + 256) 0 ss) ⟨fun y hy => ?_, fun a ha hf => ?_⟩
    · obtain ⟨t, ht, -⟩ := h.wb
      rw [ht]; exact List.mem_append_left _ hy
    · obtain ⟨i, hi⟩ := List.getElem?_of_mem hf
      exact h.cl i (List.getElem?_eq_some_iff.1 hi).1 _ hi a ha rfl
theorem wide_sub {ars : List Arr} {seen ss : List Int} (hin : ∀ a ∈ ars, 0 ≤ a.t ∧ a.t < (256 : Nat)) : ∀ x ∈ ss, x ∈ wideL ars seen ss := fun x hx => (mem_wide hin x).2 (rch_start hx)
theorem wide_cl {ars : List Arr} {seen ss : List Int} (hin : ∀ a ∈ ars, 0 ≤ a.t ∧ a.t < (256 : Nat)) {a : Arr} (ha : a ∈ ars) (hu : hasB seen a.e = false) (h : a.f ∈ wideL ars seen ss) : a.t ∈ wideL ars seen ss :=
  (mem_wide hin _).2 (rch_step (fr := (·.f)) (to := (·.t)) ((mem_unseen _ _ _).2 ⟨ha, hu⟩) ((mem_wide hin _).1 h))

end Go.Proofs.YtmlkpdeidpcidaaDoor
namespace Go.Proofs.YtmlkpdeidpcidaaDoor
open Go.RowKit
set_option linter.unusedVariables false

/-- Arrows from a state, at a seen event. -/
def hRow (m : Mach) (seen : List Int) (f k : Nat) : List Arr := (wideL m.arrows seen (stepL m.arrows (wideL m.arrows seen [(f : Int)]) (seen[k]?.getD 0))).map fun t => ⟨(f : Int), (k : Int), t⟩
def hFrom (m : Mach) (seen : List Int) (f n : Nat) : List Arr := (List.range n).flatMap (hRow m seen f)
def hAll (m : Mach) (seen : List Int) (n : Nat) : List Arr := (List.range n).flatMap fun f => hFrom m seen f seen.length
def hideM (m : Mach) (seen : List Int) : Mach := ⟨m.st, seen.length, wideL m.arrows seen m.starts, hAll m seen m.st.toNat, m.ends⟩

theorem mem_hRow (m : Mach) (seen : List Int) (f k : Nat) (x : Arr) : x ∈ hRow m seen f k ↔ ∃ t ∈ wideL m.arrows seen (stepL m.arrows (wideL m.arrows seen [(f : Int)]) (seen[k]?.getD 0)), x = ⟨(f : Int), (k : Int), t⟩ := by
  unfold hRow; rw [List.mem_map]
  constructor
  · rintro ⟨t, h, rfl⟩; exact ⟨t, h, rfl⟩
  · rintro ⟨t, h, rfl⟩; exact ⟨t, h, rfl⟩
theorem mem_hAll (m : Mach) (seen : List Int) (n : Nat) (x : Arr) : x ∈ hAll m seen n ↔ ∃ f k : Nat, f < n ∧ k < seen.length ∧ x ∈ hRow m seen f k := by
  unfold hAll hFrom
  simp only [List.mem_flatMap, List.mem_range]
  constructor
  · rintro ⟨f, hf, k, hk, h⟩; exact ⟨f, k, hf, hk, h⟩
  · rintro ⟨f, k, hf, hk, h⟩; exact ⟨f, hf, k, hk, h⟩
theorem may_to {m : Mach} (hm : mayB m = true) : ∀ a ∈ m.arrows, 0 ≤ a.t ∧ a.t < (256 : Nat) := fun a ha => by
  have h1 := may_arrs hm a ha
  have h2 := mayB_size hm
  unfold sizeOk at h2
  exact ⟨h1.2.2.1, by have := h1.2.2.2.1; omega⟩
theorem wide_bd {m : Mach} (hm : mayB m = true) {seen ss : List Int} (hs : ∀ x ∈ ss, 0 ≤ x ∧ x < m.st) : ∀ x ∈ wideL m.arrows seen ss, 0 ≤ x ∧ x < m.st := fun x hx =>
  rch_bd hs (fun a ha => by have := may_arrs hm a ((mem_unseen _ _ _).1 ha).1; exact ⟨this.2.2.1, this.2.2.2.1⟩) ((mem_wide (may_to hm) x).1 hx)
theorem step_bd {m : Mach} (hm : mayB m = true) {ss : List Int} {e : Int} : ∀ x ∈ stepL m.arrows ss e, 0 ≤ x ∧ x < m.st := fun x hx => by
  obtain ⟨a, ha, -, -, rfl⟩ := (mem_stepL _ _ _ _).1 hx
  have := may_arrs hm a ha
  exact ⟨this.2.2.1, this.2.2.2.1⟩
theorem inc_wide (ars : List Arr) (seen ss : List Int) : Inc (wideL ars seen ss) := inc_srt _
theorem incA_flat {g : Nat → List Arr} (h1 : ∀ k, IncA (g k)) (h2 : ∀ k k', k < k' → ∀ x ∈ g k, ∀ y ∈ g k', aheadB x y = true) : ∀ n, IncA ((List.range n).flatMap g)
  | 0 => by simp [IncA]
  | n + 1 => by
    rw [List.range_succ, List.flatMap_append]
    refine List.pairwise_append.2 ⟨incA_flat h1 h2 n, by simpa using h1 n, fun x hx y hy => ?_⟩
    obtain ⟨k, hk, hx⟩ := List.mem_flatMap.1 hx
    have hk := List.mem_range.1 hk
    exact h2 k n hk x hx y (by simpa using hy)
theorem incA_hRow (m : Mach) (seen : List Int) (f k : Nat) : IncA (hRow m seen f k) := by
  unfold hRow
  rw [IncA, List.pairwise_map]
  refine (inc_wide _ _ _).imp ?_
  intro t u h
  exact (aheadB_iff _ _).2 (.inr ⟨rfl, .inr ⟨rfl, h⟩⟩)
theorem incA_hAll (m : Mach) (seen : List Int) (n : Nat) : IncA (hAll m seen n) := by
  refine incA_flat (fun f => incA_flat (incA_hRow m seen f) (fun k k' hk x hx y hy => ?_) _) (fun f f' hf x hx y hy => ?_) n
  · obtain ⟨t, -, rfl⟩ := (mem_hRow _ _ _ _ _).1 hx
    obtain ⟨u, -, rfl⟩ := (mem_hRow _ _ _ _ _).1 hy
    exact (aheadB_iff _ _).2 (.inr ⟨rfl, .inl (by dsimp only; omega)⟩)
  · obtain ⟨k, -, hx⟩ := List.mem_flatMap.1 hx
    obtain ⟨k', -, hy⟩ := List.mem_flatMap.1 hy
    obtain ⟨t, -, rfl⟩ := (mem_hRow _ _ _ _ _).1 hx
    obtain ⟨u, -, rfl⟩ := (mem_hRow _ _ _ _ _).1 hy
    exact (aheadB_iff _ _).2 (.inl (by dsimp only; omega))
theorem row_short {n : Int} {l : List Int} (hn : n ≤ 2147483648) (h0 : 0 ≤ n) (h : rowB n l = true) : (l.length : Int) ≤ n := by
  obtain ⟨h1, h2⟩ := (rowB_iff n hn l).1 h
  have := nodup_len n.toNat l (inc_nodup h1) (fun x hx => by have := h2 x hx; omega)
  omega
theorem may_hide {m : Mach} (hm : mayB m = true) {seen : List Int} (hs : rowB m.ev seen = true) (hz : (hAll m seen m.st.toNat).length ≤ 4096) : mayB (hideM m seen) = true := by
  have hm' := mayB_size hm
  unfold sizeOk at hm'
  have hl := row_short (by omega) (by omega) hs
  rw [mayB_go (m := hideM m seen) ⟨hm'.1, hm'.2.1, by show (0 : Int) ≤ seen.length; omega, by show (seen.length : Int) ≤ 8; omega, hz⟩ ((rowB_iff _ (by show m.st ≤ _; omega) _).2 ⟨inc_wide _ _ _, wide_bd hm (may_starts hm).2⟩) (show rowB m.st m.ends = true from mayB_ends hm)]
  rw [arrsFrom_iff]
  refine ⟨fun x hx => ?_, incA_hAll _ _ _, fun _ _ => rfl⟩
  obtain ⟨f, k, hf, hk, hx⟩ := (mem_hAll _ _ _ _).1 hx
  obtain ⟨t, ht, rfl⟩ := (mem_hRow _ _ _ _ _).1 hx
  have hb := wide_bd hm (step_bd hm) t ht
  exact ⟨by dsimp only; omega, by show (f : Int) < m.st; omega, hb.1, hb.2, by dsimp only; omega, by show (k : Int) < seen.length; omega⟩

/-! What is seen of a word that is accepted is accepted. -/
end Go.Proofs.YtmlkpdeidpcidaaDoor
