/-
  The iterator that slices.Backward answers, over places: they come with their numbers, from the last one on.
  The walk of jalousieref11.meet.
  What jalousieref11.Leak leaves; plain: which of two twos is the lesser.
-/
import Derived.Test.YtmlkpdeidpcidaaDoorG52
import Derived.Test.YtmlkpdeidpcidaaDoorG38
import Derived.Deep.RegionHeld3
import Derived.Test.YtmlkpdeidpcidaaDoorG34
import Derived.Test.YtmlkpdeidpcidaaDoorG57
import Derived.Test.YtmlkpdeidpcidaaDoorG20
import Derived.Test.YtmlkpdeidpcidaaDoorCRBack
namespace Go.Proofs.YtmlkpdeidpcidaaDoor
open Go.RowKit Go.Shelf
set_option linter.unusedVariables false
attribute [local go_sem] Oper.semAt_some

/-- A place with its number, as it lies in memory. -/
structure EP (L : List PlC) where
  k : Nat
  s : Nat → Nat
  za : Option Addr
  zc : Nat
  wd : List Int
  at_ : L[k]? = some ⟨s, .slice za wd.length zc, wd⟩
abbrev EP.pl {L : List PlC} (x : EP L) : PlC := ⟨x.s, .slice x.za x.wd.length x.zc, x.wd⟩
abbrev epval {L : List PlC} (x : EP L) : Array Value := #[.int .i64 x.k, pcval x.pl]
/-- The numbers that come of the first k. -/
def dwN : Nat → List Nat
  | 0 => []
  | k + 1 => k :: dwN k
theorem dwN_len : ∀ k, (dwN k).length = k
  | 0 => rfl
  | k + 1 => by simp [dwN, dwN_len k]
theorem dwN_at : ∀ (k i : Nat), i < k → (dwN k)[i]? = some (k - 1 - i)
  | 0, i, h => absurd h (Nat.not_lt_zero _)
  | k + 1, 0, _ => by simp [dwN]
  | k + 1, i + 1, h => by
    rw [dwN, List.getElem?_cons_succ, dwN_at k i (by omega)]
    congr 1; omega
theorem ep_of {L : List PlC} (hf : ∀ q ∈ L, ∃ a c, q.v = .slice a q.word.length c) : ∀ k, k ≤ L.length → ∃ xs : List (EP L), xs.map (·.k) = dwN k
  | 0, _ => ⟨[], rfl⟩
  | k + 1, hk => by
    obtain ⟨xs, hx⟩ := ep_of hf k (by omega)
    have hq := List.getElem?_eq_getElem (l := L) (i := k) (by omega)
    obtain ⟨a, c, hv⟩ := hf _ (List.mem_of_getElem? hq)
    refine ⟨⟨k, L[k].s, a, c, L[k].word, ?_⟩ :: xs, by rw [List.map_cons, hx]; rfl⟩
    rw [hq, ← hv]
theorem ep_cons {L : List PlC} {rest : List (EP L)} {a : Nat} {l : List Nat} (h : rest.map (·.k) = a :: l) : ∃ x r, rest = x :: r ∧ x.k = a ∧ r.map (·.k) = l := by
  cases rest with
  | nil => simp at h
  | cons x r => exact ⟨x, r, rfl, by simpa using (List.cons.inj (by simpa using h)).1, by simpa using (List.cons.inj (by simpa using h)).2⟩

set_option maxRecDepth 100000 in
set_option maxHeartbeats 4000000 in
theorem bkp1_in {L : List PlC} (n : Nat) (hn : 2 ≤ n) (l Bn n₀ : Nat) (a : Option Addr) (cap : Nat) (hlen : L.length ≤ 64) (xs : List (EP L)) (hxs : xs.map (·.k) = dwN L.length) (J Jx : List (EP L) → World → Prop)
    (hY : ∀ pre x W, J pre W → pre.length < xs.length → YieldAt Fence.wide (n - 1) Tryd.prog l (epval x) W fun e W' =>
      (e = .returned (.bool true) ∧ J (pre ++ [x]) W' ∧ KpB n₀ Bn W W') ∨ (e = .returned (.bool false) ∧ Jx (pre ++ [x]) W'))
    (W : World) (hBn : Boxed W Bn 111 (.slice a L.length cap)) (hA : L = [] ∨ ∃ g o, a = some ⟨g, o, none⟩ ∧ g < n₀ ∧ ∀ (k : Nat) (q : PlC), L[k]? = some q → ∀ (j : Nat) (u : Value), (pccells q)[j]? = some u → W.cell? ⟨g, o + k * 5 + j, none⟩ = some u) (h0 : J [] W) :
    CallsIn Fence.wide n Tryd.prog 180 #[.func (.yield l) #[] #[], .pointer (some ⟨Bn, 0, none⟩)] W fun e W' => (∃ v, e = .returned v) ∧
      ((∃ ys, ys = xs ∧ J ys W') ∨ (∃ pre, pre <+: xs ∧ Jx pre W')) := by
  have p0 := hBn.cell
  refine callsIn_of_wp Tryd.func180 rfl trivial ?_ rfl
  simp only [Tryd.ntmps180, List.size_toArray, List.length_cons, List.length_nil, Nat.reduceAdd, Nat.reduceSub, Array.replicate_succ, Array.replicate_zero, List.push_toArray, List.append_toArray, List.nil_append, List.cons_append]
  gi_wp2
  gi_loopw [3] (fun i wr => ∃ (k : Nat) (pre rest : List (EP L)), i = .int .i64 ((k : Int) - 1) ∧ k ≤ L.length ∧ Hid (xs = pre ++ rest) ∧ Hid (rest.map (·.k) = dwN k) ∧ J pre wr ∧ Hid (KpB n₀ Bn W wr)) (fun i _ => (intOf i + 1).toNat)
  case atStart => exact ⟨L.length, [], xs, by go_num, Nat.le_refl _, rfl, hxs, h0, ⟨Below.refl _ _, rfl⟩⟩
  case round =>
    obtain ⟨k, pre, rest, rfl, hk, hx, hr, hJ, hB⟩ := hrel
    cases k with
    | zero =>
      have e0 : ((0 : Nat) : Int) - 1 = -1 := rfl
      simp only [e0]
      gi_wp2
      go_end0
      have hnil' : rest = [] := List.map_eq_nil_iff.1 hr.out
      exact ⟨⟨_, rfl⟩, .inl ⟨pre, by rw [hx.out, hnil']; simp, hJ⟩⟩
    | succ m =>
      have e0 : ((m + 1 : Nat) : Int) - 1 = (m : Int) := by omega
      simp only [e0]
      have hmw : m < L.length := by omega
      obtain ⟨x, r, e1, e2, e3⟩ := ep_cons (show rest.map (·.k) = m :: dwN m from hr.out)
      have HR := Hid.of e3
      have HX : Hid (xs = (pre ++ [x]) ++ r) := by show _ = _; rw [hx.out, e1]; simp
      obtain ⟨g, o, rfl, hg, hc⟩ : ∃ g o, a = some ⟨g, o, none⟩ ∧ g < n₀ ∧ ∀ (k : Nat) (q : PlC), L[k]? = some q → ∀ (j : Nat) (u : Value), (pccells q)[j]? = some u → W.cell? ⟨g, o + k * 5 + j, none⟩ = some u := by
        rcases hA with h | h
        · rw [h] at hmw; simp at hmw
        · exact h
      obtain ⟨fn, tmps, assign, body, hy, hR⟩ := hY pre x wr hJ (by rw [hx.out, e1]; simp)
      obtain ⟨xk, xs', xa, xc, xw, xat⟩ := x
      dsimp only at e2
      subst e2
      obtain ⟨d0, d1, d2, d3, d4⟩ := rdc_cells (hc xk _ xat)
      have c0 := (hB.out.1.cell (p := ⟨g, o + xk * 5, none⟩) hg).trans d0
      have c1 := (hB.out.1.cell (p := ⟨g, o + xk * 5 + 1, none⟩) hg).trans d1
      have c2 := (hB.out.1.cell (p := ⟨g, o + xk * 5 + 2, none⟩) hg).trans d2
      have c3 := (hB.out.1.cell (p := ⟨g, o + xk * 5 + 3, none⟩) hg).trans d3
      have c4 := (hB.out.1.cell (p := ⟨g, o + xk * 5 + 4, none⟩) hg).trans d4
      dsimp only at c0 c1 c2 c3 c4
      have cB : wr.cell? ⟨Bn, 0, none⟩ = some (.slice (some ⟨g, o, none⟩) L.length cap) := Boxed.cell (hB.out.2.trans hBn)
      simp only [epval, pcval, pcarr] at hy
      have hm0 : (0 : Int) ≤ (xk : Int) := by omega
      have hmI : (xk : Int) < (L.length : Int) := by omega
      clear hr hx e1 e3 e0 hc d0 d1 d2 d3 d4 hxs
      gi_wp2
      refine ⟨fun _ => by omega, hR.mono ?_⟩
      rintro e W3 (⟨rfl, hJ3, hk3⟩ | ⟨rfl, hJx3⟩)
      · gi_wp2
        go_roundw
        case rel => exact ⟨xk, _, r, by go_num, by omega, HX, HR, hJ3, hB.out.trans hk3⟩
        case measure => simp [intOf]
      · gi_wp2
        refine bodyPost_ret (results_none rfl _ _ _) rfl ?_
        exact ⟨⟨_, rfl⟩, .inr ⟨_, ⟨r, HX.out.symm⟩, hJx3⟩⟩

theorem bkp_stops {L : List PlC} (n : Nat) (hn : 2 ≤ n) (Bn n₀ : Nat) (a : Option Addr) (cap : Nat) (hlen : L.length ≤ 64) (xs : List (EP L)) (hxs : xs.map (·.k) = dwN L.length) (w : World) (hBn : Boxed w Bn 111 (.slice a L.length cap)) (hn₀ : n₀ ≤ w.heap.size) (hA : L = [] ∨ ∃ g o, a = some ⟨g, o, none⟩ ∧ g < n₀ ∧ ∀ (k : Nat) (q : PlC), L[k]? = some q → ∀ (j : Nat) (u : Value), (pccells q)[j]? = some u → w.cell? ⟨g, o + k * 5 + j, none⟩ = some u) :
    SeqStopsK Fence.wide n Tryd.prog 180 #[.pointer (some ⟨Bn, 0, none⟩)] (fun x : EP L => epval x) (KpB n₀ Bn) (fun ys => ys = xs) (fun pre => pre <+: xs) xs.length w := fun l J Jx W hW _ _ hY h0 =>
  bkp1_in n hn l Bn n₀ a cap hlen xs hxs J Jx hY W ((hW.block Bn hBn.lt).trans hBn) (by
    rcases hA with h | ⟨g, o, h1, h2, h3⟩
    · exact .inl h
    · exact .inr ⟨g, o, h1, h2, fun k q hq j u hu => (hW.cell (p := ⟨g, o + k * 5 + j, none⟩) (show g < w.heap.size by omega)).trans (h3 k q hq j u hu)⟩) h0

set_option maxRecDepth 100000 in
set_option maxHeartbeats 400000 in
theorem backwardP_any (a : Option Addr) (n c : Nat) (w : World) :
    Calls Tryd.prog 137 #[.slice a n c] w fun e w' => e = .returned (.func (.func 180) #[] #[.pointer (some ⟨w.heap.size, 0, none⟩)]) ∧ w' = w.alloc (.cells #[.slice a n c] 111) := by
  have hmf : ∀ (fn : Fn) (first cap : Array Value) (w : World), (Instr.makeFunc fn first cap).run Tryd.prog w = .ok (.func fn first cap) w := fun _ _ _ _ => rfl
  go_enter Tryd.func137, Tryd.ntmps137
  go_wp2_with fail
  go_ret
  exact ⟨rfl, rfl⟩

end Go.Proofs.YtmlkpdeidpcidaaDoor
namespace Go.Proofs.YtmlkpdeidpcidaaDoor
open Go.RowKit
set_option linter.unusedVariables false

theorem meetR_take (ys : List Int) {xs : List Int} {i : Nat} {x : Int} (h : xs[i]? = some x) : meetR (xs.take (i + 1)) ys = meetR (xs.take i) ys ++ ys.filter fun y => y == x := by
  unfold meetR
  rw [List.take_add_one, h, List.flatMap_append]; simp
theorem filt_take (x : Int) {ys : List Int} {k : Nat} {y : Int} (h : ys[k]? = some y) : ((ys.take (k + 1)).filter fun z => z == x) = ((ys.take k).filter fun z => z == x) ++ (if y = x then [x] else []) := by
  rw [List.take_add_one, h, Option.toList_some, List.filter_append]
  congr 1
  by_cases e : y = x
  · subst e; simp
  · rw [if_neg e, List.filter_cons_of_neg (by simpa using e)]; rfl
theorem meetR_len (ys : List Int) : ∀ xs : List Int, (meetR xs ys).length ≤ xs.length * ys.length
  | [] => by simp [meetR]
  | x :: r => by
    have ih := meetR_len ys r
    unfold meetR at ih ⊢
    rw [List.flatMap_cons, List.length_append, List.length_cons, Nat.succ_mul]
    have := List.length_filter_le (fun y => y == x) ys
    omega
theorem at_get {w : World} {a : Option Addr} {xs : List Int} {k : Nat} {x : Int} (h : At w a xs) (hx : xs[k]? = some x) : ∃ b off, a = some ⟨b, off, none⟩ ∧ b < w.heap.size ∧ w.cell? ⟨b, off + k, none⟩ = some (.int .i64 x) := by
  have hk := (List.getElem?_eq_some_iff.1 hx).1
  rcases h with h0 | ⟨b, off, h1, h2, h3⟩
  · rw [h0] at hk; simp at hk
  · refine ⟨b, off, h1, h2, ?_⟩
    have := h3 k hk
    rw [List.getD_eq_getElem?_getD, hx, Option.getD_some] at this
    exact this

set_option maxRecDepth 100000 in
set_option maxHeartbeats 4000000 in
theorem rMeet_any (a b : Option Addr) (ca cb : Nat) (xs ys : List Int) (w : World) (h : Hid (At w a xs)) (h' : Hid (At w b ys)) (hl : xs.length ≤ 256) (hl' : ys.length ≤ 256) :
    Calls Tryd.prog 91 #[.slice a xs.length ca, .slice b ys.length cb] w fun e w' => GivesO w (meetR xs ys) e w' := by
  obtain ⟨j0, ji, jz0, jz1, jz2⟩ := info_parts Tryd.infoInt
  go_enter Tryd.func91, Tryd.ntmps91
  go_wp2_with fail
  go_loopw [5, 6] (fun v i wr => ∃ k : Nat, i = .int .i64 k ∧ k ≤ xs.length ∧ Hid (Own wr w.heap.size v (meetR (xs.take k) ys)) ∧ Hid (Below w.heap.size w wr)) (fun _ i _ => xs.length - (intOf i).toNat)
  case atStart => exact ⟨0, rfl, Nat.zero_le _, own_nil _ _, Below.refl _ _⟩
  case round =>
    obtain ⟨i, rfl, hii, HO, B⟩ := hrel
    by_cases hlt : i < xs.length
    · obtain ⟨x, HX⟩ : ∃ x, Hid (xs[i]? = some x) := ⟨_, List.getElem?_eq_getElem hlt⟩
      have HTK := Hid.of (meetR_take ys HX.out)
      have hml : (meetR (xs.take i) ys).length ≤ 65536 := by
        have h1 := meetR_len ys (xs.take i)
        have h2 : (xs.take i).length * ys.length ≤ 256 * 256 := Nat.mul_le_mul (by rw [List.length_take]; omega) hl'
        omega
      obtain ⟨A, HA⟩ : ∃ A, Hid (A = meetR (xs.take i) ys) := ⟨_, rfl⟩
      rw [← HA.out] at HO HTK hml
      go_wp2_with fail
      go_loopw [5, 7] (fun v k wr => ∃ j : Nat, k = .int .i64 j ∧ j ≤ ys.length ∧ Hid (Own wr w.heap.size v (A ++ (ys.take j).filter fun z => z == x)) ∧ Hid (Below w.heap.size w wr)) (fun _ k _ => ys.length - (intOf k).toNat)
      case atStart => exact ⟨0, rfl, Nat.zero_le _, (by show Own _ _ _ _; rw [List.take_zero, List.filter_nil, List.append_nil]; exact HO.out), B⟩
      case round =>
        clear HO B
        obtain ⟨j, rfl, hjj, HO, B⟩ := hrel
        by_cases hjl : j < ys.length
        · obtain ⟨y, HY⟩ : ∃ y, Hid (ys[j]? = some y) := ⟨_, List.getElem?_eq_getElem hjl⟩
          have HT2 := Hid.of (filt_take x HY.out)
          obtain ⟨xb, xo, hxa, hxb, cx⟩ := at_get (h.out.below B.out (Nat.le_refl _)) HX.out
          obtain ⟨yb, yo, hya, hyb, cy⟩ := at_get (h'.out.below B.out (Nat.le_refl _)) HY.out
          have hal : (A ++ (ys.take j).filter fun z => z == x).length ≤ 66000 := by
            have := List.length_filter_le (fun z => z == x) (ys.take j)
            rw [List.length_take] at this
            rw [List.length_append]; omega
          subst hxa
          subst hya
          obtain ⟨cur, HC⟩ : ∃ cur, Hid (cur = A ++ (ys.take j).filter fun z => z == x) := ⟨_, rfl⟩
          have HNX : Hid (A ++ ((ys.take (j + 1)).filter fun z => z == x) = cur ++ (if y = x then [x] else [])) := by show _ = _; rw [HT2.out, HC.out, List.append_assoc]
          rw [← HC.out] at HO hal
          obtain ⟨ga, gc, hga, -, -, -⟩ := own_form2 HO.out
          subst hga
          clear HT2 hxb hyb
          go_wp2_with fail
          go_region_held3 (fun w' => w'.cell? ⟨xb, xo + i, none⟩ = some (.int .i64 x) ∧ w'.cell? ⟨yb, yo + j, none⟩ = some (.int .i64 y)) (go_keep) (fail)
          have HOd : Hid (Own wr.drew w.heap.size (.slice ga cur.length gc) cur) := own_same HO.out (fun _ _ => rfl)
          have Bd : Hid (Below w.heap.size w wr.drew) := B.out.drew
          have cxd : wr.drew.cell? ⟨xb, xo + i, none⟩ = some (.int .i64 x) := cx
          clear HO B cx cy
          revert HOd Bd cxd
          generalize wr.drew = V
          intro HO B cx
          by_cases e : y = x
          · subst e
            rw [if_pos rfl] at HNX
            have hlo := B.out.size
            go_wp2_with (at_builtin; refine wpList_append_block _ rfl (.tmp 29) (.tmp 34) 22 rfl w.heap.size 3 j0 (.int .i64 0) 1 8 Tryd.underlying22 ji jz0 jz1 jz2 rfl (by decide) _ _ _ rfl (World.ownsRow.alloc HO.out _) ⟨V.heap.size, 0, none⟩ 1 1 [.int .i64 y] rfl rfl (cell_one_new _ _ _) (by intro u hu; simp at hu; subst hu; rfl) (by decide) (by unfold maxLen; omega) (by omega) (by simp; omega) ?_)
            intro v9 w9 o9 g9 n9
            obtain ⟨q1, q2, q3⟩ := own_snoc HO.out (Below.refl _ V) hlo o9 g9
            have Q1 := Hid.of q1
            have Q2 := Hid.of (B.out.trans q2)
            clear q1 q2 q3 o9 g9 n9
            go_wp2_with fail
            go_roundw
            case rel => exact ⟨j + 1, by go_num, by omega, (by show Own _ _ _ _; rw [HNX.out]; exact Q1.out), Q2⟩
            case measure => simp [intOf]; omega
          · rw [if_neg e, List.append_nil] at HNX
            have e' : ¬ x = y := fun q => e q.symm
            have hbe : (x == y) = false := by simpa using e'
            go_wp2_with fail
            go_roundw
            case rel => exact ⟨j + 1, by go_num, by omega, (by show Own _ _ _ _; rw [HNX.out]; exact HO.out), B⟩
            case measure => simp [intOf]; omega
        · have hjD : decide ((j : Int) < (ys.length : Int)) = false := by simp; omega
          rw [List.take_of_length_le (by omega)] at HO
          go_wp2_with fail
          go_roundw
          case rel => exact ⟨i + 1, by go_num, by omega, (by show Own _ _ _ _; rw [HTK.out]; exact HO.out), B⟩
          case measure => simp [intOf]; omega
    · have hiD : decide ((i : Int) < (xs.length : Int)) = false := by simp; omega
      rw [List.take_of_length_le (by omega)] at HO
      go_wp2_with fail
      go_ret
      exact ⟨_, rfl, HO.out, B.out⟩

end Go.Proofs.YtmlkpdeidpcidaaDoor
namespace Go.Proofs.YtmlkpdeidpcidaaDoor
open Go.RowKit
set_option linter.unusedVariables false

theorem pb1 {w v w' v' : List Int} (h : w.length + v.length < w'.length + v'.length) : pairB w v w' v' = true := (pairB_iff _ _ _ _).2 (.inl h)
theorem pb2 {w v w' v' : List Int} (h : w'.length + v'.length < w.length + v.length) : pairB w v w' v' = false := by
  rw [Bool.eq_false_iff]; intro q
  rw [pairB_iff] at q
  rcases q with q | ⟨q, -⟩ <;> omega
theorem pb3 {w v w' v' : List Int} (h : w.length + v.length = w'.length + v'.length) (k : v.length < v'.length) : pairB w v w' v' = true := (pairB_iff _ _ _ _).2 (.inr ⟨h, .inl k⟩)
theorem pb4 {w v w' v' : List Int} (h : w.length + v.length = w'.length + v'.length) (k : v'.length < v.length) : pairB w v w' v' = false := by
  rw [Bool.eq_false_iff]; intro q
  rw [pairB_iff] at q
  rcases q with q | ⟨-, q | ⟨q, -⟩⟩ <;> omega
theorem pb5 {w v w' v' : List Int} (h : w.length + v.length = w'.length + v'.length) (k : v.length = v'.length) (l : lessB w w' = true) : pairB w v w' v' = true := (pairB_iff _ _ _ _).2 (.inr ⟨h, .inr ⟨k, .inl l⟩⟩)
theorem pb6 {w v w' v' : List Int} (h : w.length + v.length = w'.length + v'.length) (k : v.length = v'.length) (l : lessB w w' = false) (n : lessB w' w = true) : pairB w v w' v' = false := by
  rw [Bool.eq_false_iff]; intro q
  rw [pairB_iff] at q
  rcases q with q | ⟨-, q | ⟨-, q | ⟨q, -⟩⟩⟩
  · omega
  · omega
  · rw [l] at q; cases q
  · rw [q, lessB_irrefl] at n; cases n
theorem pb7 {w v w' v' : List Int} (h : w.length + v.length = w'.length + v'.length) (k : v.length = v'.length) (l : lessB w w' = false) (n : lessB w' w = false) : pairB w v w' v' = lessB v v' := by
  unfold pairB
  rw [l, n, decide_eq_false (by omega), decide_eq_true h, decide_eq_false (by omega), decide_eq_true k]
  simp
theorem kno_rows {p : Plant} (hp : mayP p = true) : (∀ x ∈ knL p.seen (fwdL p), x.1.length ≤ 256) ∧ (∀ x ∈ knL p.seen (bwdL p), x.1.length ≤ 256) ∧ 0 < (knL p.seen (fwdL p)).length ∧ 0 < (knL p.seen (bwdL p)).length ∧ (∀ x ∈ knL p.seen (fwdL p), x.2.length ≤ 64) ∧ (∀ x ∈ knL p.seen (bwdL p), x.2.length ≤ 64) := by
  obtain ⟨hm, z, hs, -⟩ := (mayP_iff p).1 hp
  have hz := mayB_size hm
  unfold sizeOk at hz
  refine ⟨fun x hx => ?_, fun x hx => ?_, ?_, ?_, fun x hx => (fwd_mem hp hx).2.2, fun x hx => (bwd_mem hp hx).2.2⟩
  · have h1 := (fwd_mem hp hx).1
    have h2 := est_in hm x.2
    rw [h1]
    exact nodup_len 256 _ (inc_nodup h2.1) (fun y hy => by have := h2.2 y hy; omega)
  · have h1 := (bwd_mem hp hx).1
    rw [h1]
    refine nodup_len 256 _ (inc_nodup (inc_flt (inc_rng9 _) _)) (fun y hy => ?_)
    have := ((mem_on p x.2 y).1 hy).1
    omega
  · obtain ⟨x, hx, -⟩ := fwd_cov hp (w := []) (by simp)
    exact List.length_pos_of_mem hx
  · obtain ⟨x, hx, -⟩ := bwd_cov hp (v := []) (by simp)
    exact List.length_pos_of_mem hx

/-- What Leak leaves. -/
def SLPost (w : World) (o : Option (List Int × List Int)) (e : Ending) (w' : World) : Prop := ∃ va vc vb vd, e = .returned (.tuple #[.bool o.isSome, .slice va (o.getD ([], [])).1.length vc, .slice vb (o.getD ([], [])).2.length vd]) ∧ At w' va (o.getD ([], [])).1 ∧ At w' vb (o.getD ([], [])).2 ∧ (o.getD ([], [])).1.length ≤ maxLen ∧ (o.getD ([], [])).2.length ≤ maxLen ∧ Below w.heap.size w w'

end Go.Proofs.YtmlkpdeidpcidaaDoor
