/-
  The walk of hide.union: what the states of a set lead to.
  Plain: what package hide finds by sets: where unseen events lead to, by middle states; where seen ones lead to; that it is the machine of what is seen. No program, no model.
-/
import Derived.Test.YtbdkaobbfmgnhaaDoorCSpread
import Derived.Test.YtbdkaobbfmgnhaaDoorG21
import Derived.Test.YtbdkaobbfmgnhaaDoorG16
namespace Go.Proofs.YtbdkaobbfmgnhaaDoor
open Go.RowKit Go.Shelf
set_option linter.unusedVariables false
attribute [local go_sem] Oper.semAt_some

set_option maxRecDepth 100000 in
set_option maxHeartbeats 4000000 in
theorem union_in (S : Nat → Nat) (hS : okS S) (N : Nat) (T : Nat → Nat → Nat) (hTok : Hid (∀ p, okS (T p))) (hall : ∀ k ∈ allS S, k < N) (hN : N ≤ 256) (pg : Nat) (w : World) (hT : Tab w) (hTB : TB w pg N T) :
    CallsIn Fence.wide 5 Tryd.prog 72 #[sval S, .slice (some ⟨pg, 0, none⟩) N N] w fun e W' => e = .returned (sval (toF T (allS S))) ∧ Below w.heap.size w W' := by
  obtain ⟨xs, hxs⟩ := nb_of (N := N) (allS S) hall
  clear hall
  refine callsIn_of_wp_marks Tryd.func72 rfl trivial ?_ rfl
  simp only [Tryd.ntmps72, List.size_toArray, List.length_cons, List.length_nil, Nat.reduceAdd, Nat.reduceSub, Array.replicate_succ, Array.replicate_zero, List.push_toArray, List.append_toArray, List.nil_append, List.cons_append]
  gi_wp2_with (refine ⟨trivial, ?_⟩; refine CallsIn.mono (callsIn_wide.2 (all_any S _)) ?_; rintro e w1 ⟨rfl, rfl⟩)
  have hB0 : Below w.heap.size w (((((w.alloc (.cells (scells S) 62)).alloc (.cells #[.slice (some ⟨pg, 0, none⟩) N N] 87)).alloc (.cells #[.int .u64 0, .int .u64 0, .int .u64 0, .int .u64 0] 62)).alloc (.cells #[.int .u64 0, .int .u64 0, .int .u64 0, .int .u64 0] 62)).alloc (.cells (scells S) 62)) := (((((Below.refl _ _).alloc (Nat.le_refl _) _).alloc (by simp) _).alloc (by simp; omega) _).alloc (by simp; omega) _).alloc (by simp; omega) _
  have bX : Boxed (((((w.alloc (.cells (scells S) 62)).alloc (.cells #[.slice (some ⟨pg, 0, none⟩) N N] 87)).alloc (.cells #[.int .u64 0, .int .u64 0, .int .u64 0, .int .u64 0] 62)).alloc (.cells #[.int .u64 0, .int .u64 0, .int .u64 0, .int .u64 0] 62)).alloc (.cells (scells S) 62)) (w.heap.size + 1) 87 (.slice (some ⟨pg, 0, none⟩) N N) := by
    have := (((Boxed.new (w.alloc (.cells (scells S) 62)) 87 (.slice (some ⟨pg, 0, none⟩) N N)).alloc (.cells #[.int .u64 0, .int .u64 0, .int .u64 0, .int .u64 0] 62)).alloc (.cells #[.int .u64 0, .int .u64 0, .int .u64 0, .int .u64 0] 62)).alloc (.cells (scells S) 62)
    rwa [World.size_alloc] at this
  have bR : SB (((((w.alloc (.cells (scells S) 62)).alloc (.cells #[.slice (some ⟨pg, 0, none⟩) N N] 87)).alloc (.cells #[.int .u64 0, .int .u64 0, .int .u64 0, .int .u64 0] 62)).alloc (.cells #[.int .u64 0, .int .u64 0, .int .u64 0, .int .u64 0] 62)).alloc (.cells (scells S) 62)) (w.heap.size + 1 + 1) zeroS := by
    have := ((Blk.new ((w.alloc (.cells (scells S) 62)).alloc (.cells #[.slice (some ⟨pg, 0, none⟩) N N] 87)) 62 #[.int .u64 0, .int .u64 0, .int .u64 0, .int .u64 0]).alloc (.cells #[.int .u64 0, .int .u64 0, .int .u64 0, .int .u64 0] 62)).alloc (.cells (scells S) 62)
    rwa [World.size_alloc, World.size_alloc] at this
  have bO : SB (((((w.alloc (.cells (scells S) 62)).alloc (.cells #[.slice (some ⟨pg, 0, none⟩) N N] 87)).alloc (.cells #[.int .u64 0, .int .u64 0, .int .u64 0, .int .u64 0] 62)).alloc (.cells #[.int .u64 0, .int .u64 0, .int .u64 0, .int .u64 0] 62)).alloc (.cells (scells S) 62)) (w.heap.size + 1 + 1 + 1) zeroS := by
    have := (Blk.new (((w.alloc (.cells (scells S) 62)).alloc (.cells #[.slice (some ⟨pg, 0, none⟩) N N] 87)).alloc (.cells #[.int .u64 0, .int .u64 0, .int .u64 0, .int .u64 0] 62)) 62 #[.int .u64 0, .int .u64 0, .int .u64 0, .int .u64 0]).alloc (.cells (scells S) 62)
    rwa [World.size_alloc, World.size_alloc, World.size_alloc] at this
  have bN : SB (((((w.alloc (.cells (scells S) 62)).alloc (.cells #[.slice (some ⟨pg, 0, none⟩) N N] 87)).alloc (.cells #[.int .u64 0, .int .u64 0, .int .u64 0, .int .u64 0] 62)).alloc (.cells #[.int .u64 0, .int .u64 0, .int .u64 0, .int .u64 0] 62)).alloc (.cells (scells S) 62)) (w.heap.size + 1 + 1 + 1 + 1) S := by
    have := Blk.new ((((w.alloc (.cells (scells S) 62)).alloc (.cells #[.slice (some ⟨pg, 0, none⟩) N N] 87)).alloc (.cells #[.int .u64 0, .int .u64 0, .int .u64 0, .int .u64 0] 62)).alloc (.cells #[.int .u64 0, .int .u64 0, .int .u64 0, .int .u64 0] 62)) 62 (scells S)
    rwa [World.size_alloc, World.size_alloc, World.size_alloc, World.size_alloc] at this
  have hsz0 : (((((w.alloc (.cells (scells S) 62)).alloc (.cells #[.slice (some ⟨pg, 0, none⟩) N N] 87)).alloc (.cells #[.int .u64 0, .int .u64 0, .int .u64 0, .int .u64 0] 62)).alloc (.cells #[.int .u64 0, .int .u64 0, .int .u64 0, .int .u64 0] 62)).alloc (.cells (scells S) 62)).heap.size = w.heap.size + 5 := by simp
  revert hB0 bX bR bO bN hsz0
  generalize ((((w.alloc (.cells (scells S) 62)).alloc (.cells #[.slice (some ⟨pg, 0, none⟩) N N] 87)).alloc (.cells #[.int .u64 0, .int .u64 0, .int .u64 0, .int .u64 0] 62)).alloc (.cells #[.int .u64 0, .int .u64 0, .int .u64 0, .int .u64 0] 62)).alloc (.cells (scells S) 62) = W0
  intro hB0 bX bR bO bN hsz0
  have hT0 := hT.below hB0 hT.lt
  have hw0 := hT.lt
  refine wpIn_rangeFunc_ownG rfl (by omega) (gf := 126) (lb := #[.pointer (some ⟨w.heap.size + 1 + 1 + 1 + 1, 0, none⟩)]) rfl trivial (enters_of Tryd.func126 (by kernel_rfl) rfl)
    (all_stops 4 (by omega) (w.heap.size + 1 + 1 + 1 + 1) (w.heap.size + 3) S hS xs hxs (by omega) W0 (by omega) bN hT0) belowK_t (belowK_b (by omega)) (Below.refl _ _) (fun _ => rfl)
    (fun pre W' => SB W' (w.heap.size + 1 + 1 + 1) (toF T (nbNats pre)) ∧ Below (w.heap.size + 3) W0 W')
    (fun _ _ _ => False)
    (OwnFrom.and (Go.Own.from (own_SB (w.heap.size + 1 + 1 + 1) (fun pre : List (NB N) => toF T (nbNats pre))) _) (ownFrom_below (by omega) (by omega)))
    (fun _ _ _ _ _ hs _ _ => hs)
    ⟨bO, Below.refl _ _⟩
    (fun x => { tmps := #[sval S, .slice (some ⟨pg, 0, none⟩) N N, .pointer (some ⟨w.heap.size, 0, none⟩), .pointer (some ⟨w.heap.size + 1, 0, none⟩), .pointer (some ⟨w.heap.size + 1 + 1, 0, none⟩), .pointer (some ⟨w.heap.size + 1 + 1 + 1, 0, none⟩), .int .i64 (x.1 : Int), sval S, .func (.func 126) #[] #[.pointer (some ⟨w.heap.size + 1 + 1 + 1 + 1, 0, none⟩)], .int .i64 (x.1 : Int), undef, undef, undef, undef, undef, undef, undef], defers := [] }) ?assign ?body ?done ?stop
  case assign =>
    intro l x W K hK
    gi_wp2
    exact hK
  case body =>
    rintro l' pre x W' ⟨hO, hB'⟩ hlt
    have hBW : Below w.heap.size w W' := hB0.trans (hB'.mono (by omega))
    have hTW := hTB.below hBW hTB.lt
    have c1 : W'.cell? ⟨w.heap.size + 1, 0, none⟩ = some (.slice (some ⟨pg, 0, none⟩) N N) := Boxed.cell ((hB'.block _ (by omega)).trans bX)
    have hx := x.2
    obtain ⟨n, hn⟩ : ∃ n, Hid (n = x.1) := ⟨_, rfl⟩
    rw [← hn.out] at hx ⊢
    obtain ⟨t0, t1, t2, t3⟩ := hTW.cells hx
    obtain ⟨o0, o1, o2, o3⟩ := hO.cells
    have fO := hO.frozen
    have mx : Tryd.prog.follows .mixedOrders = true := by kernel_rfl
    have hOk : Hid (okS (toF T (nbNats pre))) := ok_toF hTok.out _
    have hTp : Hid (okS (T n)) := hTok.out n
    have HX : Hid (toF T (nbNats (pre ++ [x])) = joinS (toF T (nbNats pre)) (T n)) := by show _ = _; rw [nbNats_snoc, toF_snoc, hn.out]
    have hn0 : (0 : Int) ≤ (n : Int) := by omega
    have hnI : (n : Int) < (N : Int) := by omega
    have hOd : Hid (SB W'.drew (w.heap.size + 1 + 1 + 1) (toF T (nbNats pre))) := hO
    have HB := Hid.of hB'
    have HO := Hid.of hO
    clear hTW hBW hB' hO
    generalize toF T (nbNats pre) = O at *
    gi_wp2
    gi_region_with_o (refine ⟨trivial, ?_⟩; refine CallsIn.mono (CallsIn.inRound l' (callsIn_wide.2 (join_any O (T n) _ hOk.out hTp.out))) ?_; rintro e' w1 ⟨rfl, hb1⟩; have hO1 := Blk.below hOd.out hb1 hOd.out.lt; obtain ⟨y0, y1, y2, y3⟩ := SB.cells hO1; have fO1 := Blk.frozen hO1)
    all_goals
      have k1 : KeepsOthers W' w1 := ⟨hb1.size, fun k o hk _ => (hb1.block k (Array.getElem?_eq_some_iff.1 hk).1).trans hk⟩
      have k2 : Below (w.heap.size + 3) W' w1 := ((Below.refl _ W').drew).trans (hb1.mono (Nat.le_of_lt HO.out.lt))
      have k3 := below_set4 k2 (b' := w.heap.size + 1 + 1 + 1) (Nat.le_refl _) (.int .u64 (joinS O (T n) 0)) (.int .u64 (joinS O (T n) 1)) (.int .u64 (joinS O (T n) 2)) (.int .u64 (joinS O (T n) 3))
      exact ⟨((((k1.trans (KeepsOthers.setCell _ _ _)).trans (KeepsOthers.setCell _ _ _)).trans (KeepsOthers.setCell _ _ _)).trans (KeepsOthers.setCell _ _ _)).from _, k3, by rw [HX.out]; exact SB.set4 hO1 _, HB.out.trans k3⟩
  case done =>
    rintro D ys W' hD rfl ⟨hO, hB'⟩ hK
    have hBW : Below w.heap.size w W' := hB0.trans (hB'.mono (by omega))
    obtain ⟨o0, o1, o2, o3⟩ := hO.cells
    have HQ : Hid (toF T (nbNats ys) = toF T (allS S)) := by show _ = _; rw [← hxs]; rfl
    have hres := bR.below hB' (by omega)
    obtain ⟨r0, r1, r2, r3⟩ := SB.cells hres
    have rz := hres.frozen
    have k2 := Hid.of (SB.set4 hres (toF T (nbNats ys)))
    have k3 := Hid.of (below_set4 hBW (b' := w.heap.size + 1 + 1) (by omega) (.int .u64 (toF T (nbNats ys) 0)) (.int .u64 (toF T (nbNats ys) 1)) (.int .u64 (toF T (nbNats ys) 2)) (.int .u64 (toF T (nbNats ys) 3)))
    have hMk : Marks w.heap.size [D] W' := by
      refine ⟨fun D' hD' => ?_, by simp⟩
      have e : D' = D := by simpa using hD'
      rw [e]
      exact ⟨by omega, hK⟩
    have k4 := Hid.of (hMk.other4 hres (toF T (nbNats ys)))
    clear hMk
    clear hO hBW hB' hres hK
    generalize toF T (nbNats ys) = O at *
    gi_wp2
    refine leaves_marks (B := w.heap.size) (fun W => SB W (w.heap.size + 1 + 1) O ∧ Below w.heap.size w W) ?hJ ?hfin [D] _ k4.out ⟨k2.out, k3.out⟩
    case hJ =>
      rintro W D ⟨h1, h2⟩ hD hk
      refine ⟨(World.putObj_heap_other (fun e => ?_)).trans h1, h2.trans (belowK_b (w := w) (Nat.le_refl _) W D _ _ hD hk rfl rfl)⟩
      have h3 : W.heap[w.heap.size + 1 + 1]? = _ := h1
      rw [e, hk] at h3
      cases h3
    case hfin =>
      rintro W ⟨h1, h2⟩
      exact ⟨_, results_cell_row (g := w.heap.size + 1 + 1) (p := 4) rfl _ _ _ _ _ _ rfl h1 Tryd.underlying62 rfl (by kernel_rfl), by rw [← HQ.out], h2⟩
  case stop =>
    rintro D c pre W _ _ h _
    exact h.elim

theorem union_any (S : Nat → Nat) (hS : okS S) (N : Nat) (T : Nat → Nat → Nat) (hTok : ∀ p, okS (T p)) (hall : ∀ k ∈ allS S, k < N) (hN : N ≤ 256) (pg : Nat) (w : World) (hT : Tab w) (hTB : TB w pg N T) :
    Calls Tryd.prog 72 #[sval S, .slice (some ⟨pg, 0, none⟩) N N] w fun e W' => e = .returned (sval (toF T (allS S))) ∧ Below w.heap.size w W' :=
  callsIn_wide.1 (union_in S hS N T hTok hall hN pg w hT hTB)

end Go.Proofs.YtbdkaobbfmgnhaaDoor
namespace Go.Proofs.YtbdkaobbfmgnhaaDoor
open Go.RowKit
set_option linter.unusedVariables false

/-- Each state by itself, the first n of them. -/
def iniT (n : Nat) : Nat → Nat → Nat := fun p => if p < n then withS zeroS p else zeroS
theorem okS_ini (n p : Nat) : okS (iniT n p) := by
  unfold iniT; split
  · exact okS_with okS_zero _
  · exact okS_zero
theorem has_ini {n p k : Nat} (h : p < n) : hasS (iniT n p) k = decide (k = p) := by
  unfold iniT; rw [if_pos h, hasS_with, hasS_zero]; rfl

/-- One arrow more. -/
def qStep (seen : List Int) (T : Nat → Nat → Nat) (a : Arr) : Nat → Nat → Nat := if hasB seen a.e = true then T else tabKStep (·.f) (·.t) T a
def qTab (seen : List Int) (N : Nat) (ars : List Arr) : Nat → Nat → Nat := ars.foldl (qStep seen) (iniT N)
theorem qTab_take {seen : List Int} {N : Nat} {ars : List Arr} {k : Nat} {a : Arr} (h : k < ars.length) (ha : Hid (a = ars[k]?.getD arr0)) : qTab seen N (ars.take (k + 1)) = qStep seen (qTab seen N (ars.take k)) a := by
  have ha := ha.out
  rw [List.getElem?_eq_getElem h, Option.getD_some] at ha
  unfold qTab
  rw [List.take_add_one, List.getElem?_eq_getElem h, ← ha]
  simp [List.foldl_append]
theorem okS_qStep {seen : List Int} {T : Nat → Nat → Nat} (h : ∀ p, okS (T p)) (a : Arr) : ∀ p, okS (qStep seen T a p) := fun p => by
  unfold qStep; split
  · exact h p
  · exact okS_tabKStep h a p
theorem okS_qFold {seen : List Int} : ∀ (ars : List Arr) (T : Nat → Nat → Nat), (∀ p, okS (T p)) → ∀ p, okS (ars.foldl (qStep seen) T p)
  | [], _, h => h
  | a :: r, T, h => okS_qFold r _ (okS_qStep h a)
theorem okS_qTab (seen : List Int) (N : Nat) (ars : List Arr) (p : Nat) : okS (qTab seen N ars p) := okS_qFold ars _ (okS_ini N) p
theorem has_qFold {seen : List Int} {p n : Nat} : ∀ (ars : List Arr) (T : Nat → Nat → Nat), hasS (ars.foldl (qStep seen) T p) n = true ↔ hasS (T p) n = true ∨ ∃ a ∈ unseenA ars seen, p = a.f.toNat ∧ n = a.t.toNat
  | [], T => by simp [unseenA]
  | a :: r, T => by
    rw [List.foldl_cons, has_qFold r]
    have e : hasS (qStep seen T a p) n = true ↔ hasS (T p) n = true ∨ (hasB seen a.e = false ∧ p = a.f.toNat ∧ n = a.t.toNat) := by
      unfold qStep
      split
      · rename_i h; simp [h]
      · rename_i h
        have h : hasB seen a.e = false := by simpa using h
        unfold tabKStep
        by_cases hp : p = a.f.toNat
        · rw [if_pos hp, hasS_with, Bool.or_eq_true, decide_eq_true_eq]; simp [h, hp]
        · rw [if_neg hp]; simp [hp]
    rw [e, or_assoc]
    refine or_congr Iff.rfl ?_
    constructor
    · rintro (⟨h1, h2⟩ | ⟨c, hc, h2⟩)
      · exact ⟨a, (mem_unseen _ _ _).2 ⟨by simp, h1⟩, h2⟩
      · exact ⟨c, (mem_unseen _ _ _).2 ⟨by simp [((mem_unseen _ _ _).1 hc).1], ((mem_unseen _ _ _).1 hc).2⟩, h2⟩
    · rintro ⟨c, hc, h2⟩
      obtain ⟨h1, h3⟩ := (mem_unseen _ _ _).1 hc
      rcases List.mem_cons.1 h1 with rfl | h1
      · exact .inl ⟨h3, h2⟩
      · exact .inr ⟨c, (mem_unseen _ _ _).2 ⟨h1, h3⟩, h2⟩
theorem has_qTab {seen : List Int} {N p n : Nat} (ars : List Arr) (hp : p < N) : hasS (qTab seen N ars p) n = true ↔ n = p ∨ ∃ a ∈ unseenA ars seen, p = a.f.toNat ∧ n = a.t.toNat := by
  unfold qTab; rw [has_qFold, has_ini hp, decide_eq_true_eq]

/-- One middle state more: the first j rows are done. -/
def fIn (T : Nat → Nat → Nat) (k j : Nat) : Nat → Nat → Nat := fun p => if p < j ∧ hasS (T p) k = true then joinS (T p) (T k) else T p
def fOut (T : Nat → Nat → Nat) (N : Nat) : Nat → Nat → Nat → Nat
  | 0 => T
  | k + 1 => fIn (fOut T N k) k N
theorem joinS_self (S : Nat → Nat) : joinS S S = S := by funext k; simp [joinS]
theorem fIn_zero (T : Nat → Nat → Nat) (k : Nat) : fIn T k 0 = T := by funext p; simp [fIn]
theorem fIn_at (T : Nat → Nat → Nat) (k j : Nat) : fIn T k j j = T j := by simp [fIn]
theorem fIn_mid (T : Nat → Nat → Nat) (k j : Nat) : fIn T k j k = T k := by
  unfold fIn; split
  · exact joinS_self _
  · rfl
theorem fIn_yes {T : Nat → Nat → Nat} {k j : Nat} (h : hasS (T j) k = true) : fIn T k (j + 1) = fun p => if p = j then joinS (T j) (T k) else fIn T k j p := by
  funext p
  unfold fIn
  by_cases hp : p = j
  · subst hp; simp [h]
  · have : (p < j + 1) ↔ p < j := by omega
    simp [hp, this]
theorem fIn_no {T : Nat → Nat → Nat} {k j : Nat} (h : hasS (T j) k = false) : fIn T k (j + 1) = fIn T k j := by
  funext p
  unfold fIn
  by_cases hp : p = j
  · subst hp; simp [h]
  · have : (p < j + 1) ↔ p < j := by omega
    simp [this]
theorem okS_fIn {T : Nat → Nat → Nat} (h : ∀ p, okS (T p)) (k j p : Nat) : okS (fIn T k j p) := by
  unfold fIn; split
  · exact okS_join (h p) (h k)
  · exact h p
theorem okS_fOut {T : Nat → Nat → Nat} (h : ∀ p, okS (T p)) (N : Nat) : ∀ k p, okS (fOut T N k p)
  | 0, p => h p
  | k + 1, p => okS_fIn (okS_fOut h N k) k N p
theorem has_fIn {T : Nat → Nat → Nat} {k N p n : Nat} (hp : p < N) : hasS (fIn T k N p) n = true ↔ hasS (T p) n = true ∨ (hasS (T p) k = true ∧ hasS (T k) n = true) := by
  unfold fIn
  cases h : hasS (T p) k with
  | true => simp [hp, hasS_join]
  | false => simp
/-- By the first k states as middle ones all ways are known. -/
structure Mid (T : Nat → Nat → Nat) (N k : Nat) (U : Nat → Nat → Nat) : Prop where
  sub : ∀ p n, p < N → hasS (T p) n = true → hasS (U p) n = true
  tr : ∀ p q n, p < N → q < k → hasS (U p) q = true → hasS (U q) n = true → hasS (U p) n = true
theorem mid_out (T : Nat → Nat → Nat) (N : Nat) : ∀ k, k ≤ N → Mid T N k (fOut T N k)
  | 0, _ => ⟨fun _ _ _ h => h, fun _ q _ _ h => absurd h (Nat.not_lt_zero q)⟩
  | k + 1, hk => by
    have h := mid_out T N k (by omega)
    refine ⟨fun p n hp hx => (has_fIn hp).2 (.inl (h.sub p n hp hx)), fun p q n hp hq h1 h2 => ?_⟩
    have hqN : q < N := by omega
    have h1 := (has_fIn hp).1 h1
    have h2 := (has_fIn hqN).1 h2
    refine (has_fIn hp).2 ?_
    by_cases e : q = k
    · subst e
      have h1' : hasS (fOut T N q p) q = true := by
        rcases h1 with h1 | h1
        · exact h1
        · exact h1.1
      have h2' : hasS (fOut T N q q) n = true := by
        rcases h2 with h2 | h2
        · exact h2
        · exact h2.2
      exact .inr ⟨h1', h2'⟩
    · have hq : q < k := by omega
      rcases h1 with h1 | ⟨h1, h3⟩
      · rcases h2 with h2 | ⟨h2, h4⟩
        · exact .inl (h.tr p q n hp hq h1 h2)
        · exact .inr ⟨h.tr p q k hp hq h1 h2, h4⟩
      · rcases h2 with h2 | ⟨h2, h4⟩
        · exact .inr ⟨h1, h.tr k q n (by omega) hq h3 h2⟩
        · exact .inr ⟨h1, h4⟩
theorem sound_out {T : Nat → Nat → Nat} {N : Nat} (G : Nat → Nat → Prop) (h0 : ∀ p n, p < N → hasS (T p) n = true → G p n) (ht : ∀ p q n, p < N → q < N → G p q → G q n → G p n) : ∀ k, k ≤ N → ∀ p n, p < N → hasS (fOut T N k p) n = true → G p n
  | 0, _, p, n, hp, h => h0 p n hp h
  | k + 1, hk, p, n, hp, h => by
    rcases (has_fIn hp).1 h with h | ⟨h1, h2⟩
    · exact sound_out G h0 ht k (by omega) p n hp h
    · exact ht p k n hp (by omega) (sound_out G h0 ht k (by omega) p k hp h1) (sound_out G h0 ht k (by omega) k n (by omega) h2)

/-- Of each state, where unseen events lead to. -/
def stillT (seen : List Int) (N : Nat) (ars : List Arr) : Nat → Nat → Nat := fOut (qTab seen N ars) N N
theorem okS_still (seen : List Int) (N : Nat) (ars : List Arr) (p : Nat) : okS (stillT seen N ars p) := okS_fOut (okS_qTab seen N ars) N N p
theorem rch_trans {fr to : Arr → Int} {ars : List Arr} {l l' : List Int} {x : Int} (h : ∀ y ∈ l', Rch fr to ars l y) (hx : Rch fr to ars l' x) : Rch fr to ars l x :=
  fun P hP => hx P ⟨fun y hy => h y hy P hP, hP.step⟩
theorem rch_one {fr to : Arr → Int} {ars : List Arr} {l : List Int} {x : Int} : Rch fr to ars l x ↔ ∃ y ∈ l, Rch fr to ars [y] x := by
  constructor
  · intro h
    refine h (fun x => ∃ y ∈ l, Rch fr to ars [y] x) ⟨fun y hy => ⟨y, hy, rch_start (by simp)⟩, fun a ha ⟨y, hy, h⟩ => ⟨y, hy, rch_step ha h⟩⟩
  · rintro ⟨y, hy, h⟩
    exact rch_trans (fun z hz => by have : z = y := by simpa using hz
                                    rw [this]; exact rch_start hy) h
theorem has_still {m : Mach} (hm : mayB m = true) (seen : List Int) {N : Nat} (hN : m.st = (N : Int)) {p n : Nat} (hp : p < N) : hasS (stillT seen N m.arrows p) n = true ↔ Rch (·.f) (·.t) (unseenA m.arrows seen) [(p : Int)] (n : Int) := by
  have hb : ∀ a ∈ unseenA m.arrows seen, (0 ≤ a.f ∧ a.f < (N : Int)) ∧ 0 ≤ a.t ∧ a.t < (N : Int) := fun a ha => by
    have := may_arrs hm a ((mem_unseen _ _ _).1 ha).1
    rw [hN] at this
    exact ⟨⟨this.1, this.2.1⟩, this.2.2.1, this.2.2.2.1⟩
  constructor
  · refine fun h => sound_out (fun p n => Rch (·.f) (·.t) (unseenA m.arrows seen) [(p : Int)] (n : Int)) (fun p n hp h => ?_) (fun p q n hp hq h1 h2 => ?_) N (Nat.le_refl _) p n hp h
    · rcases (has_qTab _ hp).1 h with rfl | ⟨a, ha, rfl, rfl⟩
      · exact rch_start (by simp)
      · have h1 := hb a ha
        have : Rch (·.f) (·.t) (unseenA m.arrows seen) [((a.f.toNat : Nat) : Int)] a.f := rch_start (by simp; omega)
        have := rch_step (fr := (·.f)) (to := (·.t)) ha this
        rwa [show ((a.t.toNat : Nat) : Int) = a.t by omega]
    · exact rch_trans (fun y hy => by have : y = (q : Int) := by simpa using hy
                                      rw [this]; exact h1) h2
  · intro h
    have hM := mid_out (qTab seen N m.arrows) N N (Nat.le_refl _)
    have := h (fun x => 0 ≤ x ∧ x < (N : Int) ∧ hasS (stillT seen N m.arrows p) x.toNat = true) ⟨fun y hy => ?_, fun a ha h => ?_⟩
    · simpa using this.2.2
    · have : y = (p : Int) := by simpa using hy
      subst this
      exact ⟨by omega, by omega, by rw [Int.toNat_natCast]; exact hM.sub p p hp ((has_qTab _ hp).2 (.inl rfl))⟩
    · have h1 := hb a ha
      refine ⟨h1.2.1, h1.2.2, hM.tr p a.f.toNat a.t.toNat hp (by omega) h.2.2 (hM.sub _ _ (by omega) ((has_qTab _ (by omega)).2 (.inr ⟨a, ha, rfl, rfl⟩)))⟩

/-- Of each seen event and each state, where it leads to. -/
def lStep (seen : List Int) (S : Nat → Nat → Nat) (U : Nat → Nat → Nat → Nat) (a : Arr) : Nat → Nat → Nat → Nat := if hasB seen a.e = true then (fun k => if k = (placeI seen a.e).toNat then (fun p => if p = a.f.toNat then joinS (U k p) (S a.t.toNat) else U k p) else U k) else U
def lTab (seen : List Int) (S : Nat → Nat → Nat) (ars : List Arr) : Nat → Nat → Nat → Nat := ars.foldl (lStep seen S) (fun _ _ => zeroS)
theorem lTab_take {seen : List Int} {S : Nat → Nat → Nat} {ars : List Arr} {k : Nat} {a : Arr} (h : k < ars.length) (ha : Hid (a = ars[k]?.getD arr0)) : lTab seen S (ars.take (k + 1)) = lStep seen S (lTab seen S (ars.take k)) a := by
  have ha := ha.out
  rw [List.getElem?_eq_getElem h, Option.getD_some] at ha
  unfold lTab
  rw [List.take_add_one, List.getElem?_eq_getElem h, ← ha]
  simp [List.foldl_append]
theorem okS_lStep {seen : List Int} {S : Nat → Nat → Nat} (hS : ∀ p, okS (S p)) {U : Nat → Nat → Nat → Nat} (h : ∀ k p, okS (U k p)) (a : Arr) : ∀ k p, okS (lStep seen S U a k p) := fun k p => by
  unfold lStep; split
  · dsimp only
    split
    · show okS (if p = a.f.toNat then joinS (U k p) (S a.t.toNat) else U k p)
      split
      · exact okS_join (h k p) (hS _)
      · exact h k p
    · exact h k p
  · exact h k p
theorem okS_lFold {seen : List Int} {S : Nat → Nat → Nat} (hS : ∀ p, okS (S p)) : ∀ (ars : List Arr) (U : Nat → Nat → Nat → Nat), (∀ k p, okS (U k p)) → ∀ k p, okS (ars.foldl (lStep seen S) U k p)
  | [], _, h => h
  | a :: r, U, h => okS_lFold hS r _ (okS_lStep hS h a)
theorem okS_lTab {seen : List Int} {S : Nat → Nat → Nat} (hS : ∀ p, okS (S p)) (ars : List Arr) (k p : Nat) : okS (lTab seen S ars k p) := okS_lFold hS ars _ (fun _ _ => okS_zero) k p
theorem has_lFold {seen : List Int} {S : Nat → Nat → Nat} {k p n : Nat} : ∀ (ars : List Arr) (U : Nat → Nat → Nat → Nat), hasS (ars.foldl (lStep seen S) U k p) n = true ↔ hasS (U k p) n = true ∨ ∃ a ∈ ars, hasB seen a.e = true ∧ k = (placeI seen a.e).toNat ∧ p = a.f.toNat ∧ hasS (S a.t.toNat) n = true
  | [], U => by simp
  | a :: r, U => by
    rw [List.foldl_cons, has_lFold r]
    have e : hasS (lStep seen S U a k p) n = true ↔ hasS (U k p) n = true ∨ (hasB seen a.e = true ∧ k = (placeI seen a.e).toNat ∧ p = a.f.toNat ∧ hasS (S a.t.toNat) n = true) := by
      unfold lStep
      split
      · rename_i h
        dsimp only
        by_cases hk : k = (placeI seen a.e).toNat
        · rw [if_pos hk]
          by_cases hp : p = a.f.toNat
          · rw [if_pos hp, hasS_join, Bool.or_eq_true]; simp [h, hk, hp]
          · rw [if_neg hp]; simp [hp]
        · rw [if_neg hk]; simp [hk]
      · rename_i h; simp [h]
    rw [e, or_assoc]
    simp only [List.mem_cons, exists_eq_or_imp]
theorem has_lTab {seen : List Int} {S : Nat → Nat → Nat} {k p n : Nat} (ars : List Arr) : hasS (lTab seen S ars k p) n = true ↔ ∃ a ∈ ars, hasB seen a.e = true ∧ k = (placeI seen a.e).toNat ∧ p = a.f.toNat ∧ hasS (S a.t.toNat) n = true := by
  unfold lTab; rw [has_lFold]; simp [hasS_zero]

/-- What is laid from a state, at a seen event. -/
def layS (seen : List Int) (N : Nat) (ars : List Arr) (f k : Nat) : Nat → Nat := toF (lTab seen (stillT seen N ars) ars k) (allS (stillT seen N ars f))
def layR (seen : List Int) (N : Nat) (ars : List Arr) (f k : Nat) : List Arr := (allS (layS seen N ars f k)).map fun n : Nat => ⟨(f : Int), (k : Int), (n : Int)⟩
theorem layR_eq {m : Mach} (hm : mayB m = true) {seen : List Int} (hs : rowB m.ev seen = true) {N : Nat} (hN : m.st = (N : Int)) {f k : Nat} (hf : f < N) (hk : k < seen.length) : layR seen N m.arrows f k = hRow m seen f k := by
  have h0 := mayB_size hm
  unfold sizeOk at h0
  have hN2 : N ≤ 256 := by omega
  have hbS : ∀ p, p < N → ∀ n, hasS (stillT seen N m.arrows p) n = true → n < N := fun p hp n h => by
    have := rch_bd (n := (N : Int)) (fun x hx => by have : x = (p : Int) := by simpa using hx
                                                    omega) (fun a ha => by have := may_arrs hm a ((mem_unseen _ _ _).1 ha).1
                                                                           rw [hN] at this; exact ⟨this.2.2.1, this.2.2.2.1⟩) ((has_still hm seen hN hp).1 h)
    omega
  have e : rowS (layS seen N m.arrows f k) = wideL m.arrows seen (stepL m.arrows (wideL m.arrows seen [(f : Int)]) (seen[k]?.getD 0)) := by
    refine inc_ext (inc_rowS _) (inc_wide _ _ _) (fun x => ?_)
    rw [mem_rowS, mem_wide (may_to hm), rch_one]
    unfold layS
    have hkk : seen[k]? = some seen[k] := List.getElem?_eq_getElem hk
    have hI := ((rowB_iff _ (by omega) _).1 hs).1
    constructor
    · rintro ⟨hx0, hx1, hx⟩
      obtain ⟨q, hq, hx⟩ := (has_toF _ _ _).1 hx
      obtain ⟨-, hq⟩ := (mem_allS _ _).1 hq
      obtain ⟨a, ha, h1, h2, h3, h4⟩ := (has_lTab _).1 hx
      have hba := may_arrs hm a ha
      rw [hN] at hba
      obtain ⟨b1, b2, b3, b4, -⟩ := hba
      refine ⟨a.t, (mem_stepL _ _ _ _).2 ⟨a, ha, ?_, ?_, rfl⟩, ?_⟩
      · obtain ⟨j, hj⟩ := placeN_mem ((hasB_iff _ _).1 h1)
        rw [placeI_of hj] at h2
        have hk2 : k = j := by omega
        rw [hk2, placeN_some hj]; rfl
      · rw [mem_wide (may_to hm)]
        have := (has_still hm seen hN hf).1 hq
        rwa [show (q : Int) = a.f by omega] at this
      · have := (has_still hm seen hN (p := a.t.toNat) (by omega)).1 h4
        rwa [show ((a.t.toNat : Nat) : Int) = a.t by omega, Int.toNat_of_nonneg hx0] at this
    · rintro ⟨y, hy, hx⟩
      obtain ⟨a, ha, h1, h2, rfl⟩ := (mem_stepL _ _ _ _).1 hy
      rw [mem_wide (may_to hm)] at h2
      have hba := may_arrs hm a ha
      rw [hN] at hba
      obtain ⟨b1, b2, b3, b4, -⟩ := hba
      have hxb := rch_bd (n := (N : Int)) (fun x hx => by have : x = a.t := by simpa using hx
                                                          omega) (fun a ha => by have := may_arrs hm a ((mem_unseen _ _ _).1 ha).1
                                                                                 rw [hN] at this; exact ⟨this.2.2.1, this.2.2.2.1⟩) hx
      rw [hkk, Option.getD_some] at h1
      have hmem : a.e ∈ seen := by rw [h1]; exact List.getElem_mem hk
      refine ⟨hxb.1, by omega, (has_toF _ _ _).2 ⟨a.f.toNat, (mem_allS _ _).2 ⟨by omega, ?_⟩, (has_lTab _).2 ⟨a, ha, (hasB_iff _ _).2 hmem, ?_, rfl, ?_⟩⟩⟩
      · refine (has_still hm seen hN hf).2 ?_
        rwa [show ((a.f.toNat : Nat) : Int) = a.f by omega]
      · obtain ⟨j, hj⟩ := placeN_mem hmem
        rw [placeI_of hj]
        have h3 := placeN_some hj
        rw [h1] at h3
        have : k = j := by
          obtain ⟨hjl, h6⟩ := List.getElem?_eq_some_iff.1 h3
          rcases Nat.lt_trichotomy k j with h | h | h
          · have := List.pairwise_iff_getElem.1 hI k j hk hjl h; omega
          · exact h
          · have := List.pairwise_iff_getElem.1 hI j k hjl hk h; omega
        omega
      · refine (has_still hm seen hN (p := a.t.toNat) (by omega)).2 ?_
        rw [show ((a.t.toNat : Nat) : Int) = a.t by omega, Int.toNat_of_nonneg hxb.1]
        exact hx
  unfold layR hRow
  rw [← e]
  unfold rowS
  rw [List.map_map]; rfl
/-- Where the starts lead to, unseen. -/
theorem startS_eq {m : Mach} (hm : mayB m = true) (seen : List Int) {N : Nat} (hN : m.st = (N : Int)) : rowS (toF (stillT seen N m.arrows) (allS (ofS m.starts))) = wideL m.arrows seen m.starts := by
  have h0 := mayB_size hm
  unfold sizeOk at h0
  have hst := may_starts hm
  have hr : Rep (ofS m.starts) m.starts := by
    have := rep_of (l := m.starts) (fun x hx => by have := hst.2 x hx; omega) m.starts.length
    rwa [List.take_of_length_le (Nat.le_refl _)] at this
  refine inc_ext (inc_rowS _) (inc_wide _ _ _) (fun x => ?_)
  rw [mem_rowS, mem_wide (may_to hm), rch_one]
  constructor
  · rintro ⟨hx0, hx1, hx⟩
    obtain ⟨q, hq, hx⟩ := (has_toF _ _ _).1 hx
    obtain ⟨hq1, hq⟩ := (mem_allS _ _).1 hq
    have hq := (hr.mem q hq1).1 hq
    have := hst.2 _ hq
    refine ⟨(q : Int), hq, ?_⟩
    have := (has_still hm seen hN (p := q) (by omega)).1 hx
    rwa [Int.toNat_of_nonneg hx0] at this
  · rintro ⟨y, hy, hx⟩
    have hb := hst.2 y hy
    have hxb := rch_bd (n := (N : Int)) (fun x hx => by have : x = y := by simpa using hx
                                                        omega) (fun a ha => by have := may_arrs hm a ((mem_unseen _ _ _).1 ha).1
                                                                               rw [hN] at this; exact ⟨this.2.2.1, this.2.2.2.1⟩) hx
    refine ⟨hxb.1, by omega, (has_toF _ _ _).2 ⟨y.toNat, (mem_allS _ _).2 ⟨by omega, (hr.mem _ (by omega)).2 ?_⟩, (has_still hm seen hN (p := y.toNat) (by omega)).2 ?_⟩⟩
    · rwa [Int.toNat_of_nonneg hb.1]
    · rw [Int.toNat_of_nonneg hb.1, Int.toNat_of_nonneg hxb.1]; exact hx
/-- All that is laid from the first f states, and at the first k events from the next one. -/
def layA (seen : List Int) (N : Nat) (ars : List Arr) (K f k : Nat) : List Arr := ((List.range f).flatMap fun f => (List.range K).flatMap (layR seen N ars f)) ++ (List.range k).flatMap (layR seen N ars f)
theorem layA_zero (seen : List Int) (N : Nat) (ars : List Arr) (K : Nat) : layA seen N ars K 0 0 = [] := by simp [layA]
theorem layA_event (seen : List Int) (N : Nat) (ars : List Arr) (K f k : Nat) : layA seen N ars K f (k + 1) = layA seen N ars K f k ++ layR seen N ars f k := by
  unfold layA
  rw [List.range_succ, List.flatMap_append, ← List.append_assoc]; simp
theorem layA_from (seen : List Int) (N : Nat) (ars : List Arr) (K f : Nat) : layA seen N ars K (f + 1) 0 = layA seen N ars K f K := by
  unfold layA
  simp only [List.range_succ, List.flatMap_append, List.flatMap_cons, List.flatMap_nil, List.append_nil, List.range_zero]
theorem flatMap_congr' {α β : Type} {l : List α} {f g : α → List β} (h : ∀ x ∈ l, f x = g x) : l.flatMap f = l.flatMap g := by
  induction l with
  | nil => rfl
  | cons a r ih => rw [List.flatMap_cons, List.flatMap_cons, h a (by simp), ih (fun x hx => h x (by simp [hx]))]
theorem layA_all {m : Mach} (hm : mayB m = true) {seen : List Int} (hs : rowB m.ev seen = true) {N : Nat} (hN : m.st = (N : Int)) : layA seen N m.arrows seen.length N 0 = hAll m seen m.st.toNat := by
  unfold layA hAll hFrom
  rw [hN, Int.toNat_natCast]
  simp only [List.range_zero, List.flatMap_nil, List.append_nil]
  refine flatMap_congr' (fun f hf => flatMap_congr' (fun k hk => ?_))
  exact layR_eq hm hs hN (List.mem_range.1 hf) (List.mem_range.1 hk)
theorem layA_mono {seen : List Int} {N : Nat} {ars : List Arr} {K f k : Nat} (hk : k ≤ K) : (layA seen N ars K f k).length ≤ (layA seen N ars K f K).length := by
  obtain ⟨d, rfl⟩ : ∃ d, K = k + d := ⟨K - k, by omega⟩
  clear hk
  have : ∀ d, (layA seen N ars (k + d) f k).length ≤ (layA seen N ars (k + d) f (k + d)).length := by
    intro d
    unfold layA
    rw [List.length_append, List.length_append]
    have : ((List.range k).flatMap (layR seen N ars f)).length ≤ ((List.range (k + d)).flatMap (layR seen N ars f)).length := by
      rw [List.range_add, List.flatMap_append, List.length_append]; omega
    omega
  exact this d
theorem layA_monoF {seen : List Int} {N : Nat} {ars : List Arr} {K : Nat} : ∀ {f g : Nat}, f ≤ g → (layA seen N ars K f 0).length ≤ (layA seen N ars K g 0).length := by
  intro f g h
  unfold layA
  simp only [List.range_zero, List.flatMap_nil, List.append_nil]
  obtain ⟨d, rfl⟩ : ∃ d, g = f + d := ⟨g - f, by omega⟩
  rw [List.range_add, List.flatMap_append, List.length_append]; omega
theorem layA_le {seen : List Int} {N : Nat} {ars : List Arr} {K f k : Nat} (hf : f < N) (hk : k ≤ K) : (layA seen N ars K f k).length ≤ (layA seen N ars K N 0).length := by
  have h1 := layA_mono (seen := seen) (N := N) (ars := ars) (f := f) hk
  rw [← layA_from] at h1
  exact Nat.le_trans h1 (layA_monoF (by omega))
end Go.Proofs.YtbdkaobbfmgnhaaDoor
