/-
  The walk of text.arrowsOf.
  Plain: what jalousieref16.names tells.
  A project's value, and what is said of it in a world.
  A project that came in, opened; a string that came in, opened.
  The walks of text.isName, text.areNames.
  The walk of text.isForm.
  The walk of text.pick.
-/
import Derived.Deep.RegionHeld3
import Derived.Test.YtbgiliophmofgaaG10
import Derived.Test.YtbgiliophmofgaaG05
import Derived.Test.YtbgiliophmofgaaG07
import Derived.Test.YtbgiliophmofgaaG02
import Derived.Test.YtbgiliophmofgaaG01
import Derived.Test.YtbgiliophmofgaaG06
import Derived.Test.YtbgiliophmofgaaG03
namespace Go.Proofs.Ytbgiliophmofgaa
open Go.RowKit
set_option linter.unusedVariables false

theorem aheadB_irr (x : Arr) : aheadB x x = false := by
  cases h : aheadB x x with
  | false => rfl
  | true => rw [aheadB_iff] at h; omega
theorem bs_hasA {l : List Arr} {x : Arr} {k : Nat} {f : Bool} (h : BsIs l x k f) (hi : IncA l) : hasA l x.f x.e x.t = f := by
  unfold hasA
  rw [Bool.eq_iff_iff, List.any_eq_true]
  constructor
  · rintro ⟨y, hy, hd⟩
    have hd := of_decide_eq_true hd
    have hyx : y = x := arr_ext ⟨hd.1, hd.2.1, hd.2.2⟩
    subst hyx
    obtain ⟨j, hj, hjy⟩ := List.mem_iff_getElem.1 hy
    have hg : l[j]?.getD arr0 = y := by rw [List.getElem?_eq_getElem hj, hjy]; rfl
    rcases Nat.lt_trichotomy j k with c | c | c
    · have := h.lo j c
      rw [hg, aheadB_irr] at this; cases this
    · refine h.eq.2 ⟨by omega, ?_⟩
      rw [← c, hg]
      exact ⟨rfl, rfl, rfl⟩
    · have h1 := incA_at hi hj c
      rw [hg, h.hi k (Nat.le_refl _) (by omega)] at h1; cases h1
  · intro hf
    obtain ⟨h1, h2⟩ := h.eq.1 hf
    refine ⟨l[k]?.getD arr0, ?_, decide_eq_true ⟨h2.1, h2.2.1, h2.2.2⟩⟩
    rw [List.getElem?_eq_getElem h1]
    exact List.getElem_mem h1
theorem bs_insA {l : List Arr} {x : Arr} {k : Nat} (h : BsIs l x k false) : insA x l = l.take k ++ x :: l.drop k := by
  refine insA_put h.le h.lo ?_
  by_cases hk : k = l.length
  · exact .inl hk
  · have hlt : k < l.length := by have := h.le; omega
    exact .inr ⟨h.hi k (Nat.le_refl _) hlt, fun e => by have := h.eq.2 ⟨hlt, e⟩; cases this⟩
theorem aflat_drop : ∀ (L : List Arr) (p : Nat), (aflat L).drop (p * 3) = aflat (L.drop p)
  | [], p => by simp [aflat]
  | a :: r, 0 => by simp [aflat]
  | a :: r, p + 1 => by rw [show (p + 1) * 3 = p * 3 + 1 + 1 + 1 by omega]; simp only [aflat, List.drop_succ_cons, aflat_drop r p]
theorem ownA_ins {W : World} {B k : Nat} {v : Value} {l : List Arr} {x : Arr} (h : W.ownsRow B 60 3 v (l.length + 1) (insAt 3 k [.int .i64 x.f, .int .i64 x.e, .int .i64 x.t] (aflat l))) (hb : BsIs l x k false) : OwnA W B v (insA x l) := by
  have e : aflat (insA x l) = insAt 3 k [.int .i64 x.f, .int .i64 x.e, .int .i64 x.t] (aflat l) := by
    rw [bs_insA hb]
    unfold insAt
    rw [aflat_take, aflat_drop, aflat_append, aflat]
    simp
  have hl : (insA x l).length = l.length + 1 := by
    have := hb.le
    rw [bs_insA hb]; simp; omega
  unfold OwnA
  rw [e, hl]
  exact h
/-- Threes of tokens, as they are read. -/
def ThAt (W : World) (v : Value) (ts : List Thr) : Prop := ∃ a c, v = .slice a ts.length c ∧ (ts = [] ∨ ∃ g, a = some ⟨g, 0, none⟩ ∧ g < W.heap.size ∧ ∀ j (x : Thr), ts[j]? = some x → ∀ i u, (thcells x)[i]? = some u → W.cell? ⟨g, j * 9 + i, none⟩ = some u)
theorem thcells_len (x : Thr) : (thcells x).length = 9 := rfl
theorem thflat_at : ∀ (l : List Thr) (j : Nat) (x : Thr), l[j]? = some x → ∀ i u, (thcells x)[i]? = some u → (thflat l)[j * 9 + i]? = some u
  | [], j, x, h => by simp at h
  | y :: r, 0, x, h => fun i u hu => by
    have : y = x := by simpa using h
    subst this
    have e : thflat (y :: r) = thcells y ++ thflat r := rfl
    have hi := (List.getElem?_eq_some_iff.1 hu).1
    rw [e, Nat.zero_mul, Nat.zero_add, List.getElem?_append_left hi]
    exact hu
  | y :: r, j + 1, x, h => fun i u hu => by
    have ih := thflat_at r j x (by simpa using h) i u hu
    have e : thflat (y :: r) = thcells y ++ thflat r := rfl
    rw [e, List.getElem?_append_right (by rw [thcells_len]; omega), thcells_len, show (j + 1) * 9 + i - 9 = j * 9 + i by omega]
    exact ih
theorem OwnTh.thAt {W : World} {B : Nat} {v : Value} {l : List Thr} (h : OwnTh W B v l) : ThAt W v l := by
  rcases h.2 with ⟨rfl, hn⟩ | ⟨g, cap, cur, rfl, hg, hh, hnc, hcm, hcs, ht⟩
  · have : l = [] := List.eq_nil_of_length_eq_zero hn
    subst this
    exact ⟨none, 0, rfl, .inl rfl⟩
  · refine ⟨_, cap, rfl, .inr ⟨g, rfl, (Array.getElem?_eq_some_iff.1 hh).1, fun j x hj i u hu => ?_⟩⟩
    have hc := h.cells (g := g) rfl _ u (thflat_at l j x hj i u hu)
    rw [addr0_add, Nat.zero_add] at hc
    exact hc
/-- What arrowsOf leaves. -/
def ArrPostT (x : Except (Int × Nat) (List Arr)) (w : World) (e : Ending) (w' : World) : Prop := Below w.heap.size w w' ∧ match x with
  | .error er => e = Pn er.1 (er.2 : Int)
  | .ok l => ∃ v, e = .returned v ∧ OwnA w' w.heap.size v l
/-- Where an arrow is found. -/
def BsfC (V : World) (va : Option Addr) (vc : Nat) (l : List Arr) (x : Arr) : Prop := AtA V va l → Calls Try.prog 75 #[.slice va l.length vc, .agg (acells x), .func (.func 76) #[] #[]] V fun e w' => ∃ (k : Nat) (f : Bool), e = .returned (.tuple #[.int .i64 k, .bool f]) ∧ BsIs l x k f ∧ Below V.heap.size V w'
theorem aflat_cellT : ∀ l : List Arr, ∀ u ∈ aflat l, u.oneCell' = true
  | [], u, h => by simp [aflat] at h
  | a :: r, u, h => by
    simp only [aflat, List.mem_cons] at h
    rcases h with rfl | rfl | rfl | h
    · rfl
    · rfl
    · rfl
    · exact aflat_cellT r u h
theorem fd_below {w V : World} {p : Nat} {S : List Str} (h : FdAt w p S) (hb : Below w.heap.size w V) : FdAt V p S := h.below hb

set_option maxRecDepth 100000 in
set_option maxHeartbeats 16000000 in
theorem arrowsOf_any (v : Value) (ts : List Thr) (sp ep : Nat) (S E : List Str) (hl : ts.length ≤ 4000) (w : World) (hs : Hid (FdAt w sp S)) (he : Hid (FdAt w ep E)) (h0 : Hid (ThAt w v ts)) :
    Calls Try.prog 46 #[v, findV sp, findV ep] w fun e w' => ArrPostT (arrL S E [] ts) w e w' := by
  obtain ⟨a, c, rfl, h1⟩ := h0.out
  have H1 : Hid (ts = [] ∨ ∃ g, a = some ⟨g, 0, none⟩ ∧ g < w.heap.size ∧ ∀ j (x : Thr), ts[j]? = some x → ∀ i u, (thcells x)[i]? = some u → w.cell? ⟨g, j * 9 + i, none⟩ = some u) := h1
  clear h1
  obtain ⟨X, HX⟩ : ∃ X, Hid (arrL S E [] ts = X) := ⟨_, rfl⟩
  rw [HX.out]
  go_enter Try.func46, Try.ntmps46
  go_wp2_with fail
  go_loopw [7, 18] (fun sv i wr => ∃ (p : Nat) (l : List Arr), i = .int .i64 p ∧ p ≤ ts.length ∧ l.length ≤ p ∧ Hid (IncA l) ∧ Hid (X = arrL S E l (ts.drop p)) ∧ Hid (OwnA wr w.heap.size sv l) ∧ Hid (Below w.heap.size w wr)) (fun _ i _ => ts.length - (intOf i).toNat)
  case atStart => exact ⟨0, [], rfl, Nat.zero_le _, Nat.zero_le _, List.Pairwise.nil, (by show X = _; rw [← HX.out, List.drop_zero]), ownA_nil _ _, Below.refl _ _⟩
  case round =>
    obtain ⟨p, l, rfl, hp, hlp, HINC, HI, HO, HB⟩ := hrel
    obtain ⟨va, vc, hv, hvat, -, -, -⟩ := OwnA.at HO.out
    subst hv
    by_cases hlt : p < ts.length
    · obtain ⟨x, HTI⟩ : ∃ t, Hid (ts[p]? = some t) := ⟨_, List.getElem?_eq_getElem hlt⟩
      obtain ⟨t0, t1, t2⟩ := x
      have hpI : (p : Int) < (ts.length : Int) := by omega
      obtain ⟨g, rfl, hg, hc⟩ : ∃ g, a = some ⟨g, 0, none⟩ ∧ g < w.heap.size ∧ ∀ j (x : Thr), ts[j]? = some x → ∀ i u, (thcells x)[i]? = some u → w.cell? ⟨g, j * 9 + i, none⟩ = some u := by
        rcases H1.out with h | h
        · rw [h] at hlt; simp at hlt
        · exact h
      have x0 : wr.cell? ⟨g, p * 9, none⟩ = some (.int .i64 (tkK t0)) := (HB.out.cell (p := ⟨g, _, none⟩) hg).trans (hc p _ HTI.out 0 _ rfl)
      have x1 : wr.cell? ⟨g, p * 9 + 1, none⟩ = some (strV t0.text) := (HB.out.cell (p := ⟨g, _, none⟩) hg).trans (hc p _ HTI.out 1 _ rfl)
      have x2 : wr.cell? ⟨g, p * 9 + 2, none⟩ = some (.int .i64 (t0.pos : Int)) := (HB.out.cell (p := ⟨g, _, none⟩) hg).trans (hc p _ HTI.out 2 _ rfl)
      have x3 : wr.cell? ⟨g, p * 9 + 3, none⟩ = some (.int .i64 (tkK t1)) := (HB.out.cell (p := ⟨g, _, none⟩) hg).trans (hc p _ HTI.out 3 _ rfl)
      have x4 : wr.cell? ⟨g, p * 9 + 4, none⟩ = some (strV t1.text) := (HB.out.cell (p := ⟨g, _, none⟩) hg).trans (hc p _ HTI.out 4 _ rfl)
      have x5 : wr.cell? ⟨g, p * 9 + 5, none⟩ = some (.int .i64 (t1.pos : Int)) := (HB.out.cell (p := ⟨g, _, none⟩) hg).trans (hc p _ HTI.out 5 _ rfl)
      have x6 : wr.cell? ⟨g, p * 9 + 6, none⟩ = some (.int .i64 (tkK t2)) := (HB.out.cell (p := ⟨g, _, none⟩) hg).trans (hc p _ HTI.out 6 _ rfl)
      have x7 : wr.cell? ⟨g, p * 9 + 7, none⟩ = some (strV t2.text) := (HB.out.cell (p := ⟨g, _, none⟩) hg).trans (hc p _ HTI.out 7 _ rfl)
      have x8 : wr.cell? ⟨g, p * 9 + 8, none⟩ = some (.int .i64 (t2.pos : Int)) := (HB.out.cell (p := ⟨g, _, none⟩) hg).trans (hc p _ HTI.out 8 _ rfl)
      have HDR : Hid (ts.drop p = (t0, t1, t2) :: ts.drop (p + 1)) := by
        show _ = _
        obtain ⟨h1, h2⟩ := List.getElem?_eq_some_iff.1 HTI.out
        rw [List.drop_eq_getElem_cons h1, h2]
      have hal : Below wr.heap.size wr (wr.alloc (.cells #[.int .i64 (tkK t0), strV t0.text, .int .i64 (t0.pos : Int), .int .i64 (tkK t1), strV t1.text, .int .i64 (t1.pos : Int), .int .i64 (tkK t2), strV t2.text, .int .i64 (t2.pos : Int)] 103)) := (Below.refl _ _).alloc (Nat.le_refl _) _
      have KT : Hid (Blk (wr.alloc (.cells #[.int .i64 (tkK t0), strV t0.text, .int .i64 (t0.pos : Int), .int .i64 (tkK t1), strV t1.text, .int .i64 (t1.pos : Int), .int .i64 (tkK t2), strV t2.text, .int .i64 (t2.pos : Int)] 103)) wr.heap.size 103 #[.int .i64 (tkK t0), strV t0.text, .int .i64 (t0.pos : Int), .int .i64 (tkK t1), strV t1.text, .int .i64 (t1.pos : Int), .int .i64 (tkK t2), strV t2.text, .int .i64 (t2.pos : Int)]) := Blk.new wr _ _
      replace HO : Hid (OwnA (wr.alloc (.cells #[.int .i64 (tkK t0), strV t0.text, .int .i64 (t0.pos : Int), .int .i64 (tkK t1), strV t1.text, .int .i64 (t1.pos : Int), .int .i64 (tkK t2), strV t2.text, .int .i64 (t2.pos : Int)] 103)) w.heap.size (.slice va l.length vc) l) := World.ownsRow.alloc HO.out _
      replace HB := Hid.of (HB.out.trans (hal.mono HB.out.size))
      clear hal hvat hc
      go_wp2_with fail
      clear x0 x1 x2 x3 x4 x5 x6 x7 x8
      revert KT HO HB
      generalize (wr.alloc (.cells #[.int .i64 (tkK t0), strV t0.text, .int .i64 (t0.pos : Int), .int .i64 (tkK t1), strV t1.text, .int .i64 (t1.pos : Int), .int .i64 (tkK t2), strV t2.text, .int .i64 (t2.pos : Int)] 103)) = V
      generalize wr.heap.size = bx
      intro KT HO HB
      have y0 := KT.out.cell 0 rfl
      clear y0
      have y0 : V.cell? ⟨bx, 0, none⟩ = some (.int .i64 (tkK t0)) := KT.out.cell 0 rfl
      have y1 : V.cell? ⟨bx, 1, none⟩ = some (strV t0.text) := KT.out.cell 1 rfl
      have y2 : V.cell? ⟨bx, 2, none⟩ = some (.int .i64 (t0.pos : Int)) := KT.out.cell 2 rfl
      have y3 : V.cell? ⟨bx, 3, none⟩ = some (.int .i64 (tkK t1)) := KT.out.cell 3 rfl
      have y4 : V.cell? ⟨bx, 4, none⟩ = some (strV t1.text) := KT.out.cell 4 rfl
      have y5 : V.cell? ⟨bx, 5, none⟩ = some (.int .i64 (t1.pos : Int)) := KT.out.cell 5 rfl
      have y6 : V.cell? ⟨bx, 6, none⟩ = some (.int .i64 (tkK t2)) := KT.out.cell 6 rfl
      have y7 : V.cell? ⟨bx, 7, none⟩ = some (strV t2.text) := KT.out.cell 7 rfl
      have y8 : V.cell? ⟨bx, 8, none⟩ = some (.int .i64 (t2.pos : Int)) := KT.out.cell 8 rfl
      have SA : V.drew.cell? ⟨bx, 0, none⟩ = some (.int .i64 (tkK t0)) ∧ V.drew.cell? ⟨bx, 1, none⟩ = some (strV t0.text) ∧ V.drew.cell? ⟨bx, 2, none⟩ = some (.int .i64 (t0.pos : Int)) ∧ V.drew.cell? ⟨bx, 3, none⟩ = some (.int .i64 (tkK t1)) ∧ V.drew.cell? ⟨bx, 4, none⟩ = some (strV t1.text) ∧ V.drew.cell? ⟨bx, 5, none⟩ = some (.int .i64 (t1.pos : Int)) ∧ V.drew.cell? ⟨bx, 6, none⟩ = some (.int .i64 (tkK t2)) ∧ V.drew.cell? ⟨bx, 7, none⟩ = some (strV t2.text) ∧ V.drew.cell? ⟨bx, 8, none⟩ = some (.int .i64 (t2.pos : Int)) := ⟨y0, y1, y2, y3, y4, y5, y6, y7, y8⟩
      go_wp2_with fail
      refine wp_region_held_drew (S := fun w' => w'.cell? ⟨bx, 0, none⟩ = some (.int .i64 (tkK t0)) ∧ w'.cell? ⟨bx, 1, none⟩ = some (strV t0.text) ∧ w'.cell? ⟨bx, 2, none⟩ = some (.int .i64 (t0.pos : Int)) ∧ w'.cell? ⟨bx, 3, none⟩ = some (.int .i64 (tkK t1)) ∧ w'.cell? ⟨bx, 4, none⟩ = some (strV t1.text) ∧ w'.cell? ⟨bx, 5, none⟩ = some (.int .i64 (t1.pos : Int)) ∧ w'.cell? ⟨bx, 6, none⟩ = some (.int .i64 (tkK t2)) ∧ w'.cell? ⟨bx, 7, none⟩ = some (strV t2.text) ∧ w'.cell? ⟨bx, 8, none⟩ = some (.int .i64 (t2.pos : Int))) (by kernel_rfl) SA (fun hS => ?_)
      have QO : Hid (OwnA V.drew w.heap.size (.slice va l.length vc) l) := HO.out
      have QB : Hid (Below w.heap.size w V.drew) := HB.out.drew
      have QT : Hid (Blk V.drew bx 103 #[.int .i64 (tkK t0), strV t0.text, .int .i64 (t0.pos : Int), .int .i64 (tkK t1), strV t1.text, .int .i64 (t1.pos : Int), .int .i64 (tkK t2), strV t2.text, .int .i64 (t2.pos : Int)]) := KT.out
      clear y0 y1 y2 y3 y4 y5 y6 y7 y8 SA HO HB KT
      revert QO QB QT hS
      generalize V.drew = Y0
      intro hS QO QB QT
      refine wpAnyH_take (i := 0) (v := findV sp) rfl (by kernel_rfl) (by kernel_rfl) (by kernel_rfl) (fun _ _ _ h => h) (Or.inl ⟨by kernel_rfl, fun w' hw' => by obtain ⟨q0, q1, q2, q3, q4, q5, q6, q7, q8⟩ := hw'; go_simp⟩) hS ?_
      refine wpAnyH_take (i := 1) (v := .pointer (some ⟨bx, 0, none⟩)) rfl (by kernel_rfl) (by kernel_rfl) (by kernel_rfl) (fun _ _ _ h => h) (Or.inl ⟨by kernel_rfl, fun w' hw' => by obtain ⟨q0, q1, q2, q3, q4, q5, q6, q7, q8⟩ := hw'; go_simp⟩) hS ?_
      refine wpAnyH_take (i := 2) (v := tkV t0) rfl (by kernel_rfl) (by kernel_rfl) (by kernel_rfl) (fun _ _ _ h => h) (Or.inl ⟨by kernel_rfl, fun w' hw' => by obtain ⟨q0, q1, q2, q3, q4, q5, q6, q7, q8⟩ := hw'; go_simp⟩) hS ?_
      refine wpAnyH_take (i := 4) (v := findV ep) rfl (by kernel_rfl) (by kernel_rfl) (by kernel_rfl) (fun _ _ _ h => h) (Or.inl ⟨by kernel_rfl, fun w' hw' => by obtain ⟨q0, q1, q2, q3, q4, q5, q6, q7, q8⟩ := hw'; go_simp⟩) hS ?_
      refine wpAnyH_take (i := 5) (v := .pointer (some ⟨bx, 3, none⟩)) rfl (by kernel_rfl) (by kernel_rfl) (by kernel_rfl) (fun _ _ _ h => h) (Or.inl ⟨by kernel_rfl, fun w' hw' => by obtain ⟨q0, q1, q2, q3, q4, q5, q6, q7, q8⟩ := hw'; go_simp⟩) hS ?_
      refine wpAnyH_take (i := 6) (v := tkV t1) rfl (by kernel_rfl) (by kernel_rfl) (by kernel_rfl) (fun _ _ _ h => h) (Or.inl ⟨by kernel_rfl, fun w' hw' => by obtain ⟨q0, q1, q2, q3, q4, q5, q6, q7, q8⟩ := hw'; go_simp⟩) hS ?_
      refine wpAnyH_take (i := 8) (v := findV sp) rfl (by kernel_rfl) (by kernel_rfl) (by kernel_rfl) (fun _ _ _ h => h) (Or.inl ⟨by kernel_rfl, fun w' hw' => by obtain ⟨q0, q1, q2, q3, q4, q5, q6, q7, q8⟩ := hw'; go_simp⟩) hS ?_
      refine wpAnyH_take (i := 9) (v := .pointer (some ⟨bx, 6, none⟩)) rfl (by kernel_rfl) (by kernel_rfl) (by kernel_rfl) (fun _ _ _ h => h) (Or.inl ⟨by kernel_rfl, fun w' hw' => by obtain ⟨q0, q1, q2, q3, q4, q5, q6, q7, q8⟩ := hw'; go_simp⟩) hS ?_
      refine wpAnyH_take (i := 10) (v := tkV t2) rfl (by kernel_rfl) (by kernel_rfl) (by kernel_rfl) (fun _ _ _ h => h) (Or.inl ⟨by kernel_rfl, fun w' hw' => by obtain ⟨q0, q1, q2, q3, q4, q5, q6, q7, q8⟩ := hw'; go_simp⟩) hS ?_
      try simp only [Act.put, List.setIfInBounds_toArray, List.getElem_toArray, List.getElem_cons_succ, List.getElem_cons_zero, List.set_cons_zero, List.set_cons_succ]
      refine wpAnyH_ready (rs := [3]) (by kernel_rfl) (by simp) ?_
      refine AllReadyH.cons rfl (fun K' hK' => ?_) AllReadyH.nil
      clear hS
      go_simp
      refine (find1_any t0 sp S Y0 (fd_below hs.out QB.out)).mono ?_
      intro e Y1 hq
      obtain ⟨hb, hq⟩ := hq
      have SB : Y1.cell? ⟨bx, 0, none⟩ = some (.int .i64 (tkK t0)) ∧ Y1.cell? ⟨bx, 1, none⟩ = some (strV t0.text) ∧ Y1.cell? ⟨bx, 2, none⟩ = some (.int .i64 (t0.pos : Int)) ∧ Y1.cell? ⟨bx, 3, none⟩ = some (.int .i64 (tkK t1)) ∧ Y1.cell? ⟨bx, 4, none⟩ = some (strV t1.text) ∧ Y1.cell? ⟨bx, 5, none⟩ = some (.int .i64 (t1.pos : Int)) ∧ Y1.cell? ⟨bx, 6, none⟩ = some (.int .i64 (tkK t2)) ∧ Y1.cell? ⟨bx, 7, none⟩ = some (strV t2.text) ∧ Y1.cell? ⟨bx, 8, none⟩ = some (.int .i64 (t2.pos : Int)) := by
        have K := QT.out.below hb QT.out.lt
        exact ⟨K.cell 0 rfl, K.cell 1 rfl, K.cell 2 rfl, K.cell 3 rfl, K.cell 4 rfl, K.cell 5 rfl, K.cell 6 rfl, K.cell 7 rfl, K.cell 8 rfl⟩
      replace QO : Hid (OwnA Y1 w.heap.size (.slice va l.length vc) l) := own_same QO.out (fun k hk => hb.block k (World.ownsRow.lt QO.out k hk).2)
      replace QB := Hid.of (QB.out.trans (hb.mono QB.out.size))
      replace QT := Hid.of (QT.out.below hb QT.out.lt)
      clear hb
      cases hn : numLT S t0 with
      | error er =>
        rw [hn] at hq
        dsimp only at hq
        subst hq
        have HXE : Hid (X = .error er) := by
          show _ = _
          rw [HI.out, HDR.out, arrL]
          unfold arr1L
          dsimp only
          rw [hn]
          rfl
        clear hn SB
        go_wp2_with fail
        refine ⟨rfl, QB.out, ?_⟩
        rw [HXE.out]
      | ok na =>
        rw [hn] at hq
        dsimp only at hq
        subst hq
        have HNna := Hid.of hn
        clear hn
        refine hK'.out _ _ SB (fun hS => ?_)
        clear hK' K' SB
        try simp only [Act.put, List.setIfInBounds_toArray, List.getElem_toArray, List.getElem_cons_succ, List.getElem_cons_zero, List.set_cons_zero, List.set_cons_succ]
        refine wpAnyH_ready (rs := [7]) (by kernel_rfl) (by simp) ?_
        refine AllReadyH.cons rfl (fun K' hK' => ?_) AllReadyH.nil
        clear hS
        go_simp
        refine (find1_any t1 ep E Y1 (fd_below he.out QB.out)).mono ?_
        intro e Y2 hq
        obtain ⟨hb, hq⟩ := hq
        have SB : Y2.cell? ⟨bx, 0, none⟩ = some (.int .i64 (tkK t0)) ∧ Y2.cell? ⟨bx, 1, none⟩ = some (strV t0.text) ∧ Y2.cell? ⟨bx, 2, none⟩ = some (.int .i64 (t0.pos : Int)) ∧ Y2.cell? ⟨bx, 3, none⟩ = some (.int .i64 (tkK t1)) ∧ Y2.cell? ⟨bx, 4, none⟩ = some (strV t1.text) ∧ Y2.cell? ⟨bx, 5, none⟩ = some (.int .i64 (t1.pos : Int)) ∧ Y2.cell? ⟨bx, 6, none⟩ = some (.int .i64 (tkK t2)) ∧ Y2.cell? ⟨bx, 7, none⟩ = some (strV t2.text) ∧ Y2.cell? ⟨bx, 8, none⟩ = some (.int .i64 (t2.pos : Int)) := by
          have K := QT.out.below hb QT.out.lt
          exact ⟨K.cell 0 rfl, K.cell 1 rfl, K.cell 2 rfl, K.cell 3 rfl, K.cell 4 rfl, K.cell 5 rfl, K.cell 6 rfl, K.cell 7 rfl, K.cell 8 rfl⟩
        replace QO : Hid (OwnA Y2 w.heap.size (.slice va l.length vc) l) := own_same QO.out (fun k hk => hb.block k (World.ownsRow.lt QO.out k hk).2)
        replace QB := Hid.of (QB.out.trans (hb.mono QB.out.size))
        replace QT := Hid.of (QT.out.below hb QT.out.lt)
        clear hb
        cases hn : numLT E t1 with
        | error er =>
          rw [hn] at hq
          dsimp only at hq
          subst hq
          have HXE : Hid (X = .error er) := by
            show _ = _
            rw [HI.out, HDR.out, arrL]
            unfold arr1L
            dsimp only
            rw [HNna.out, show ∀ f : Nat → Except (Int × Nat) (List Arr), Except.bind (.ok na) f = f na from fun _ => rfl, hn]
            rfl
          clear hn SB
          go_wp2_with fail
          refine ⟨rfl, QB.out, ?_⟩
          rw [HXE.out]
        | ok nb =>
          rw [hn] at hq
          dsimp only at hq
          subst hq
          have HNnb := Hid.of hn
          clear hn
          refine hK'.out _ _ SB (fun hS => ?_)
          clear hK' K' SB
          try simp only [Act.put, List.setIfInBounds_toArray, List.getElem_toArray, List.getElem_cons_succ, List.getElem_cons_zero, List.set_cons_zero, List.set_cons_succ]
          refine wpAnyH_ready (rs := [11]) (by kernel_rfl) (by simp) ?_
          refine AllReadyH.cons rfl (fun K' hK' => ?_) AllReadyH.nil
          clear hS
          go_simp
          refine (find1_any t2 sp S Y2 (fd_below hs.out QB.out)).mono ?_
          intro e Y3 hq
          obtain ⟨hb, hq⟩ := hq
          have SB : Y3.cell? ⟨bx, 0, none⟩ = some (.int .i64 (tkK t0)) ∧ Y3.cell? ⟨bx, 1, none⟩ = some (strV t0.text) ∧ Y3.cell? ⟨bx, 2, none⟩ = some (.int .i64 (t0.pos : Int)) ∧ Y3.cell? ⟨bx, 3, none⟩ = some (.int .i64 (tkK t1)) ∧ Y3.cell? ⟨bx, 4, none⟩ = some (strV t1.text) ∧ Y3.cell? ⟨bx, 5, none⟩ = some (.int .i64 (t1.pos : Int)) ∧ Y3.cell? ⟨bx, 6, none⟩ = some (.int .i64 (tkK t2)) ∧ Y3.cell? ⟨bx, 7, none⟩ = some (strV t2.text) ∧ Y3.cell? ⟨bx, 8, none⟩ = some (.int .i64 (t2.pos : Int)) := by
            have K := QT.out.below hb QT.out.lt
            exact ⟨K.cell 0 rfl, K.cell 1 rfl, K.cell 2 rfl, K.cell 3 rfl, K.cell 4 rfl, K.cell 5 rfl, K.cell 6 rfl, K.cell 7 rfl, K.cell 8 rfl⟩
          replace QO : Hid (OwnA Y3 w.heap.size (.slice va l.length vc) l) := own_same QO.out (fun k hk => hb.block k (World.ownsRow.lt QO.out k hk).2)
          replace QB := Hid.of (QB.out.trans (hb.mono QB.out.size))
          replace QT := Hid.of (QT.out.below hb QT.out.lt)
          clear hb
          cases hn : numLT S t2 with
          | error er =>
            rw [hn] at hq
            dsimp only at hq
            subst hq
            have HXE : Hid (X = .error er) := by
              show _ = _
              rw [HI.out, HDR.out, arrL]
              unfold arr1L
              dsimp only
              rw [HNna.out, show ∀ f : Nat → Except (Int × Nat) (List Arr), Except.bind (.ok na) f = f na from fun _ => rfl, HNnb.out, show ∀ f : Nat → Except (Int × Nat) (List Arr), Except.bind (.ok nb) f = f nb from fun _ => rfl, hn]
              rfl
            clear hn SB
            go_wp2_with fail
            refine ⟨rfl, QB.out, ?_⟩
            rw [HXE.out]
          | ok nc =>
            rw [hn] at hq
            dsimp only at hq
            subst hq
            have HNnc := Hid.of hn
            clear hn
            refine hK'.out _ _ SB (fun hS => ?_)
            clear hK' K' SB
            refine wpAnyH_take (i := 12) (v := .int .i64 (na : Int)) rfl (by kernel_rfl) (by kernel_rfl) (by kernel_rfl) (fun _ _ _ h => h) (Or.inl ⟨by kernel_rfl, fun w' hw' => by obtain ⟨q0, q1, q2, q3, q4, q5, q6, q7, q8⟩ := hw'; go_simp⟩) hS ?_
            refine wpAnyH_take (i := 13) (v := .int .i64 (nb : Int)) rfl (by kernel_rfl) (by kernel_rfl) (by kernel_rfl) (fun _ _ _ h => h) (Or.inl ⟨by kernel_rfl, fun w' hw' => by obtain ⟨q0, q1, q2, q3, q4, q5, q6, q7, q8⟩ := hw'; go_simp⟩) hS ?_
            refine wpAnyH_take (i := 14) (v := .int .i64 (nc : Int)) rfl (by kernel_rfl) (by kernel_rfl) (by kernel_rfl) (fun _ _ _ h => h) (Or.inl ⟨by kernel_rfl, fun w' hw' => by obtain ⟨q0, q1, q2, q3, q4, q5, q6, q7, q8⟩ := hw'; go_simp⟩) hS ?_
            simp only [Act.put, List.setIfInBounds_toArray, List.getElem_toArray, List.getElem_cons_succ, List.getElem_cons_zero, List.set_cons_zero, List.set_cons_succ]
            clear hS
            refine wpAnyH_done (by kernel_rfl) ?_ _
            go_wp2_with fail
            have hal : Below Y3.heap.size Y3 (Y3.alloc (.cells #[.int .i64 (na : Int), .int .i64 (nb : Int), .int .i64 (nc : Int)] 60)) := (Below.refl _ _).alloc (Nat.le_refl _) _
            have KA : Hid (Blk (Y3.alloc (.cells #[.int .i64 (na : Int), .int .i64 (nb : Int), .int .i64 (nc : Int)] 60)) Y3.heap.size 60 #[.int .i64 (na : Int), .int .i64 (nb : Int), .int .i64 (nc : Int)]) := Blk.new Y3 _ _
            have HO : Hid (OwnA (Y3.alloc (.cells #[.int .i64 (na : Int), .int .i64 (nb : Int), .int .i64 (nc : Int)] 60)) w.heap.size (.slice va l.length vc) l) := World.ownsRow.alloc QO.out _
            have HB := Hid.of (QB.out.trans (hal.mono QB.out.size))
            have KT := Hid.of (QT.out.below hal QT.out.lt)
            obtain ⟨x, HXX⟩ : ∃ x : Arr, Hid (x = ⟨(na : Int), (nb : Int), (nc : Int)⟩) := ⟨_, rfl⟩
            have HAV : Hid (∀ V, BsfC V va vc l x) := fun V h => bsf_any va vc l x V h (by omega) HINC.out
            clear hal QO QB QT
            go_wp2_with fail
            revert KA HO HB KT
            generalize Y3.alloc (.cells #[.int .i64 (na : Int), .int .i64 (nb : Int), .int .i64 (nc : Int)] 60) = V5
            generalize Y3.heap.size = ba
            intro KA HO HB KT
            have z0 := KA.out.cell 0 rfl
            have z1 := KA.out.cell 1 rfl
            have z2 := KA.out.cell 2 rfl
            obtain ⟨va5, vc5, hv5, hat5, -, -, -⟩ := OwnA.at HO.out
            cases hv5
            have HAT := Hid.of hat5
            clear hat5
            go_wp2_with fail
            have HCALL : Hid (Calls Try.prog 75 #[.slice va l.length vc, .agg #[.int .i64 (na : Int), .int .i64 (nb : Int), .int .i64 (nc : Int)], .func (.func 76) #[] #[]] V5 fun e w' => ∃ (k : Nat) (f : Bool), e = .returned (.tuple #[.int .i64 k, .bool f]) ∧ BsIs l x k f ∧ Below V5.heap.size V5 w') := by
              have h := HAV.out V5 HAT.out
              have hx := HXX.out
              subst hx
              exact h
            clear HAV HAT z0 z1 z2
            refine HCALL.out.mono ?_
            rintro e W6 ⟨k, f, rfl, hbs, hb⟩
            clear HCALL
            have HBS := Hid.of hbs
            replace HB := Hid.of (HB.out.trans (hb.mono HB.out.size))
            replace HO : Hid (OwnA W6 w.heap.size (.slice va l.length vc) l) := own_same HO.out (fun k hk => hb.block k (World.ownsRow.lt HO.out k hk).2)
            replace KA := Hid.of (KA.out.below hb KA.out.lt)
            replace KT := Hid.of (KT.out.below hb KT.out.lt)
            have HHA : Hid (hasA l (na : Int) (nb : Int) (nc : Int) = f) := by
              have h := bs_hasA hbs HINC.out
              rw [HXX.out] at h
              exact h
            have HX1 : Hid (arr1L S E l (t0, t1, t2) = if f = true then .error (5, t0.pos) else .ok (insA x l)) := by
              show _ = _
              unfold arr1L
              dsimp only
              rw [HNna.out, show ∀ f : Nat → Except (Int × Nat) (List Arr), Except.bind (.ok na) f = f na from fun _ => rfl, HNnb.out, show ∀ f : Nat → Except (Int × Nat) (List Arr), Except.bind (.ok nb) f = f nb from fun _ => rfl, HNnc.out, show ∀ f : Nat → Except (Int × Nat) (List Arr), Except.bind (.ok nc) f = f nc from fun _ => rfl, HHA.out, HXX.out]
            have hkl := hbs.le
            clear hb hbs
            have z0 : W6.cell? ⟨ba, 0, none⟩ = some (.int .i64 (na : Int)) := KA.out.cell 0 rfl
            have z1 : W6.cell? ⟨ba, 1, none⟩ = some (.int .i64 (nb : Int)) := KA.out.cell 1 rfl
            have z2 : W6.cell? ⟨ba, 2, none⟩ = some (.int .i64 (nc : Int)) := KA.out.cell 2 rfl
            have y0 : W6.cell? ⟨bx, 0, none⟩ = some (.int .i64 (tkK t0)) := KT.out.cell 0 rfl
            have y1 : W6.cell? ⟨bx, 1, none⟩ = some (strV t0.text) := KT.out.cell 1 rfl
            have y2 : W6.cell? ⟨bx, 2, none⟩ = some (.int .i64 (t0.pos : Int)) := KT.out.cell 2 rfl
            cases f with
            | true =>
              have HXE : Hid (X = .error (5, t0.pos)) := by
                show _ = _
                rw [HI.out, HDR.out, arrL, HX1.out]; rfl
              clear HX1 HHA HBS
              go_wp2_with fail
              refine (giveUp_any 5 _ _).mono ?_
              rintro e W7 ⟨rfl, rfl⟩
              go_wp2_with fail
              refine ⟨rfl, HB.out, ?_⟩
              rw [HXE.out]
            | false =>
              have HI2 : Hid (X = arrL S E (insA x l) (ts.drop (p + 1))) := by
                show _ = _
                rw [HI.out, HDR.out, arrL, HX1.out]; rfl
              clear HX1 HHA KT KA y0 y1 y2
              go_wp2_with fail
              clear z0 z1 z2
              have hal : Below W6.heap.size W6 (W6.alloc (.cells #[.int .i64 (na : Int), .int .i64 (nb : Int), .int .i64 (nc : Int)] 60)) := (Below.refl _ _).alloc (Nat.le_refl _) _
              have KX : Hid (Blk (W6.alloc (.cells #[.int .i64 (na : Int), .int .i64 (nb : Int), .int .i64 (nc : Int)] 60)) W6.heap.size 60 [Value.int .i64 (na : Int), .int .i64 (nb : Int), .int .i64 (nc : Int)].toArray) := Blk.new W6 _ _
              have HNE : Hid (Value.ownBlock (.slice va l.length vc) ≠ some W6.heap.size) := fun e => by have := (World.ownsRow.lt HO.out _ e).2; omega
              replace HO : Hid (OwnA (W6.alloc (.cells #[.int .i64 (na : Int), .int .i64 (nb : Int), .int .i64 (nc : Int)] 60)) w.heap.size (.slice va l.length vc) l) := World.ownsRow.alloc HO.out _
              replace HB := Hid.of (HB.out.trans (hal.mono HB.out.size))
              clear hal
              revert KX HNE HO HB
              show Hid (Blk (W6.alloc (.cells #[.int .i64 (na : Int), .int .i64 (nb : Int), .int .i64 (nc : Int)] 60)) W6.heap.size 60 [Value.int .i64 (na : Int), .int .i64 (nb : Int), .int .i64 (nc : Int)].toArray) → _
              generalize W6.alloc (.cells #[.int .i64 (na : Int), .int .i64 (nb : Int), .int .i64 (nc : Int)] 60) = W7
              generalize W6.heap.size = bn
              intro KX HNE HO HB
              refine (insA_any W7 w.heap.size (.slice va l.length vc) (aflat l) [.int .i64 (na : Int), .int .i64 (nb : Int), .int .i64 (nc : Int)] l.length k bn HO.out HB.out.size rfl (by intro u hu; simp at hu; rcases hu with rfl | rfl | rfl <;> rfl) (aflat_cellT l) KX.out HNE.out (by omega) hkl).mono ?_
              rintro e W8 ⟨v8, rfl, o8, g8, n8⟩
              have HO8 : Hid (OwnA W8 w.heap.size v8 (insA x l)) := ownA_ins (by rw [HXX.out]; exact o8) HBS.out
              have HB8 : Hid (Below w.heap.size w W8) := HB.out.grown g8 HB.out.size (fun k hk => (World.ownsRow.lt HO.out k hk).1)
              have HINC8 := Hid.of (inc_insA x HINC.out)
              have hl8 : (insA x l).length ≤ p + 1 := by rw [bs_insA HBS.out]; simp; omega
              clear o8 g8 n8 HO HB KX HNE
              obtain ⟨va8, vc8, hv8, -, -, -, -⟩ := OwnA.at HO8.out
              subst hv8
              go_wp2_with fail
              go_roundw
              case rel => exact ⟨p + 1, insA x l, by go_num, by omega, hl8, HINC8, HI2, HO8, HB8⟩
              case measure => simp [intOf]; omega

    · have hpe : p = ts.length := by omega
      have HXE : Hid (X = .ok l) := by
        show _ = _
        rw [HI.out, hpe, List.drop_length]; rfl
      subst hpe
      clear hlt
      go_wp2_with fail
      refine bodyPost_ret (v := .slice va l.length vc) (by simp [results, go_sem]) rfl ⟨HB.out, ?_⟩
      rw [HXE.out]
      exact ⟨_, rfl, HO.out⟩

end Go.Proofs.Ytbgiliophmofgaa
namespace Go.Proofs.Ytbgiliophmofgaa
open Go.RowKit
set_option linter.unusedVariables false

/-- May a text be a name? -/
def nameB (t : Str) : Bool := match t with
  | [] => false
  | c :: w => letB c && w.all insB && decide (w.length + 1 ≤ 16)
theorem nameB_iff (t : Str) : nameB t = true ↔ wordOk t := by
  cases t with
  | nil =>
    refine ⟨fun h => ?_, fun ⟨c, w, h, _⟩ => ?_⟩
    · cases h
    · cases h
  | cons c w =>
    refine ⟨fun h => ?_, fun ⟨c', w', h, h1, h2, h3⟩ => ?_⟩
    · simp only [nameB, Bool.and_eq_true, decide_eq_true_eq, List.all_eq_true] at h
      exact ⟨c, w, rfl, h.1.1, h.1.2, h.2⟩
    · injection h with e1 e2
      subst e1; subst e2
      simp only [nameB, Bool.and_eq_true, decide_eq_true_eq, List.all_eq_true]
      exact ⟨⟨h1, h2⟩, h3⟩
/-- May texts be names, no two alike? -/
def namB (ns : List Str) : Bool := ns.all nameB && decide ns.Nodup
theorem namB_iff (ns : List Str) : namB ns = true ↔ (∀ x ∈ ns, wordOk x) ∧ ns.Nodup := by
  simp only [namB, Bool.and_eq_true, decide_eq_true_eq, List.all_eq_true]
  exact ⟨fun h => ⟨fun x hx => (nameB_iff x).1 (h.1 x hx), h.2⟩, fun h => ⟨fun x hx => (nameB_iff x).2 (h.1 x hx), h.2⟩⟩
theorem nam_bad {ns : List Str} {x : Str} (hx : x ∈ ns) (h : nameB x = false) : namB ns = false := by
  refine Bool.eq_false_iff.2 fun e => ?_
  have := (nameB_iff x).2 (((namB_iff ns).1 e).1 x hx)
  rw [h] at this; cases this
theorem nam_twice {ns : List Str} {k : Nat} {x : Str} (hk : ns[k]? = some x) (h : x ∈ ns.take k) : namB ns = false := by
  refine Bool.eq_false_iff.2 fun e => ?_
  have hn := ((namB_iff ns).1 e).2
  have hl := (List.getElem?_eq_some_iff.1 hk).1
  have hx := (List.getElem?_eq_some_iff.1 hk).2
  rw [← List.take_append_drop k ns, List.nodup_append] at hn
  refine hn.2.2 x h x ?_ rfl
  rw [List.drop_eq_getElem_cons hl, hx]
  exact List.mem_cons_self
end Go.Proofs.Ytbgiliophmofgaa
namespace Go.Proofs.Ytbgiliophmofgaa
open Go.RowKit
set_option linter.unusedVariables false

/-- A row of strings, with its capacity. -/
structure SlS (w : World) (a : Option Addr) (c : Nat) (xs : List Str) : Prop where
  at_ : AtS w a xs
  le : xs.length ≤ c
  max : c ≤ maxLen
  nil : a = none → c = 0
theorem SlS.below {w w' : World} {a : Option Addr} {c : Nat} {xs : List Str} {B : Nat} (h : SlS w a c xs) (hb : Below B w w') (hB : w.heap.size ≤ B) : SlS w' a c xs := ⟨h.at_.below hb hB, h.le, h.max, h.nil⟩
/-- Where a project's slices lie. -/
structure PJL where
  sa : Option Addr
  sc : Nat
  ea : Option Addr
  ec : Nat
  l : ML
  na : Option Addr
  nc : Nat
  fa : Option Addr
  fc : Nat
  ta : Option Addr
  tc : Nat
  ca : Option Addr
  cc : Nat
abbrev pjcells (p : Proj) (L : PJL) : Array Value := #[.slice L.sa p.states.length L.sc, .slice L.ea p.events.length L.ec, .int .i64 p.m.st, .int .i64 p.m.ev, .slice L.l.a1 p.m.starts.length L.l.c1, .slice L.l.a2 p.m.arrows.length L.l.c2, .slice L.l.a3 p.m.ends.length L.l.c3, .slice L.na p.seen.length L.nc, .slice L.fa p.free.length L.fc, .slice L.ta p.faults.length L.tc, .slice L.ca p.secret.length L.cc]
abbrev pjval (p : Proj) (L : PJL) : Value := .agg (pjcells p L)
structure PjAt (w : World) (p : Proj) (L : PJL) : Prop where
  s : SlS w L.sa L.sc p.states
  e : SlS w L.ea L.ec p.events
  m : MAt w p.m L.l
  n : Sl w L.na L.nc p.seen
  f : Sl w L.fa L.fc p.free
  t : Sl w L.ta L.tc p.faults
  c : Sl w L.ca L.cc p.secret
theorem PjAt.below {w w' : World} {p : Proj} {L : PJL} {B : Nat} (h : PjAt w p L) (hb : Below B w w') (hB : w.heap.size ≤ B) : PjAt w' p L :=
  ⟨h.s.below hb hB, h.e.below hb hB, h.m.below hb hB, h.n.below hb hB, h.f.below hb hB, h.t.below hb hB, h.c.below hb hB⟩
theorem pjcell_at {W : World} {b : Nat} {p : Proj} {L : PJL} (h : Blk W b 28 (pjcells p L)) : W.cell? ⟨b, 0, none⟩ = some (.slice L.sa p.states.length L.sc) ∧ W.cell? ⟨b, 1, none⟩ = some (.slice L.ea p.events.length L.ec) ∧ W.cell? ⟨b, 2, none⟩ = some (.int .i64 p.m.st) ∧ W.cell? ⟨b, 3, none⟩ = some (.int .i64 p.m.ev) ∧ W.cell? ⟨b, 4, none⟩ = some (.slice L.l.a1 p.m.starts.length L.l.c1) ∧ W.cell? ⟨b, 5, none⟩ = some (.slice L.l.a2 p.m.arrows.length L.l.c2) ∧ W.cell? ⟨b, 6, none⟩ = some (.slice L.l.a3 p.m.ends.length L.l.c3) ∧ W.cell? ⟨b, 7, none⟩ = some (.slice L.na p.seen.length L.nc) ∧ W.cell? ⟨b, 8, none⟩ = some (.slice L.fa p.free.length L.fc) ∧ W.cell? ⟨b, 9, none⟩ = some (.slice L.ta p.faults.length L.tc) ∧ W.cell? ⟨b, 10, none⟩ = some (.slice L.ca p.secret.length L.cc) :=
  ⟨h.cell 0 rfl, h.cell 1 rfl, h.cell 2 rfl, h.cell 3 rfl, h.cell 4 rfl, h.cell 5 rfl, h.cell 6 rfl, h.cell 7 rfl, h.cell 8 rfl, h.cell 9 rfl, h.cell 10 rfl⟩

theorem mcellJ_at {W : World} {b : Nat} {m : Mach} {l : ML} (h : Blk W b 26 (mcells m l)) : W.cell? ⟨b, 0, none⟩ = some (.int .i64 m.st) ∧ W.cell? ⟨b, 1, none⟩ = some (.int .i64 m.ev) ∧ W.cell? ⟨b, 2, none⟩ = some (.slice l.a1 m.starts.length l.c1) ∧ W.cell? ⟨b, 3, none⟩ = some (.slice l.a2 m.arrows.length l.c2) ∧ W.cell? ⟨b, 4, none⟩ = some (.slice l.a3 m.ends.length l.c3) :=
  ⟨h.cell 0 rfl, h.cell 1 rfl, h.cell 2 rfl, h.cell 3 rfl, h.cell 4 rfl⟩
/-- What May tells. -/
def mayTB (p : Proj) : Bool := (decide (1 ≤ p.states.length) && (decide (p.states.length ≤ 6) && decide (p.events.length ≤ 8))) && ((namB p.states && namB p.events) && ((mayB p.m && (decide (p.m.st = p.states.length) && decide (p.m.ev = p.events.length))) && (rowB p.m.ev p.seen && (rowB p.m.ev p.free && (rowB p.m.ev p.faults && rowB p.m.st p.secret)))))
theorem mayTB_iff (p : Proj) : mayTB p = true ↔ MayT p := by
  unfold mayTB
  simp only [Bool.and_eq_true, decide_eq_true_eq, namB_iff]
  constructor
  · rintro ⟨⟨h1, h2, h3⟩, ⟨⟨h4, h5⟩, h6, h7⟩, ⟨h8, h9, h10⟩, h11, h12, h13, h14⟩
    exact ⟨h1, h2, h3, h4, h6, h5, h7, h8, h9, h10, h11, h12, h13, h14⟩
  · intro h
    exact ⟨⟨h.s1, h.s6, h.e8⟩, ⟨⟨h.sw, h.sn⟩, h.ew, h.en⟩, ⟨h.m, h.ms, h.me⟩, h.seen, h.free, h.faults, h.secret⟩

end Go.Proofs.Ytbgiliophmofgaa
namespace Go.Proofs.Ytbgiliophmofgaa
open Go.ChangeShapes Go.WideShapes Go.ChangeAt Go.RowKit Go.Deep
set_option linter.unusedVariables false
set_option maxRecDepth 100000

section
variable {H : Type} {enc : TypeId × Value → H} {W : World}
theorem strV_of (S : ByteArray) : (.string S : Value) = strV S.data.toList := by
  cases S; rfl
theorem strs_of_trod {fuel : Nat} {cs : List Value} {x : DataW H × List MemPlace} (h : DataW.trod enc Try.prog W 0 (fun _ => true) true fuel 22 cs = some x) :
    ∃ a cap xs, cs = [.slice a (List.length (α := Str) xs) cap] ∧ SlS W a cap xs := by
  rcases open_strs Try.underlying22 Try.underlying9 (by kernel_rfl) h with ⟨rfl, _⟩ | ⟨⟨b, off, sp⟩, len, cap, m, Sx, rfl, _, hl, hm, hmm, hx, hc⟩
  · exact ⟨none, 0, [], rfl, .inl rfl, Nat.le_refl _, Nat.zero_le _, fun _ => rfl⟩
  · simp only [if_true] at hmm
    by_cases h0 : len = 0
    · subst h0
      exact ⟨_, cap, [], rfl, .inl rfl, Nat.zero_le _, hm, (fun h => by cases h)⟩
    · have hn : sp = none := by simpa [Addr.add] using World.cell?_spot (hc 0 (by omega)).1
      subst hn
      have hlen : ((List.range len).map fun i => (Sx i).data.toList).length = len := by simp
      refine ⟨_, cap, (List.range len).map fun i => (Sx i).data.toList, by rw [hlen], .inr ⟨b, off, rfl, ?_, fun j hj => ?_⟩, by rw [hlen]; omega, hm, (fun h => by cases h)⟩
      · exact World.block_lt_of_cell? W ⟨b, off, none⟩ (by simpa [Addr.add] using (hc 0 (by omega)).1)
      · rw [hlen] at hj
        have := (hc j (by omega)).1
        rw [show (⟨b, off, none⟩ : Addr).add j = ⟨b, off + j, none⟩ from by simp [Addr.add]] at this
        rw [this, strV_of]
        congr 2
        simp [hj]
theorem array11 {α : Type} {cs : Array α} (h : cs.size = 11) : ∃ c0 c1 c2 c3 c4 c5 c6 c7 c8 c9 c10, cs = #[c0, c1, c2, c3, c4, c5, c6, c7, c8, c9, c10] := by
  obtain ⟨l⟩ := cs
  match l, h with
  | [c0, c1, c2, c3, c4, c5, c6, c7, c8, c9, c10], _ => exact ⟨c0, c1, c2, c3, c4, c5, c6, c7, c8, c9, c10, rfl⟩
theorem proj_of_cells {fuel : Nat} {c0 c1 c2 c3 c4 c5 c6 c7 c8 c9 c10 : Value} {x : DataW H × List MemPlace} (h : DataW.trod enc Try.prog W 0 (fun _ => true) true fuel 28 [c0, c1, c2, c3, c4, c5, c6, c7, c8, c9, c10] = some x) : ∃ q L, (.agg #[c0, c1, c2, c3, c4, c5, c6, c7, c8, c9, c10] : Value) = pjval q L ∧ PjAt W q L := by
  obtain ⟨xs, n, _, _, _, hlen, hf⟩ := DataW.trod_struct Try.underlying28 h
  have hlen7 : xs.length = 7 := hlen
  match xs, hlen7 with
  | [y0, y1, y2, y3, y4, y5, y6], _ =>
    have i0 : Try.prog.cellsOf 22 = 1 := by kernel_rfl
    have i1 : Try.prog.cellsOf 26 = 5 := by kernel_rfl
    have i2 : Try.prog.cellsOf 23 = 1 := by kernel_rfl
    have h0 := hf 0 { name := "States", type := 22, offset := 0, embedded := false, tag := "", pkgPath := "", byteOffset := 0 } rfl
    have h1 := hf 1 { name := "Events", type := 22, offset := 1, embedded := false, tag := "", pkgPath := "", byteOffset := 24 } rfl
    have h2 := hf 2 { name := "Machine", type := 26, offset := 2, embedded := false, tag := "", pkgPath := "", byteOffset := 48 } rfl
    have h3 := hf 3 { name := "Seen", type := 23, offset := 7, embedded := false, tag := "", pkgPath := "", byteOffset := 136 } rfl
    have h4 := hf 4 { name := "Free", type := 23, offset := 8, embedded := false, tag := "", pkgPath := "", byteOffset := 160 } rfl
    have h5 := hf 5 { name := "Faults", type := 23, offset := 9, embedded := false, tag := "", pkgPath := "", byteOffset := 184 } rfl
    have h6 := hf 6 { name := "Secret", type := 23, offset := 10, embedded := false, tag := "", pkgPath := "", byteOffset := 208 } rfl
    dsimp only at h0 h1 h2 h3 h4 h5 h6
    simp only [i0, i1, i2, List.drop_succ_cons, List.drop_zero, List.take_succ_cons, List.take_zero, List.getElem?_cons_zero, List.getElem?_cons_succ] at h0 h1 h2 h3 h4 h5 h6
    obtain ⟨a0, k0, states, e0, s0⟩ := strs_of_trod h0
    obtain ⟨a1, k1, events, e1, s1⟩ := strs_of_trod h1
    obtain ⟨m, l, e2, hm⟩ := mach_of_cells h2
    obtain ⟨a3, k3, seen, e3, p1, p2, p3, p4, p5⟩ := ints_of_trod h3
    obtain ⟨a4, k4, free, e4, q1, q2, q3, q4, q5⟩ := ints_of_trod h4
    obtain ⟨a5, k5, faults, e5, r1, r2, r3, r4, r5⟩ := ints_of_trod h5
    obtain ⟨a6, k6, secret, e6, t1, t2, t3, t4, t5⟩ := ints_of_trod h6
    simp only [List.cons.injEq, and_true] at e0 e1 e3 e4 e5 e6
    subst e0 e1 e3 e4 e5 e6
    have e2' : #[c2, c3, c4, c5, c6] = mcells m l := by injection e2
    have e7 : [c2, c3, c4, c5, c6] = (mcells m l).toList := by rw [← e2']
    simp only [List.cons.injEq, and_true] at e7
    obtain ⟨u0, u1, u2, u3, u4⟩ := e7
    exact ⟨⟨states, events, m, seen, free, faults, secret⟩, ⟨a0, k0, a1, k1, l, a3, k3, a4, k4, a5, k5, a6, k6⟩, by rw [u0, u1, u2, u3, u4], s0, s1, hm, ⟨p3, p1, p2, p4⟩, ⟨q3, q1, q2, q4⟩, ⟨r3, r1, r2, r4⟩, ⟨t3, t1, t2, t4⟩⟩
/-- A PROJECT THAT CAME IN. -/
theorem open_proj {base : Nat} {v : Value} {d : DataW H} {p : List MemPlace} (hv : Value.okWide Try.prog W .any base 28 v) (h : DataW.Trod enc Try.prog W 0 (fun _ => true) true 28 v d p) : ∃ q L, v = pjval q L ∧ PjAt W q L := by
  obtain ⟨cs, rfl, hsz⟩ := okWide_struct Try.underlying28 hv
  obtain ⟨c0, c1, c2, c3, c4, c5, c6, c7, c8, c9, c10, rfl⟩ := array11 (hsz.trans (by kernel_rfl))
  obtain ⟨fuel, hf⟩ := h
  exact proj_of_cells (by simpa [Value.cells] using hf)
end

end Go.Proofs.Ytbgiliophmofgaa
namespace Go.Proofs.Ytbgiliophmofgaa
open Go.RowKit
set_option linter.unusedVariables false

theorem nm_whole {s : Str} (h0 : s ≠ []) (h1 : s.length ≤ 16) : nameB s = decide (nmP s = s) := by
  cases s with
  | nil => exact absurd rfl h0
  | cons c r =>
    show (letB c && r.all insB && decide (r.length + 1 ≤ 16)) = decide ((if letB c = true then c :: r.takeWhile insB else []) = c :: r)
    have this1 : r.length + 1 ≤ 16 := h1
    rw [decide_eq_true this1, Bool.and_true]
    cases hl : letB c with
    | false => simp
    | true =>
      rw [if_pos rfl, Bool.true_and]
      cases ha : r.all insB with
      | true =>
        have : r.takeWhile insB = r := by
          rw [List.all_eq_true] at ha
          clear h0 h1 hl this1
          induction r with
          | nil => rfl
          | cons x q ih => rw [List.takeWhile_cons, if_pos (ha x (by simp)), ih (fun y hy => ha y (by simp [hy]))]
        rw [this]; simp
      | false =>
        refine (decide_eq_false fun e => ?_).symm
        have e : r.takeWhile insB = r := by injection e
        have := List.all_takeWhile (p := insB) (l := r)
        rw [e, ha] at this; cases this
set_option maxRecDepth 100000 in
set_option maxHeartbeats 2000000 in
theorem isName_any (s : Str) (w : World) : Calls Try.prog 78 #[strV s] w fun e w' => e = .returned (.bool (nameB s)) ∧ w' = w := by
  have hsz : (⟨s.toArray⟩ : ByteArray).size = s.length := by simp [ByteArray.size]
  go_enter Try.func78, Try.ntmps78
  by_cases h0 : s = []
  · subst h0
    go_wp2
    go_ret
    exact ⟨rfl, rfl⟩
  · have b0 : List.isEmpty s = false := by cases s with | nil => exact absurd rfl h0 | cons c r => rfl
    by_cases h1 : s.length ≤ 16
    · have HN := Hid.of (nm_whole h0 h1)
      have h1I : (s.length : Int) ≤ 16 := by omega
      have d1 : decide ((s.length : Int) ≤ 16) = true := decide_eq_true h1I
      have HL := Hid.of h1
      clear h0 h1
      go_wp2_with fail
      refine (name_any s (by have := HL.out; unfold maxLen; omega) w).mono ?_
      rintro e w1 ⟨rfl, rfl⟩
      by_cases h2 : nmP s = s
      · have b2 : (nmP s == s) = true := beq_iff_eq.2 h2
        have HD : Hid (nameB s = true) := by show _ = _; rw [HN.out, decide_eq_true h2]
        clear h2
        go_wp2
        go_ret
        exact ⟨by rw [HD.out]; rfl, rfl⟩
      · have b2 : (nmP s == s) = false := beq_eq_false_iff_ne.2 h2
        have HD : Hid (nameB s = false) := by show _ = _; rw [HN.out, decide_eq_false h2]
        clear h2
        go_wp2
        go_ret
        exact ⟨by rw [HD.out]; rfl, rfl⟩
    · have HD : Hid (nameB s = false) := by
        refine Bool.eq_false_iff.2 fun e => ?_
        obtain ⟨c, r, rfl, -, -, h3⟩ := (nameB_iff s).1 e
        exact h1 h3
      have h1I : (16 : Int) < (s.length : Int) := by omega
      have d1 : decide ((s.length : Int) ≤ 16) = false := decide_eq_false (by omega)
      clear h0 h1
      go_wp2
      go_ret
      exact ⟨by rw [HD.out]; rfl, rfl⟩
set_option maxRecDepth 100000 in
set_option maxHeartbeats 4000000 in
theorem areNames_any (a : Option Addr) (cap : Nat) (xs : List Str) (many most : Int) (w : World) (hs : AtS w a xs) (hl : xs.length ≤ cap) (hm : cap ≤ maxLen) :
    Calls Try.prog 51 #[.slice a xs.length cap, .int .i64 many, .int .i64 most] w fun e w' => e = .returned (.bool (decide ((xs.length : Int) = many) && (decide (many ≤ most) && namB xs))) ∧ w' = w := by
  obtain ⟨B, HB⟩ : ∃ B, Hid ((decide ((xs.length : Int) = many) && (decide (many ≤ most) && namB xs)) = B) := ⟨_, rfl⟩
  rw [HB.out]
  unfold maxLen at hm
  go_enter Try.func51, Try.ntmps51
  by_cases h1 : (xs.length : Int) = many
  · by_cases h2 : many ≤ most
    · have HE : Hid (namB xs = B) := by
        show _ = _
        rw [← HB.out, decide_eq_true h1, decide_eq_true h2, Bool.true_and, Bool.true_and]
      have b1 : ((xs.length : Int) != many) = false := by simp [h1]
      have d2 : decide (most < many) = false := decide_eq_false (by omega)
      have n2 : ¬ most < many := by omega
      clear HB
      go_wp2
      go_loop [20] (fun iv => ∃ i : Nat, iv = .int .i64 i ∧ i ≤ xs.length ∧ Hid (namB (xs.take i) = true)) (fun iv => xs.length - (intOf iv).toNat)
      case atStart => exact ⟨0, rfl, Nat.zero_le _, Hid.of rfl⟩
      case round =>
        obtain ⟨i, rfl, hi, HT⟩ := hrel
        by_cases hlt : i < xs.length
        · obtain ⟨x, HX⟩ : ∃ x, Hid (xs[i]? = some x) := ⟨_, List.getElem?_eq_getElem hlt⟩
          obtain ⟨g, o, ha, hg, hc⟩ : ∃ g o, a = some ⟨g, o, none⟩ ∧ g < w.heap.size ∧ CellsS w g o xs := by
            rcases hs with rfl | ⟨g, o, h1, h2, h3⟩
            · simp at hlt
            · exact ⟨g, o, h1, h2, h3⟩
          subst ha
          have hcx := hc i hlt
          rw [HX.out, Option.getD_some] at hcx
          have hiI : (i : Int) < (xs.length : Int) := by omega
          have hic : (i : Int) ≤ (cap : Int) := by omega
          have htl : (xs.take i).length = i := by rw [List.length_take]; omega
          have HTL := Hid.of htl
          clear htl
          cases hn : nameB x with
          | false =>
            have HD : Hid (B = false) := by
              show _ = _
              rw [← HE.out]; exact nam_bad (List.mem_of_getElem? HX.out) hn
            have HN := Hid.of hn
            go_wp2_with fail
            refine (isName_any x w).mono ?_
            rintro e w1 ⟨rfl, rfl⟩
            rw [HN.out]
            go_wp2
            go_ret
            exact ⟨by rw [HD.out]; rfl, rfl⟩
          | true =>
            have HN := Hid.of hn
            clear hn
            have KC := Hid.of (containsS_any (some ⟨g, o, none⟩) cap (xs.take i) x w (.inr ⟨g, o, rfl, hg, fun j hj => by
              rw [HTL.out] at hj
              rw [List.getElem?_take, if_pos hj]; exact hc j (by omega)⟩) (by rw [HTL.out]; unfold maxLen; omega))
            rw [HTL.out] at KC
            go_wp2_with fail
            refine (isName_any x w).mono ?_
            rintro e w1 ⟨rfl, rfl⟩
            rw [HN.out]
            go_wp2_with fail
            refine KC.out.mono ?_
            rintro e w2 ⟨rfl, rfl⟩
            by_cases hm : x ∈ xs.take i
            · have HD : Hid (B = false) := by
                show _ = _
                rw [← HE.out]; exact nam_twice HX.out hm
              rw [decide_eq_true hm]
              go_wp2
              go_ret
              exact ⟨by rw [HD.out]; rfl, rfl⟩
            · have HM := Hid.of hm
              rw [decide_eq_false hm]
              clear hm
              go_wp2
              go_round
              case rel => exact ⟨i + 1, by go_num, by omega, Hid.of (by
                rw [namB_iff] 
                have h := (namB_iff _).1 HT.out
                rw [List.take_add_one, HX.out]
                refine ⟨fun y hy => ?_, ?_⟩
                · rcases List.mem_append.1 hy with hy | hy
                  · exact h.1 y hy
                  · have : y = x := by simpa using hy
                    rw [this]; exact (nameB_iff x).1 HN.out
                · refine List.nodup_append.2 ⟨h.2, by simp, fun y hy z hz e => ?_⟩
                  have hz : z = x := by simpa using hz
                  rw [e, hz] at hy; exact HM.out hy)⟩
              case measure => simp [intOf]; omega
        · have hie : i = xs.length := by omega
          have HD : Hid (B = true) := by
            show _ = _
            rw [← HE.out]
            have := HT.out
            rwa [hie, List.take_length] at this
          go_wp2
          go_ret
          exact ⟨by rw [HD.out]; rfl, rfl⟩
    · have HD : Hid (B = false) := by
        show _ = _
        rw [← HB.out, decide_eq_false h2, Bool.false_and, Bool.and_false]
      have b1 : ((xs.length : Int) != many) = false := by simp [h1]
      have d2 : decide (most < many) = true := decide_eq_true (by omega)
      have n2 : most < many := by omega
      clear h1 h2
      go_wp2
      go_ret
      exact ⟨by rw [HD.out]; rfl, rfl⟩
  · have HD : Hid (B = false) := by
      show _ = _
      rw [← HB.out, decide_eq_false h1, Bool.false_and]
    have b1 : ((xs.length : Int) != many) = true := by simp [h1]
    clear h1
    go_wp2
    go_ret
    exact ⟨by rw [HD.out]; rfl, rfl⟩

end Go.Proofs.Ytbgiliophmofgaa
namespace Go.Proofs.Ytbgiliophmofgaa
open Go.RowKit
set_option linter.unusedVariables false

def frm1 (p : Proj) : Bool := decide ((p.states.length : Int) = p.m.st) && (decide (p.m.st ≤ 6) && namB p.states)
def frm2 (p : Proj) : Bool := decide ((p.events.length : Int) = p.m.ev) && (decide (p.m.ev ≤ 8) && namB p.events)
theorem may_one {m : Mach} (h : mayB m = true) : 1 ≤ m.st := by
  unfold mayB at h
  simp only [Bool.and_eq_true, decide_eq_true_eq] at h
  omega
theorem frm_is (p : Proj) : mayTB p = (frm1 p && (frm2 p && (mayB p.m && (rowB p.m.ev p.seen && (rowB p.m.ev p.free && (rowB p.m.ev p.faults && rowB p.m.st p.secret)))))) := by
  rw [Bool.eq_iff_iff]
  unfold mayTB frm1 frm2
  simp only [Bool.and_eq_true, decide_eq_true_eq]
  constructor
  · rintro ⟨⟨h1, h2, h3⟩, ⟨h4, h5⟩, ⟨h8, h9, h10⟩, h11, h12, h13, h14⟩
    exact ⟨⟨by omega, by omega, h4⟩, ⟨by omega, by omega, h5⟩, h8, h11, h12, h13, h14⟩
  · rintro ⟨⟨h1, h2, h3⟩, ⟨h4, h5, h6⟩, h8, h11, h12, h13, h14⟩
    have := may_one h8
    exact ⟨⟨by omega, by omega, by omega⟩, ⟨h3, h6⟩, ⟨h8, by omega, by omega⟩, h11, h12, h13, h14⟩
set_option maxRecDepth 100000 in
set_option maxHeartbeats 4000000 in
theorem isForm_any (p : Proj) (L : PJL) (w : World) (h0 : PjAt w p L) :
    Calls Try.prog 30 #[pjval p L] w fun e w' => e = .returned (.bool (mayTB p)) ∧ Below w.heap.size w w' := by
  have B : Hid (Below w.heap.size w (w.alloc (.cells (pjcells p L) 28))) := (Below.refl _ _).alloc (Nat.le_refl _) _
  have K : Hid (Blk (w.alloc (.cells (pjcells p L) 28)) w.heap.size 28 (pjcells p L)) := Blk.new w _ _
  have H := Hid.of h0
  have HF := Hid.of (frm_is p)
  clear h0
  obtain ⟨x0, x1, x2, x3, x4, x5, x6, x7, x8, x9, x10⟩ := pjcell_at K.out
  go_enter Try.func30, Try.ntmps30
  go_wp2_with fail
  go_quiet (fail)
  clear x0 x1 x2 x3 x4 x5 x6 x7 x8 x9 x10
  replace B : Hid (Below w.heap.size w ((w.alloc (.cells (pjcells p L) 28)).drewN nq)) := below_drewN B.out nq
  replace K : Hid (Blk ((w.alloc (.cells (pjcells p L) 28)).drewN nq) w.heap.size 28 (pjcells p L)) := K.out
  revert B K
  generalize (w.alloc (.cells (pjcells p L) 28)).drewN nq = V
  intro B K
  obtain ⟨x0, x1, x2, x3, x4, x5, x6, x7, x8, x9, x10⟩ := pjcell_at K.out
  have hc := H.out.s
  have he := H.out.e
  have AS : Hid (AtS V L.sa p.states) := (H.out.below B.out (Nat.le_refl _)).s.at_
  have AE : Hid (AtS V L.ea p.events) := (H.out.below B.out (Nat.le_refl _)).e.at_
  have l1 := hc.le
  have l2 := hc.max
  have l3 := he.le
  have l4 := he.max
  go_wp2_with fail
  refine (areNames_any L.sa L.sc p.states p.m.st 6 V AS.out l1 l2).mono ?_
  rintro e w1 ⟨rfl, rfl⟩
  rw [show (decide ((p.states.length : Int) = p.m.st) && (decide (p.m.st ≤ 6) && namB p.states)) = frm1 p from rfl]
  cases h1 : frm1 p with
  | false =>
    have HD : Hid (mayTB p = false) := by show _ = _; rw [HF.out, h1]; rfl
    go_wp2
    go_ret
    exact ⟨by rw [HD.out]; rfl, B.out⟩
  | true =>
    have H1 := Hid.of h1
    clear h1
    go_wp2_with fail
    refine (areNames_any L.ea L.ec p.events p.m.ev 8 w1 AE.out l3 l4).mono ?_
    rintro e w2 ⟨rfl, rfl⟩
    rw [show (decide ((p.events.length : Int) = p.m.ev) && (decide (p.m.ev ≤ 8) && namB p.events)) = frm2 p from rfl]
    cases h2 : frm2 p with
    | false =>
      have HD : Hid (mayTB p = false) := by show _ = _; rw [HF.out, H1.out, h2]; rfl
      go_wp2
      go_ret
      exact ⟨by rw [HD.out]; rfl, B.out⟩
    | true =>
      have H2 := Hid.of h2
      clear h2
      go_wp2_with fail
      refine (pMay_any p.m L.l w2 (H.out.below B.out (Nat.le_refl _)).m).mono ?_
      rintro e w3 ⟨rfl, hb⟩
      replace B := Hid.of (B.out.trans (hb.mono B.out.size))
      replace K := Hid.of (K.out.below hb K.out.lt)
      clear hb x0 x1 x2 x3 x4 x5 x6 x7 x8 x9 x10 AS AE
      cases h3 : mayB p.m with
      | false =>
        have HD : Hid (mayTB p = false) := by show _ = _; rw [HF.out, H1.out, H2.out, h3]; rfl
        go_wp2
        go_ret
        exact ⟨by rw [HD.out]; rfl, B.out⟩
      | true =>
        have H3 := Hid.of h3
        clear h3
        obtain ⟨x0, x1, x2, x3, x4, x5, x6, x7, x8, x9, x10⟩ := pjcell_at K.out
        have P3 := Hid.of (H.out.below B.out (Nat.le_refl _))
        go_wp2_with fail
        refine (rowIs_any L.na L.nc p.seen p.m.ev w3 P3.out.n.at_ (Nat.le_trans P3.out.n.le P3.out.n.max)).mono ?_
        rintro e w4 ⟨rfl, rfl⟩
        cases h4 : rowB p.m.ev p.seen with
        | false =>
          have HD : Hid (mayTB p = false) := by show _ = _; rw [HF.out, H1.out, H2.out, H3.out, h4]; rfl
          go_wp2
          go_ret
          exact ⟨by rw [HD.out]; rfl, B.out⟩
        | true =>
          have H4 := Hid.of h4
          clear h4
          go_wp2_with fail
          refine (rowIs_any L.fa L.fc p.free p.m.ev w4 P3.out.f.at_ (Nat.le_trans P3.out.f.le P3.out.f.max)).mono ?_
          rintro e w5 ⟨rfl, rfl⟩
          cases h5 : rowB p.m.ev p.free with
          | false =>
            have HD : Hid (mayTB p = false) := by show _ = _; rw [HF.out, H1.out, H2.out, H3.out, H4.out, h5]; rfl
            go_wp2
            go_ret
            exact ⟨by rw [HD.out]; rfl, B.out⟩
          | true =>
            have H5 := Hid.of h5
            clear h5
            go_wp2_with fail
            refine (rowIs_any L.ta L.tc p.faults p.m.ev w5 P3.out.t.at_ (Nat.le_trans P3.out.t.le P3.out.t.max)).mono ?_
            rintro e w6 ⟨rfl, rfl⟩
            cases h6 : rowB p.m.ev p.faults with
            | false =>
              have HD : Hid (mayTB p = false) := by show _ = _; rw [HF.out, H1.out, H2.out, H3.out, H4.out, H5.out, h6]; rfl
              go_wp2
              go_ret
              exact ⟨by rw [HD.out]; rfl, B.out⟩
            | true =>
              have H6 := Hid.of h6
              clear h6
              have HD : Hid (mayTB p = rowB p.m.st p.secret) := by show _ = _; rw [HF.out, H1.out, H2.out, H3.out, H4.out, H5.out, H6.out]; rfl
              go_wp2_with fail
              refine (rowIs_any L.ca L.cc p.secret p.m.st w6 P3.out.c.at_ (Nat.le_trans P3.out.c.le P3.out.c.max)).mono ?_
              rintro e w7 ⟨rfl, rfl⟩
              go_wp2
              go_ret
              exact ⟨by rw [HD.out]; rfl, B.out⟩

end Go.Proofs.Ytbgiliophmofgaa
namespace Go.Proofs.Ytbgiliophmofgaa
open Go.RowKit
set_option linter.unusedVariables false

theorem ownS_snoc {w wr w1 : World} {B : Nat} {v v' : Value} {L : List Str} {M : List Str} {o : Obj} (hown : OwnSr wr B v L) (hb : Below B w wr) (hB : B ≤ wr.heap.size) (ho : w1.ownsRow B 9 1 v' (L.length + M.length) (L.map strV ++ M.map strV)) (hgrow : (wr.alloc o).grownBy w1 v.ownBlock) : OwnSr w1 B v' (L ++ M) ∧ Below B w w1 := by
  refine ⟨?_, (hb.alloc hB o).grown hgrow (by simp; omega) (fun j hj => (World.ownsRow.lt hown j hj).1)⟩
  show World.ownsRow _ _ _ _ _ _ _
  rw [List.length_append, List.map_append]; exact ho
set_option maxRecDepth 100000 in
set_option maxHeartbeats 4000000 in
theorem pick_any (a b : Option Addr) (cap c : Nat) (xs : List Str) (l : List Int) (w : World) (hs : AtS w a xs) (hl : xs.length ≤ maxLen) (ha : At w b l) (hl2 : l.length ≤ 4096) (hin : ∀ n ∈ l, 0 ≤ n ∧ n < (xs.length : Int)) :
    Calls Try.prog 54 #[.slice a xs.length cap, .slice b l.length c] w fun e w' => ∃ v, e = .returned v ∧ OwnSr w' w.heap.size v (l.map (nameAt xs)) ∧ Below w.heap.size w w' := by
  obtain ⟨i0, hi, hz0, hz1, hz2⟩ := info_parts Try.infoStr
  have HIN := Hid.of hin
  have HXS := Hid.of hs
  have HLA := Hid.of ha
  unfold maxLen at hl
  clear hin hs ha
  go_enter Try.func54, Try.ntmps54
  go_wp2
  go_loopw [5, 10] (fun v iv wr => ∃ k : Nat, iv = .int .i64 k ∧ k ≤ l.length ∧ Hid (OwnSr wr w.heap.size v ((l.take k).map (nameAt xs))) ∧ Hid (Below w.heap.size w wr)) (fun _ iv _ => l.length - (intOf iv).toNat)
  case atStart => exact ⟨0, rfl, Nat.zero_le _, Hid.of (World.ownsRow_nil _ _ _ _), Hid.of (Below.refl _ _)⟩
  case round =>
    obtain ⟨k, rfl, hk, HO, HB⟩ := hrel
    have hwz := HB.out.size
    have hkl : ((l.take k).map (nameAt xs)).length = k := by rw [List.length_map, List.length_take]; omega
    obtain ⟨fa, fc, hfa, -, -, -⟩ := own_form2 HO.out
    rw [hkl] at hfa
    subst hfa
    obtain ⟨T, HT⟩ : ∃ T, Hid ((l.take k).map (nameAt xs) = T) := ⟨_, rfl⟩
    rw [HT.out] at HO hkl
    have HKL := Hid.of hkl
    clear hkl
    by_cases hlt : k < l.length
    · obtain ⟨n, HN⟩ : ∃ n : Nat, Hid (l[k]? = some (n : Int) ∧ n < xs.length) := by
        have h1 := List.getElem?_eq_getElem hlt
        have h2 := HIN.out _ (List.mem_of_getElem? h1)
        refine ⟨(l[k]).toNat, ?_, by omega⟩
        rw [h1, Int.toNat_of_nonneg h2.1]
      have hn := HN.out.2
      obtain ⟨g1, o1, hb1, -, hcl⟩ : ∃ g o, b = some ⟨g, o, none⟩ ∧ g < wr.heap.size ∧ Cells wr g o l := by
        rcases HLA.out.below HB.out (Nat.le_refl _) with rfl | ⟨g, o, h1, h2, h3⟩
        · simp at hlt
        · exact ⟨g, o, h1, h2, h3⟩
      subst hb1
      obtain ⟨g2, o2, hb2, -, hcx⟩ : ∃ g o, a = some ⟨g, o, none⟩ ∧ g < wr.heap.size ∧ CellsS wr g o xs := by
        rcases HXS.out.below HB.out (Nat.le_refl _) with rfl | ⟨g, o, h1, h2, h3⟩
        · simp at hn
        · exact ⟨g, o, h1, h2, h3⟩
      subst hb2
      have y0 := hcl k hlt
      rw [List.getD_eq_getElem?_getD, HN.out.1, Option.getD_some] at y0
      have y1 := hcx n hn
      have hnI : (n : Int) < (xs.length : Int) := by omega
      have hkI : (k : Int) < (l.length : Int) := by omega
      obtain ⟨x, HX⟩ : ∃ x, Hid (xs[n]?.getD [] = x) := ⟨_, rfl⟩
      rw [HX.out] at y1
      have HOK : Hid (wr.ownsRow w.heap.size 9 1 (.slice fa k fc) k (T.map strV)) := by
        have := HO.out
        unfold OwnSr at this
        rw [HKL.out] at this; exact this
      clear hcl hcx
      go_wp2_with (at_builtin; refine wpList_append_block _ rfl (.tmp 14) (.tmp 19) 22 rfl w.heap.size 9 i0 (.string ⟨#[]⟩) 1 16 Try.underlying22 hi hz0 hz1 hz2 rfl (by decide) _ _ _ rfl (World.ownsRow.alloc HOK.out _) ⟨wr.heap.size, 0, none⟩ 1 1 [strV x] rfl rfl (cell_one_new _ _ _) (by intro u hu; simp at hu; subst hu; rfl) (by decide) (by unfold maxLen; omega) (by omega) (by simp; omega) ?_)
      intro v7 w7 o7 g7 n7
      obtain ⟨q1, q2⟩ := ownS_snoc (M := [x]) HO.out HB.out hwz (by rw [HKL.out]; exact o7) g7
      have Q1 : Hid (OwnSr w7 w.heap.size v7 ((l.take (k + 1)).map (nameAt xs))) := by
        show OwnSr _ _ _ _
        rw [List.take_add_one, HN.out.1, List.map_append, HT.out, show ((some (n : Int)).toList.map (nameAt xs)) = [x] from congrArg (fun z => [z]) HX.out]
        exact q1
      have Q2 := Hid.of q2
      obtain ⟨qa, qc, hv7, -, -, -⟩ := own_form2 o7
      clear q1 q2 o7 g7 n7
      subst hv7
      go_wp2_with fail
      go_roundw
      case rel => exact ⟨k + 1, by go_num, by omega, Q1, Q2⟩
      case measure => simp [intOf]; omega
    · have hke : k = l.length := by omega
      have Q1 : Hid (OwnSr wr w.heap.size (.slice fa k fc) (l.map (nameAt xs))) := by
        have := HO.out
        rw [show l.map (nameAt xs) = T by rw [← HT.out, hke, List.take_length]]; exact this
      go_wp2
      go_ret
      exact ⟨_, rfl, Q1.out, HB.out⟩

end Go.Proofs.Ytbgiliophmofgaa
