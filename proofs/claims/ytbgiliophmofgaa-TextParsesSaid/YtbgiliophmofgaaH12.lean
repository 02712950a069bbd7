/-
  The walk of text.rowOf.
  The walk of text.arrowsOf.
-/
import Derived.Test.YtbgiliophmofgaaH11
import Derived.Test.YtbgiliophmofgaaH03
import Derived.Deep.RegionHeld3
import Derived.Test.YtbgiliophmofgaaH05
namespace Go.Proofs.Ytbgiliophmofgaa
open Go.RowKit
set_option linter.unusedVariables false

theorem ins_count (x : Int) : ∀ L : List Int, Inc L → x ∉ L → ins x L = L.take (L.countP (· < x)) ++ x :: L.drop (L.countP (· < x))
  | [], _, _ => rfl
  | y :: r, h, hx => by
    obtain ⟨h1, h2⟩ := List.pairwise_cons.1 h
    have hxr : x ∉ r := fun e => hx (by simp [e])
    have hyx : y ≠ x := fun e => hx (by simp [e])
    unfold ins
    by_cases hc : y < x
    · rw [if_pos hc, List.countP_cons_of_pos (by simpa using hc), List.take_succ_cons, List.drop_succ_cons, List.cons_append, ← ins_count x r h2 hxr]
    · have h0 : r.countP (· < x) = 0 := by
        rw [List.countP_eq_zero]
        intro z hz
        have := h1 z hz
        simp; omega
      rw [if_neg hc, if_neg hyx, List.countP_cons_of_neg (by simpa using hc), h0]
      rfl
theorem count_le (x : Int) (L : List Int) : L.countP (· < x) ≤ L.length := List.countP_le_length
theorem searchR_any (a : Option Addr) (c : Nat) (xs : List Int) (x : Int) (w : World) (h : At w a xs) (hl : xs.length ≤ 17592186044416) (hs : Inc xs) :
    Calls Try.prog 73 #[.slice a xs.length c, .int .i64 x] w fun e w' => e = .returned (.tuple #[.int .i64 (xs.countP (· < x) : Nat), .bool (decide (x ∈ xs))]) ∧ ∃ q, w' = w.drewN q := by
  rcases h with rfl | ⟨b, off, rfl, hb, hc⟩
  · refine (Any.slices_BinarySearch_int_empty Try.searchA a c x w).mono ?_
    rintro e w' ⟨rfl, rfl⟩
    exact ⟨rfl, 0, rfl⟩
  · refine (Any.slices_BinarySearch_int Try.searchA b off xs.length c xs x w (Nat.le_refl _) (by omega) hc (by rw [List.take_of_length_le (Nat.le_refl _)]; exact hs.imp (fun h => by omega))).mono ?_
    rintro e w' ⟨rfl, q, rfl⟩
    rw [List.take_of_length_le (Nat.le_refl _)]
    exact ⟨by simp, q, rfl⟩
theorem own_insI {W : World} {B : Nat} {v : Value} {xs : List Int} {x : Int} (h : W.ownsRow B 3 1 v (xs.length + 1) (insAt 1 (xs.countP (· < x)) [.int .i64 x] (xs.map (Value.int .i64)))) (hi : Inc xs) (hx : x ∉ xs) : Own W B v (ins x xs) := by
  have e : (ins x xs).map (Value.int .i64) = insAt 1 (xs.countP (· < x)) [.int .i64 x] (xs.map (Value.int .i64)) := by
    rw [ins_count x xs hi hx]
    unfold insAt
    rw [Nat.mul_one, List.map_append, List.map_cons, List.map_take, List.map_drop]
    simp
  have hl : (ins x xs).length = xs.length + 1 := by
    have := count_le x xs
    rw [ins_count x xs hi hx]; simp; omega
  unfold Own
  rw [e, hl]
  exact h
/-- What rowOf leaves. -/
def RowPostT (x : Except (Int × Nat) (List Int)) (w : World) (e : Ending) (w' : World) : Prop := Below w.heap.size w w' ∧ match x with
  | .error er => e = Pn er.1 (er.2 : Int)
  | .ok l => ∃ v, e = .returned v ∧ Own w' w.heap.size v l

set_option maxRecDepth 100000 in
set_option maxHeartbeats 8000000 in
theorem rowOf_any (v : Value) (ns : List Tok) (fp : Nat) (S : List Str) (hl : ns.length ≤ 4000) (w : World) (hf : Hid (FdAt w fp S)) (h0 : Hid (TkAt w v ns)) :
    Calls Try.prog 45 #[v, findV fp] w fun e w' => RowPostT (rowL S [] ns) w e w' := by
  obtain ⟨a, c, rfl, h1⟩ := h0.out
  have H1 : Hid (ns = [] ∨ ∃ g o, a = some ⟨g, o, none⟩ ∧ g < w.heap.size ∧ ∀ j t, ns[j]? = some t → w.cell? ⟨g, o + j * 3, none⟩ = some (.int .i64 (tkK t)) ∧ w.cell? ⟨g, o + j * 3 + 1, none⟩ = some (strV t.text) ∧ w.cell? ⟨g, o + j * 3 + 2, none⟩ = some (.int .i64 (t.pos : Int))) := h1
  clear h1
  obtain ⟨X, HX⟩ : ∃ X, Hid (rowL S [] ns = X) := ⟨_, rfl⟩
  rw [HX.out]
  go_enter Try.func45, Try.ntmps45
  go_wp2_with fail
  go_loopw [5, 13] (fun sv i wr => ∃ (p : Nat) (l : List Int), i = .int .i64 p ∧ p ≤ ns.length ∧ l.length ≤ p ∧ Hid (Inc l) ∧ Hid (X = rowL S l (ns.drop p)) ∧ Hid (Own wr w.heap.size sv l) ∧ Hid (Below w.heap.size w wr)) (fun _ i _ => ns.length - (intOf i).toNat)
  case atStart => exact ⟨0, [], rfl, Nat.zero_le _, Nat.zero_le _, List.Pairwise.nil, (by show X = _; rw [← HX.out, List.drop_zero]), own_nil _ _, Below.refl _ _⟩
  case round =>
    obtain ⟨p, l, rfl, hp, hlp, HINC, HI, HO, HB⟩ := hrel
    obtain ⟨va, vc, hv, hvat, -⟩ := Own.at HO.out
    subst hv
    by_cases hlt : p < ns.length
    · obtain ⟨t, HTI⟩ : ∃ t, Hid (ns[p]? = some t) := ⟨_, List.getElem?_eq_getElem hlt⟩
      have hpI : (p : Int) < (ns.length : Int) := by omega
      obtain ⟨g, o, rfl, hg, hc⟩ : ∃ g o, a = some ⟨g, o, none⟩ ∧ g < w.heap.size ∧ ∀ j t, ns[j]? = some t → w.cell? ⟨g, o + j * 3, none⟩ = some (.int .i64 (tkK t)) ∧ w.cell? ⟨g, o + j * 3 + 1, none⟩ = some (strV t.text) ∧ w.cell? ⟨g, o + j * 3 + 2, none⟩ = some (.int .i64 (t.pos : Int)) := by
        rcases H1.out with h | h
        · rw [h] at hlt; simp at hlt
        · exact h
      obtain ⟨x0, x1, x2⟩ := hc p t HTI.out
      replace x0 := (HB.out.cell (p := ⟨g, _, none⟩) hg).trans x0
      replace x1 := (HB.out.cell (p := ⟨g, _, none⟩) hg).trans x1
      replace x2 := (HB.out.cell (p := ⟨g, _, none⟩) hg).trans x2
      have HDR : Hid (ns.drop p = t :: ns.drop (p + 1)) := by
        show _ = _
        obtain ⟨h1, h2⟩ := List.getElem?_eq_some_iff.1 HTI.out
        rw [List.drop_eq_getElem_cons h1, h2]
      have hal : Below wr.heap.size wr (wr.alloc (.cells #[.int .i64 (tkK t), strV t.text, .int .i64 (t.pos : Int)] 56)) := (Below.refl _ _).alloc (Nat.le_refl _) _
      have KT : Hid (Blk (wr.alloc (.cells #[.int .i64 (tkK t), strV t.text, .int .i64 (t.pos : Int)] 56)) wr.heap.size 56 #[.int .i64 (tkK t), strV t.text, .int .i64 (t.pos : Int)]) := Blk.new wr _ _
      replace HO : Hid (Own (wr.alloc (.cells #[.int .i64 (tkK t), strV t.text, .int .i64 (t.pos : Int)] 56)) w.heap.size (.slice va l.length vc) l) := World.ownsRow.alloc HO.out _
      replace HB := Hid.of (HB.out.trans (hal.mono HB.out.size))
      clear hal hvat hc
      go_wp2_with fail
      clear x0 x1 x2
      revert KT HO HB
      generalize wr.alloc (.cells #[.int .i64 (tkK t), strV t.text, .int .i64 (t.pos : Int)] 56) = V
      generalize wr.heap.size = bt
      intro KT HO HB
      have y0 := KT.out.cell 0 rfl
      have y1 := KT.out.cell 1 rfl
      have y2 := KT.out.cell 2 rfl
      have HF : Hid (FdAt V fp S) := by
        obtain ⟨a3, c3, h1, h2⟩ := hf.out.e
        exact ⟨⟨a3, c3, h1.below HB.out h1.lt, h2.below HB.out (Nat.le_refl _)⟩, hf.out.l⟩
      go_wp2_with fail
      refine (find1_any t fp S V HF).mono ?_
      intro e W3 hq
      obtain ⟨hb3, hq⟩ := hq
      replace HB := Hid.of (HB.out.trans (hb3.mono HB.out.size))
      replace HO : Hid (Own W3 w.heap.size (.slice va l.length vc) l) := own_same HO.out (fun k hk => hb3.block k (World.ownsRow.lt HO.out k hk).2)
      replace KT := Hid.of (KT.out.below hb3 KT.out.lt)
      clear y0 y1 y2 hb3 HF
      cases hn : numLT S t with
      | error er =>
        rw [hn] at hq
        dsimp only at hq
        subst hq
        have HXE : Hid (X = .error er) := by
          show _ = _
          rw [HI.out, HDR.out, rowL]
          unfold numLT at hn
          cases hz : plcS S t.text with
          | none => rw [hz] at hn; cases hn; rfl
          | some k => rw [hz] at hn; cases hn
        clear hn
        go_wp2_with fail
        refine ⟨rfl, HB.out, ?_⟩
        rw [HXE.out]
      | ok k =>
        rw [hn] at hq
        dsimp only at hq
        subst hq
        have HP : Hid (plcS S t.text = some k) := by
          show _ = _
          unfold numLT at hn
          cases hz : plcS S t.text with
          | none => rw [hz] at hn; cases hn
          | some k' => rw [hz] at hn; cases hn; rfl
        clear hn
        obtain ⟨va3, vc3, hv3, hat3, -⟩ := Own.at HO.out
        cases hv3
        have HAT := Hid.of hat3
        clear hat3
        go_wp2_with fail
        refine (searchR_any va vc l (k : Int) W3 HAT.out (by omega) HINC.out).mono ?_
        rintro e W4 ⟨rfl, q, rfl⟩
        replace HB := Hid.of (below_drewN HB.out q)
        replace HO : Hid (Own (W3.drewN q) w.heap.size (.slice va l.length vc) l) := HO.out
        replace KT : Hid (Blk (W3.drewN q) bt 56 #[.int .i64 (tkK t), strV t.text, .int .i64 (t.pos : Int)]) := KT.out
        clear HAT
        revert HB HO KT
        generalize W3.drewN q = W5
        intro HB HO KT
        have y0 := KT.out.cell 0 rfl
        have y1 := KT.out.cell 1 rfl
        have y2 := KT.out.cell 2 rfl
        obtain ⟨cn, HCN⟩ : ∃ cn : Nat, Hid (cn = l.countP (· < (k : Int))) := ⟨_, rfl⟩
        rw [← HCN.out]
        have hcl : cn ≤ l.length := by rw [HCN.out]; exact count_le _ _
        by_cases hin : (k : Int) ∈ l
        · have HD := Hid.of (decide_eq_true hin)
          have HXE : Hid (X = .error (5, t.pos)) := by
            show _ = _
            rw [HI.out, HDR.out, rowL, HP.out]
            exact if_pos hin
          rw [HD.out]
          clear hin
          go_wp2_with fail
          refine (giveUp_any 5 _ _).mono ?_
          rintro e W6 ⟨rfl, rfl⟩
          go_wp2_with fail
          refine ⟨rfl, HB.out, ?_⟩
          rw [HXE.out]
        · have HD := Hid.of (decide_eq_false hin)
          have HIN := Hid.of hin
          have HI2 : Hid (X = rowL S (ins (k : Int) l) (ns.drop (p + 1))) := by
            show _ = _
            rw [HI.out, HDR.out, rowL, HP.out]
            exact if_neg hin
          rw [HD.out]
          clear hin y0 y1 y2 KT
          go_wp2_with fail
          have hal : Below W5.heap.size W5 (W5.alloc (.cells #[.int .i64 (k : Int)] 3)) := (Below.refl _ _).alloc (Nat.le_refl _) _
          have KX : Hid (Blk (W5.alloc (.cells #[.int .i64 (k : Int)] 3)) W5.heap.size 3 [Value.int .i64 (k : Int)].toArray) := Blk.new W5 _ _
          have HNE : Hid (Value.ownBlock (.slice va l.length vc) ≠ some W5.heap.size) := fun e => by have := (World.ownsRow.lt HO.out _ e).2; omega
          replace HO : Hid (Own (W5.alloc (.cells #[.int .i64 (k : Int)] 3)) w.heap.size (.slice va l.length vc) l) := World.ownsRow.alloc HO.out _
          replace HB := Hid.of (HB.out.trans (hal.mono HB.out.size))
          clear hal
          revert KX HNE HO HB
          show Hid (Blk (W5.alloc (.cells #[.int .i64 (k : Int)] 3)) W5.heap.size 3 [Value.int .i64 (k : Int)].toArray) → _
          generalize W5.alloc (.cells #[.int .i64 (k : Int)] 3) = W7
          generalize W5.heap.size = bx
          intro KX HNE HO HB
          refine (insI_any W7 w.heap.size (.slice va l.length vc) (l.map (Value.int .i64)) [.int .i64 (k : Int)] l.length cn bx HO.out HB.out.size rfl (by intro u hu; simp at hu; subst hu; rfl) (by intro u hu; obtain ⟨z, -, rfl⟩ := List.mem_map.1 hu; rfl) KX.out HNE.out (by omega) hcl).mono ?_
          rintro e W8 ⟨v8, rfl, o8, g8, n8⟩
          have HO8 : Hid (Own W8 w.heap.size v8 (ins (k : Int) l)) := own_insI (by rw [← HCN.out]; exact o8) HINC.out HIN.out
          have HB8 : Hid (Below w.heap.size w W8) := HB.out.grown g8 HB.out.size (fun k hk => (World.ownsRow.lt HO.out k hk).1)
          have HINC8 := Hid.of (inc_ins (k : Int) l HINC.out)
          have hl8 : (ins (k : Int) l).length ≤ p + 1 := by have := ins_len (k : Int) l; omega
          clear o8 g8 n8 HO HB KX HNE
          obtain ⟨va8, vc8, hv8, -, -⟩ := Own.at HO8.out
          subst hv8
          go_wp2_with fail
          go_roundw
          case rel => exact ⟨p + 1, ins (k : Int) l, by go_num, by omega, hl8, HINC8, HI2, HO8, HB8⟩
          case measure => simp [intOf]; omega
    · have hpe : p = ns.length := by omega
      have HXE : Hid (X = .ok l) := by
        show _ = _
        rw [HI.out, hpe, List.drop_length]; rfl
      subst hpe
      clear hlt
      go_wp2_with fail
      refine bodyPost_ret (v := .slice va l.length vc) (by simp [results, go_sem]) rfl ⟨HB.out, ?_⟩
      rw [HXE.out]
      exact ⟨_, rfl, HO.out⟩

end Go.Proofs.Ytbgiliophmofgaa
namespace Go.Proofs.Ytbgiliophmofgaa
open Go.RowKit
set_option linter.unusedVariables false

theorem aheadB_irr (x : Arr) : aheadB x x = false := by
  cases h : aheadB x x with
  | false => rfl
  | true => rw [aheadB_iff] at h; omega
theorem bs_hasA {l : List Arr} {x : Arr} {k : Nat} {f : Bool} (h : BsIs l x k f) (hi : IncA l) : hasA l x.f x.e x.t = f := by
  unfold hasA
  rw [Bool.eq_iff_iff, List.any_eq_true]
  constructor
  · rintro ⟨y, hy, hd⟩
    have hd := of_decide_eq_true hd
    have hyx : y = x := arr_ext ⟨hd.1, hd.2.1, hd.2.2⟩
    subst hyx
    obtain ⟨j, hj, hjy⟩ := List.mem_iff_getElem.1 hy
    have hg : l[j]?.getD arr0 = y := by rw [List.getElem?_eq_getElem hj, hjy]; rfl
    rcases Nat.lt_trichotomy j k with c | c | c
    · have := h.lo j c
      rw [hg, aheadB_irr] at this; cases this
    · refine h.eq.2 ⟨by omega, ?_⟩
      rw [← c, hg]
      exact ⟨rfl, rfl, rfl⟩
    · have h1 := incA_at hi hj c
      rw [hg, h.hi k (Nat.le_refl _) (by omega)] at h1; cases h1
  · intro hf
    obtain ⟨h1, h2⟩ := h.eq.1 hf
    refine ⟨l[k]?.getD arr0, ?_, decide_eq_true ⟨h2.1, h2.2.1, h2.2.2⟩⟩
    rw [List.getElem?_eq_getElem h1]
    exact List.getElem_mem h1
theorem bs_insA {l : List Arr} {x : Arr} {k : Nat} (h : BsIs l x k false) : insA x l = l.take k ++ x :: l.drop k := by
  refine insA_put h.le h.lo ?_
  by_cases hk : k = l.length
  · exact .inl hk
  · have hlt : k < l.length := by have := h.le; omega
    exact .inr ⟨h.hi k (Nat.le_refl _) hlt, fun e => by have := h.eq.2 ⟨hlt, e⟩; cases this⟩
theorem aflat_drop : ∀ (L : List Arr) (p : Nat), (aflat L).drop (p * 3) = aflat (L.drop p)
  | [], p => by simp [aflat]
  | a :: r, 0 => by simp [aflat]
  | a :: r, p + 1 => by rw [show (p + 1) * 3 = p * 3 + 1 + 1 + 1 by omega]; simp only [aflat, List.drop_succ_cons, aflat_drop r p]
theorem ownA_ins {W : World} {B k : Nat} {v : Value} {l : List Arr} {x : Arr} (h : W.ownsRow B 60 3 v (l.length + 1) (insAt 3 k [.int .i64 x.f, .int .i64 x.e, .int .i64 x.t] (aflat l))) (hb : BsIs l x k false) : OwnA W B v (insA x l) := by
  have e : aflat (insA x l) = insAt 3 k [.int .i64 x.f, .int .i64 x.e, .int .i64 x.t] (aflat l) := by
    rw [bs_insA hb]
    unfold insAt
    rw [aflat_take, aflat_drop, aflat_append, aflat]
    simp
  have hl : (insA x l).length = l.length + 1 := by
    have := hb.le
    rw [bs_insA hb]; simp; omega
  unfold OwnA
  rw [e, hl]
  exact h
/-- Threes of tokens, as they are read. -/
def ThAt (W : World) (v : Value) (ts : List Thr) : Prop := ∃ a c, v = .slice a ts.length c ∧ (ts = [] ∨ ∃ g, a = some ⟨g, 0, none⟩ ∧ g < W.heap.size ∧ ∀ j (x : Thr), ts[j]? = some x → ∀ i u, (thcells x)[i]? = some u → W.cell? ⟨g, j * 9 + i, none⟩ = some u)
theorem thcells_len (x : Thr) : (thcells x).length = 9 := rfl
theorem thflat_at : ∀ (l : List Thr) (j : Nat) (x : Thr), l[j]? = some x → ∀ i u, (thcells x)[i]? = some u → (thflat l)[j * 9 + i]? = some u
  | [], j, x, h => by simp at h
  | y :: r, 0, x, h => fun i u hu => by
    have : y = x := by simpa using h
    subst this
    have e : thflat (y :: r) = thcells y ++ thflat r := rfl
    have hi := (List.getElem?_eq_some_iff.1 hu).1
    rw [e, Nat.zero_mul, Nat.zero_add, List.getElem?_append_left hi]
    exact hu
  | y :: r, j + 1, x, h => fun i u hu => by
    have ih := thflat_at r j x (by simpa using h) i u hu
    have e : thflat (y :: r) = thcells y ++ thflat r := rfl
    rw [e, List.getElem?_append_right (by rw [thcells_len]; omega), thcells_len, show (j + 1) * 9 + i - 9 = j * 9 + i by omega]
    exact ih
theorem OwnTh.thAt {W : World} {B : Nat} {v : Value} {l : List Thr} (h : OwnTh W B v l) : ThAt W v l := by
  rcases h.2 with ⟨rfl, hn⟩ | ⟨g, cap, cur, rfl, hg, hh, hnc, hcm, hcs, ht⟩
  · have : l = [] := List.eq_nil_of_length_eq_zero hn
    subst this
    exact ⟨none, 0, rfl, .inl rfl⟩
  · refine ⟨_, cap, rfl, .inr ⟨g, rfl, (Array.getElem?_eq_some_iff.1 hh).1, fun j x hj i u hu => ?_⟩⟩
    have hc := h.cells (g := g) rfl _ u (thflat_at l j x hj i u hu)
    rw [addr0_add, Nat.zero_add] at hc
    exact hc
/-- What arrowsOf leaves. -/
def ArrPostT (x : Except (Int × Nat) (List Arr)) (w : World) (e : Ending) (w' : World) : Prop := Below w.heap.size w w' ∧ match x with
  | .error er => e = Pn er.1 (er.2 : Int)
  | .ok l => ∃ v, e = .returned v ∧ OwnA w' w.heap.size v l
/-- Where an arrow is found. -/
def BsfC (V : World) (va : Option Addr) (vc : Nat) (l : List Arr) (x : Arr) : Prop := AtA V va l → Calls Try.prog 75 #[.slice va l.length vc, .agg (acells x), .func (.func 76) #[] #[]] V fun e w' => ∃ (k : Nat) (f : Bool), e = .returned (.tuple #[.int .i64 k, .bool f]) ∧ BsIs l x k f ∧ Below V.heap.size V w'
theorem aflat_cellT : ∀ l : List Arr, ∀ u ∈ aflat l, u.oneCell' = true
  | [], u, h => by simp [aflat] at h
  | a :: r, u, h => by
    simp only [aflat, List.mem_cons] at h
    rcases h with rfl | rfl | rfl | h
    · rfl
    · rfl
    · rfl
    · exact aflat_cellT r u h
theorem fd_below {w V : World} {p : Nat} {S : List Str} (h : FdAt w p S) (hb : Below w.heap.size w V) : FdAt V p S := h.below hb

set_option maxRecDepth 100000 in
set_option maxHeartbeats 16000000 in
theorem arrowsOf_any (v : Value) (ts : List Thr) (sp ep : Nat) (S E : List Str) (hl : ts.length ≤ 4000) (w : World) (hs : Hid (FdAt w sp S)) (he : Hid (FdAt w ep E)) (h0 : Hid (ThAt w v ts)) :
    Calls Try.prog 46 #[v, findV sp, findV ep] w fun e w' => ArrPostT (arrL S E [] ts) w e w' := by
  obtain ⟨a, c, rfl, h1⟩ := h0.out
  have H1 : Hid (ts = [] ∨ ∃ g, a = some ⟨g, 0, none⟩ ∧ g < w.heap.size ∧ ∀ j (x : Thr), ts[j]? = some x → ∀ i u, (thcells x)[i]? = some u → w.cell? ⟨g, j * 9 + i, none⟩ = some u) := h1
  clear h1
  obtain ⟨X, HX⟩ : ∃ X, Hid (arrL S E [] ts = X) := ⟨_, rfl⟩
  rw [HX.out]
  go_enter Try.func46, Try.ntmps46
  go_wp2_with fail
  go_loopw [7, 18] (fun sv i wr => ∃ (p : Nat) (l : List Arr), i = .int .i64 p ∧ p ≤ ts.length ∧ l.length ≤ p ∧ Hid (IncA l) ∧ Hid (X = arrL S E l (ts.drop p)) ∧ Hid (OwnA wr w.heap.size sv l) ∧ Hid (Below w.heap.size w wr)) (fun _ i _ => ts.length - (intOf i).toNat)
  case atStart => exact ⟨0, [], rfl, Nat.zero_le _, Nat.zero_le _, List.Pairwise.nil, (by show X = _; rw [← HX.out, List.drop_zero]), ownA_nil _ _, Below.refl _ _⟩
  case round =>
    obtain ⟨p, l, rfl, hp, hlp, HINC, HI, HO, HB⟩ := hrel
    obtain ⟨va, vc, hv, hvat, -, -, -⟩ := OwnA.at HO.out
    subst hv
    by_cases hlt : p < ts.length
    · obtain ⟨x, HTI⟩ : ∃ t, Hid (ts[p]? = some t) := ⟨_, List.getElem?_eq_getElem hlt⟩
      obtain ⟨t0, t1, t2⟩ := x
      have hpI : (p : Int) < (ts.length : Int) := by omega
      obtain ⟨g, rfl, hg, hc⟩ : ∃ g, a = some ⟨g, 0, none⟩ ∧ g < w.heap.size ∧ ∀ j (x : Thr), ts[j]? = some x → ∀ i u, (thcells x)[i]? = some u → w.cell? ⟨g, j * 9 + i, none⟩ = some u := by
        rcases H1.out with h | h
        · rw [h] at hlt; simp at hlt
        · exact h
      have x0 : wr.cell? ⟨g, p * 9, none⟩ = some (.int .i64 (tkK t0)) := (HB.out.cell (p := ⟨g, _, none⟩) hg).trans (hc p _ HTI.out 0 _ rfl)
      have x1 : wr.cell? ⟨g, p * 9 + 1, none⟩ = some (strV t0.text) := (HB.out.cell (p := ⟨g, _, none⟩) hg).trans (hc p _ HTI.out 1 _ rfl)
      have x2 : wr.cell? ⟨g, p * 9 + 2, none⟩ = some (.int .i64 (t0.pos : Int)) := (HB.out.cell (p := ⟨g, _, none⟩) hg).trans (hc p _ HTI.out 2 _ rfl)
      have x3 : wr.cell? ⟨g, p * 9 + 3, none⟩ = some (.int .i64 (tkK t1)) := (HB.out.cell (p := ⟨g, _, none⟩) hg).trans (hc p _ HTI.out 3 _ rfl)
      have x4 : wr.cell? ⟨g, p * 9 + 4, none⟩ = some (strV t1.text) := (HB.out.cell (p := ⟨g, _, none⟩) hg).trans (hc p _ HTI.out 4 _ rfl)
      have x5 : wr.cell? ⟨g, p * 9 + 5, none⟩ = some (.int .i64 (t1.pos : Int)) := (HB.out.cell (p := ⟨g, _, none⟩) hg).trans (hc p _ HTI.out 5 _ rfl)
      have x6 : wr.cell? ⟨g, p * 9 + 6, none⟩ = some (.int .i64 (tkK t2)) := (HB.out.cell (p := ⟨g, _, none⟩) hg).trans (hc p _ HTI.out 6 _ rfl)
      have x7 : wr.cell? ⟨g, p * 9 + 7, none⟩ = some (strV t2.text) := (HB.out.cell (p := ⟨g, _, none⟩) hg).trans (hc p _ HTI.out 7 _ rfl)
      have x8 : wr.cell? ⟨g, p * 9 + 8, none⟩ = some (.int .i64 (t2.pos : Int)) := (HB.out.cell (p := ⟨g, _, none⟩) hg).trans (hc p _ HTI.out 8 _ rfl)
      have HDR : Hid (ts.drop p = (t0, t1, t2) :: ts.drop (p + 1)) := by
        show _ = _
        obtain ⟨h1, h2⟩ := List.getElem?_eq_some_iff.1 HTI.out
        rw [List.drop_eq_getElem_cons h1, h2]
      have hal : Below wr.heap.size wr (wr.alloc (.cells #[.int .i64 (tkK t0), strV t0.text, .int .i64 (t0.pos : Int), .int .i64 (tkK t1), strV t1.text, .int .i64 (t1.pos : Int), .int .i64 (tkK t2), strV t2.text, .int .i64 (t2.pos : Int)] 103)) := (Below.refl _ _).alloc (Nat.le_refl _) _
      have KT : Hid (Blk (wr.alloc (.cells #[.int .i64 (tkK t0), strV t0.text, .int .i64 (t0.pos : Int), .int .i64 (tkK t1), strV t1.text, .int .i64 (t1.pos : Int), .int .i64 (tkK t2), strV t2.text, .int .i64 (t2.pos : Int)] 103)) wr.heap.size 103 #[.int .i64 (tkK t0), strV t0.text, .int .i64 (t0.pos : Int), .int .i64 (tkK t1), strV t1.text, .int .i64 (t1.pos : Int), .int .i64 (tkK t2), strV t2.text, .int .i64 (t2.pos : Int)]) := Blk.new wr _ _
      replace HO : Hid (OwnA (wr.alloc (.cells #[.int .i64 (tkK t0), strV t0.text, .int .i64 (t0.pos : Int), .int .i64 (tkK t1), strV t1.text, .int .i64 (t1.pos : Int), .int .i64 (tkK t2), strV t2.text, .int .i64 (t2.pos : Int)] 103)) w.heap.size (.slice va l.length vc) l) := World.ownsRow.alloc HO.out _
      replace HB := Hid.of (HB.out.trans (hal.mono HB.out.size))
      clear hal hvat hc
      go_wp2_with fail
      clear x0 x1 x2 x3 x4 x5 x6 x7 x8
      revert KT HO HB
      generalize (wr.alloc (.cells #[.int .i64 (tkK t0), strV t0.text, .int .i64 (t0.pos : Int), .int .i64 (tkK t1), strV t1.text, .int .i64 (t1.pos : Int), .int .i64 (tkK t2), strV t2.text, .int .i64 (t2.pos : Int)] 103)) = V
      generalize wr.heap.size = bx
      intro KT HO HB
      have y0 := KT.out.cell 0 rfl
      clear y0
      have y0 : V.cell? ⟨bx, 0, none⟩ = some (.int .i64 (tkK t0)) := KT.out.cell 0 rfl
      have y1 : V.cell? ⟨bx, 1, none⟩ = some (strV t0.text) := KT.out.cell 1 rfl
      have y2 : V.cell? ⟨bx, 2, none⟩ = some (.int .i64 (t0.pos : Int)) := KT.out.cell 2 rfl
      have y3 : V.cell? ⟨bx, 3, none⟩ = some (.int .i64 (tkK t1)) := KT.out.cell 3 rfl
      have y4 : V.cell? ⟨bx, 4, none⟩ = some (strV t1.text) := KT.out.cell 4 rfl
      have y5 : V.cell? ⟨bx, 5, none⟩ = some (.int .i64 (t1.pos : Int)) := KT.out.cell 5 rfl
      have y6 : V.cell? ⟨bx, 6, none⟩ = some (.int .i64 (tkK t2)) := KT.out.cell 6 rfl
      have y7 : V.cell? ⟨bx, 7, none⟩ = some (strV t2.text) := KT.out.cell 7 rfl
      have y8 : V.cell? ⟨bx, 8, none⟩ = some (.int .i64 (t2.pos : Int)) := KT.out.cell 8 rfl
      have SA : V.drew.cell? ⟨bx, 0, none⟩ = some (.int .i64 (tkK t0)) ∧ V.drew.cell? ⟨bx, 1, none⟩ = some (strV t0.text) ∧ V.drew.cell? ⟨bx, 2, none⟩ = some (.int .i64 (t0.pos : Int)) ∧ V.drew.cell? ⟨bx, 3, none⟩ = some (.int .i64 (tkK t1)) ∧ V.drew.cell? ⟨bx, 4, none⟩ = some (strV t1.text) ∧ V.drew.cell? ⟨bx, 5, none⟩ = some (.int .i64 (t1.pos : Int)) ∧ V.drew.cell? ⟨bx, 6, none⟩ = some (.int .i64 (tkK t2)) ∧ V.drew.cell? ⟨bx, 7, none⟩ = some (strV t2.text) ∧ V.drew.cell? ⟨bx, 8, none⟩ = some (.int .i64 (t2.pos : Int)) := ⟨y0, y1, y2, y3, y4, y5, y6, y7, y8⟩
      go_wp2_with fail
      refine wp_region_held_drew (S := fun w' => w'.cell? ⟨bx, 0, none⟩ = some (.int .i64 (tkK t0)) ∧ w'.cell? ⟨bx, 1, none⟩ = some (strV t0.text) ∧ w'.cell? ⟨bx, 2, none⟩ = some (.int .i64 (t0.pos : Int)) ∧ w'.cell? ⟨bx, 3, none⟩ = some (.int .i64 (tkK t1)) ∧ w'.cell? ⟨bx, 4, none⟩ = some (strV t1.text) ∧ w'.cell? ⟨bx, 5, none⟩ = some (.int .i64 (t1.pos : Int)) ∧ w'.cell? ⟨bx, 6, none⟩ = some (.int .i64 (tkK t2)) ∧ w'.cell? ⟨bx, 7, none⟩ = some (strV t2.text) ∧ w'.cell? ⟨bx, 8, none⟩ = some (.int .i64 (t2.pos : Int))) (by kernel_rfl) SA (fun hS => ?_)
      have QO : Hid (OwnA V.drew w.heap.size (.slice va l.length vc) l) := HO.out
      have QB : Hid (Below w.heap.size w V.drew) := HB.out.drew
      have QT : Hid (Blk V.drew bx 103 #[.int .i64 (tkK t0), strV t0.text, .int .i64 (t0.pos : Int), .int .i64 (tkK t1), strV t1.text, .int .i64 (t1.pos : Int), .int .i64 (tkK t2), strV t2.text, .int .i64 (t2.pos : Int)]) := KT.out
      clear y0 y1 y2 y3 y4 y5 y6 y7 y8 SA HO HB KT
      revert QO QB QT hS
      generalize V.drew = Y0
      intro hS QO QB QT
      refine wpAnyH_take (i := 0) (v := findV sp) rfl (by kernel_rfl) (by kernel_rfl) (by kernel_rfl) (fun _ _ _ h => h) (Or.inl ⟨by kernel_rfl, fun w' hw' => by obtain ⟨q0, q1, q2, q3, q4, q5, q6, q7, q8⟩ := hw'; go_simp⟩) hS ?_
      refine wpAnyH_take (i := 1) (v := .pointer (some ⟨bx, 0, none⟩)) rfl (by kernel_rfl) (by kernel_rfl) (by kernel_rfl) (fun _ _ _ h => h) (Or.inl ⟨by kernel_rfl, fun w' hw' => by obtain ⟨q0, q1, q2, q3, q4, q5, q6, q7, q8⟩ := hw'; go_simp⟩) hS ?_
      refine wpAnyH_take (i := 2) (v := tkV t0) rfl (by kernel_rfl) (by kernel_rfl) (by kernel_rfl) (fun _ _ _ h => h) (Or.inl ⟨by kernel_rfl, fun w' hw' => by obtain ⟨q0, q1, q2, q3, q4, q5, q6, q7, q8⟩ := hw'; go_simp⟩) hS ?_
      refine wpAnyH_take (i := 4) (v := findV ep) rfl (by kernel_rfl) (by kernel_rfl) (by kernel_rfl) (fun _ _ _ h => h) (Or.inl ⟨by kernel_rfl, fun w' hw' => by obtain ⟨q0, q1, q2, q3, q4, q5, q6, q7, q8⟩ := hw'; go_simp⟩) hS ?_
      refine wpAnyH_take (i := 5) (v := .pointer (some ⟨bx, 3, none⟩)) rfl (by kernel_rfl) (by kernel_rfl) (by kernel_rfl) (fun _ _ _ h => h) (Or.inl ⟨by kernel_rfl, fun w' hw' => by obtain ⟨q0, q1, q2, q3, q4, q5, q6, q7, q8⟩ := hw'; go_simp⟩) hS ?_
      refine wpAnyH_take (i := 6) (v := tkV t1) rfl (by kernel_rfl) (by kernel_rfl) (by kernel_rfl) (fun _ _ _ h => h) (Or.inl ⟨by kernel_rfl, fun w' hw' => by obtain ⟨q0, q1, q2, q3, q4, q5, q6, q7, q8⟩ := hw'; go_simp⟩) hS ?_
      refine wpAnyH_take (i := 8) (v := findV sp) rfl (by kernel_rfl) (by kernel_rfl) (by kernel_rfl) (fun _ _ _ h => h) (Or.inl ⟨by kernel_rfl, fun w' hw' => by obtain ⟨q0, q1, q2, q3, q4, q5, q6, q7, q8⟩ := hw'; go_simp⟩) hS ?_
      refine wpAnyH_take (i := 9) (v := .pointer (some ⟨bx, 6, none⟩)) rfl (by kernel_rfl) (by kernel_rfl) (by kernel_rfl) (fun _ _ _ h => h) (Or.inl ⟨by kernel_rfl, fun w' hw' => by obtain ⟨q0, q1, q2, q3, q4, q5, q6, q7, q8⟩ := hw'; go_simp⟩) hS ?_
      refine wpAnyH_take (i := 10) (v := tkV t2) rfl (by kernel_rfl) (by kernel_rfl) (by kernel_rfl) (fun _ _ _ h => h) (Or.inl ⟨by kernel_rfl, fun w' hw' => by obtain ⟨q0, q1, q2, q3, q4, q5, q6, q7, q8⟩ := hw'; go_simp⟩) hS ?_
      try simp only [Act.put, List.setIfInBounds_toArray, List.getElem_toArray, List.getElem_cons_succ, List.getElem_cons_zero, List.set_cons_zero, List.set_cons_succ]
      refine wpAnyH_ready (rs := [3]) (by kernel_rfl) (by simp) ?_
      refine AllReadyH.cons rfl (fun K' hK' => ?_) AllReadyH.nil
      clear hS
      go_simp
      refine (find1_any t0 sp S Y0 (fd_below hs.out QB.out)).mono ?_
      intro e Y1 hq
      obtain ⟨hb, hq⟩ := hq
      have SB : Y1.cell? ⟨bx, 0, none⟩ = some (.int .i64 (tkK t0)) ∧ Y1.cell? ⟨bx, 1, none⟩ = some (strV t0.text) ∧ Y1.cell? ⟨bx, 2, none⟩ = some (.int .i64 (t0.pos : Int)) ∧ Y1.cell? ⟨bx, 3, none⟩ = some (.int .i64 (tkK t1)) ∧ Y1.cell? ⟨bx, 4, none⟩ = some (strV t1.text) ∧ Y1.cell? ⟨bx, 5, none⟩ = some (.int .i64 (t1.pos : Int)) ∧ Y1.cell? ⟨bx, 6, none⟩ = some (.int .i64 (tkK t2)) ∧ Y1.cell? ⟨bx, 7, none⟩ = some (strV t2.text) ∧ Y1.cell? ⟨bx, 8, none⟩ = some (.int .i64 (t2.pos : Int)) := by
        have K := QT.out.below hb QT.out.lt
        exact ⟨K.cell 0 rfl, K.cell 1 rfl, K.cell 2 rfl, K.cell 3 rfl, K.cell 4 rfl, K.cell 5 rfl, K.cell 6 rfl, K.cell 7 rfl, K.cell 8 rfl⟩
      replace QO : Hid (OwnA Y1 w.heap.size (.slice va l.length vc) l) := own_same QO.out (fun k hk => hb.block k (World.ownsRow.lt QO.out k hk).2)
      replace QB := Hid.of (QB.out.trans (hb.mono QB.out.size))
      replace QT := Hid.of (QT.out.below hb QT.out.lt)
      clear hb
      cases hn : numLT S t0 with
      | error er =>
        rw [hn] at hq
        dsimp only at hq
        subst hq
        have HXE : Hid (X = .error er) := by
          show _ = _
          rw [HI.out, HDR.out, arrL]
          unfold arr1L
          dsimp only
          rw [hn]
          rfl
        clear hn SB
        go_wp2_with fail
        refine ⟨rfl, QB.out, ?_⟩
        rw [HXE.out]
      | ok na =>
        rw [hn] at hq
        dsimp only at hq
        subst hq
        have HNna := Hid.of hn
        clear hn
        refine hK'.out _ _ SB (fun hS => ?_)
        clear hK' K' SB
        try simp only [Act.put, List.setIfInBounds_toArray, List.getElem_toArray, List.getElem_cons_succ, List.getElem_cons_zero, List.set_cons_zero, List.set_cons_succ]
        refine wpAnyH_ready (rs := [7]) (by kernel_rfl) (by simp) ?_
        refine AllReadyH.cons rfl (fun K' hK' => ?_) AllReadyH.nil
        clear hS
        go_simp
        refine (find1_any t1 ep E Y1 (fd_below he.out QB.out)).mono ?_
        intro e Y2 hq
        obtain ⟨hb, hq⟩ := hq
        have SB : Y2.cell? ⟨bx, 0, none⟩ = some (.int .i64 (tkK t0)) ∧ Y2.cell? ⟨bx, 1, none⟩ = some (strV t0.text) ∧ Y2.cell? ⟨bx, 2, none⟩ = some (.int .i64 (t0.pos : Int)) ∧ Y2.cell? ⟨bx, 3, none⟩ = some (.int .i64 (tkK t1)) ∧ Y2.cell? ⟨bx, 4, none⟩ = some (strV t1.text) ∧ Y2.cell? ⟨bx, 5, none⟩ = some (.int .i64 (t1.pos : Int)) ∧ Y2.cell? ⟨bx, 6, none⟩ = some (.int .i64 (tkK t2)) ∧ Y2.cell? ⟨bx, 7, none⟩ = some (strV t2.text) ∧ Y2.cell? ⟨bx, 8, none⟩ = some (.int .i64 (t2.pos : Int)) := by
          have K := QT.out.below hb QT.out.lt
          exact ⟨K.cell 0 rfl, K.cell 1 rfl, K.cell 2 rfl, K.cell 3 rfl, K.cell 4 rfl, K.cell 5 rfl, K.cell 6 rfl, K.cell 7 rfl, K.cell 8 rfl⟩
        replace QO : Hid (OwnA Y2 w.heap.size (.slice va l.length vc) l) := own_same QO.out (fun k hk => hb.block k (World.ownsRow.lt QO.out k hk).2)
        replace QB := Hid.of (QB.out.trans (hb.mono QB.out.size))
        replace QT := Hid.of (QT.out.below hb QT.out.lt)
        clear hb
        cases hn : numLT E t1 with
        | error er =>
          rw [hn] at hq
          dsimp only at hq
          subst hq
          have HXE : Hid (X = .error er) := by
            show _ = _
            rw [HI.out, HDR.out, arrL]
            unfold arr1L
            dsimp only
            rw [HNna.out, show ∀ f : Nat → Except (Int × Nat) (List Arr), Except.bind (.ok na) f = f na from fun _ => rfl, hn]
            rfl
          clear hn SB
          go_wp2_with fail
          refine ⟨rfl, QB.out, ?_⟩
          rw [HXE.out]
        | ok nb =>
          rw [hn] at hq
          dsimp only at hq
          subst hq
          have HNnb := Hid.of hn
          clear hn
          refine hK'.out _ _ SB (fun hS => ?_)
          clear hK' K' SB
          try simp only [Act.put, List.setIfInBounds_toArray, List.getElem_toArray, List.getElem_cons_succ, List.getElem_cons_zero, List.set_cons_zero, List.set_cons_succ]
          refine wpAnyH_ready (rs := [11]) (by kernel_rfl) (by simp) ?_
          refine AllReadyH.cons rfl (fun K' hK' => ?_) AllReadyH.nil
          clear hS
          go_simp
          refine (find1_any t2 sp S Y2 (fd_below hs.out QB.out)).mono ?_
          intro e Y3 hq
          obtain ⟨hb, hq⟩ := hq
          have SB : Y3.cell? ⟨bx, 0, none⟩ = some (.int .i64 (tkK t0)) ∧ Y3.cell? ⟨bx, 1, none⟩ = some (strV t0.text) ∧ Y3.cell? ⟨bx, 2, none⟩ = some (.int .i64 (t0.pos : Int)) ∧ Y3.cell? ⟨bx, 3, none⟩ = some (.int .i64 (tkK t1)) ∧ Y3.cell? ⟨bx, 4, none⟩ = some (strV t1.text) ∧ Y3.cell? ⟨bx, 5, none⟩ = some (.int .i64 (t1.pos : Int)) ∧ Y3.cell? ⟨bx, 6, none⟩ = some (.int .i64 (tkK t2)) ∧ Y3.cell? ⟨bx, 7, none⟩ = some (strV t2.text) ∧ Y3.cell? ⟨bx, 8, none⟩ = some (.int .i64 (t2.pos : Int)) := by
            have K := QT.out.below hb QT.out.lt
            exact ⟨K.cell 0 rfl, K.cell 1 rfl, K.cell 2 rfl, K.cell 3 rfl, K.cell 4 rfl, K.cell 5 rfl, K.cell 6 rfl, K.cell 7 rfl, K.cell 8 rfl⟩
          replace QO : Hid (OwnA Y3 w.heap.size (.slice va l.length vc) l) := own_same QO.out (fun k hk => hb.block k (World.ownsRow.lt QO.out k hk).2)
          replace QB := Hid.of (QB.out.trans (hb.mono QB.out.size))
          replace QT := Hid.of (QT.out.below hb QT.out.lt)
          clear hb
          cases hn : numLT S t2 with
          | error er =>
            rw [hn] at hq
            dsimp only at hq
            subst hq
            have HXE : Hid (X = .error er) := by
              show _ = _
              rw [HI.out, HDR.out, arrL]
              unfold arr1L
              dsimp only
              rw [HNna.out, show ∀ f : Nat → Except (Int × Nat) (List Arr), Except.bind (.ok na) f = f na from fun _ => rfl, HNnb.out, show ∀ f : Nat → Except (Int × Nat) (List Arr), Except.bind (.ok nb) f = f nb from fun _ => rfl, hn]
              rfl
            clear hn SB
            go_wp2_with fail
            refine ⟨rfl, QB.out, ?_⟩
            rw [HXE.out]
          | ok nc =>
            rw [hn] at hq
            dsimp only at hq
            subst hq
            have HNnc := Hid.of hn
            clear hn
            refine hK'.out _ _ SB (fun hS => ?_)
            clear hK' K' SB
            refine wpAnyH_take (i := 12) (v := .int .i64 (na : Int)) rfl (by kernel_rfl) (by kernel_rfl) (by kernel_rfl) (fun _ _ _ h => h) (Or.inl ⟨by kernel_rfl, fun w' hw' => by obtain ⟨q0, q1, q2, q3, q4, q5, q6, q7, q8⟩ := hw'; go_simp⟩) hS ?_
            refine wpAnyH_take (i := 13) (v := .int .i64 (nb : Int)) rfl (by kernel_rfl) (by kernel_rfl) (by kernel_rfl) (fun _ _ _ h => h) (Or.inl ⟨by kernel_rfl, fun w' hw' => by obtain ⟨q0, q1, q2, q3, q4, q5, q6, q7, q8⟩ := hw'; go_simp⟩) hS ?_
            refine wpAnyH_take (i := 14) (v := .int .i64 (nc : Int)) rfl (by kernel_rfl) (by kernel_rfl) (by kernel_rfl) (fun _ _ _ h => h) (Or.inl ⟨by kernel_rfl, fun w' hw' => by obtain ⟨q0, q1, q2, q3, q4, q5, q6, q7, q8⟩ := hw'; go_simp⟩) hS ?_
            simp only [Act.put, List.setIfInBounds_toArray, List.getElem_toArray, List.getElem_cons_succ, List.getElem_cons_zero, List.set_cons_zero, List.set_cons_succ]
            clear hS
            refine wpAnyH_done (by kernel_rfl) ?_ _
            go_wp2_with fail
            have hal : Below Y3.heap.size Y3 (Y3.alloc (.cells #[.int .i64 (na : Int), .int .i64 (nb : Int), .int .i64 (nc : Int)] 60)) := (Below.refl _ _).alloc (Nat.le_refl _) _
            have KA : Hid (Blk (Y3.alloc (.cells #[.int .i64 (na : Int), .int .i64 (nb : Int), .int .i64 (nc : Int)] 60)) Y3.heap.size 60 #[.int .i64 (na : Int), .int .i64 (nb : Int), .int .i64 (nc : Int)]) := Blk.new Y3 _ _
            have HO : Hid (OwnA (Y3.alloc (.cells #[.int .i64 (na : Int), .int .i64 (nb : Int), .int .i64 (nc : Int)] 60)) w.heap.size (.slice va l.length vc) l) := World.ownsRow.alloc QO.out _
            have HB := Hid.of (QB.out.trans (hal.mono QB.out.size))
            have KT := Hid.of (QT.out.below hal QT.out.lt)
            obtain ⟨x, HXX⟩ : ∃ x : Arr, Hid (x = ⟨(na : Int), (nb : Int), (nc : Int)⟩) := ⟨_, rfl⟩
            have HAV : Hid (∀ V, BsfC V va vc l x) := fun V h => bsf_any va vc l x V h (by omega) HINC.out
            clear hal QO QB QT
            go_wp2_with fail
            revert KA HO HB KT
            generalize Y3.alloc (.cells #[.int .i64 (na : Int), .int .i64 (nb : Int), .int .i64 (nc : Int)] 60) = V5
            generalize Y3.heap.size = ba
            intro KA HO HB KT
            have z0 := KA.out.cell 0 rfl
            have z1 := KA.out.cell 1 rfl
            have z2 := KA.out.cell 2 rfl
            obtain ⟨va5, vc5, hv5, hat5, -, -, -⟩ := OwnA.at HO.out
            cases hv5
            have HAT := Hid.of hat5
            clear hat5
            go_wp2_with fail
            have HCALL : Hid (Calls Try.prog 75 #[.slice va l.length vc, .agg #[.int .i64 (na : Int), .int .i64 (nb : Int), .int .i64 (nc : Int)], .func (.func 76) #[] #[]] V5 fun e w' => ∃ (k : Nat) (f : Bool), e = .returned (.tuple #[.int .i64 k, .bool f]) ∧ BsIs l x k f ∧ Below V5.heap.size V5 w') := by
              have h := HAV.out V5 HAT.out
              have hx := HXX.out
              subst hx
              exact h
            clear HAV HAT z0 z1 z2
            refine HCALL.out.mono ?_
            rintro e W6 ⟨k, f, rfl, hbs, hb⟩
            clear HCALL
            have HBS := Hid.of hbs
            replace HB := Hid.of (HB.out.trans (hb.mono HB.out.size))
            replace HO : Hid (OwnA W6 w.heap.size (.slice va l.length vc) l) := own_same HO.out (fun k hk => hb.block k (World.ownsRow.lt HO.out k hk).2)
            replace KA := Hid.of (KA.out.below hb KA.out.lt)
            replace KT := Hid.of (KT.out.below hb KT.out.lt)
            have HHA : Hid (hasA l (na : Int) (nb : Int) (nc : Int) = f) := by
              have h := bs_hasA hbs HINC.out
              rw [HXX.out] at h
              exact h
            have HX1 : Hid (arr1L S E l (t0, t1, t2) = if f = true then .error (5, t0.pos) else .ok (insA x l)) := by
              show _ = _
              unfold arr1L
              dsimp only
              rw [HNna.out, show ∀ f : Nat → Except (Int × Nat) (List Arr), Except.bind (.ok na) f = f na from fun _ => rfl, HNnb.out, show ∀ f : Nat → Except (Int × Nat) (List Arr), Except.bind (.ok nb) f = f nb from fun _ => rfl, HNnc.out, show ∀ f : Nat → Except (Int × Nat) (List Arr), Except.bind (.ok nc) f = f nc from fun _ => rfl, HHA.out, HXX.out]
            have hkl := hbs.le
            clear hb hbs
            have z0 : W6.cell? ⟨ba, 0, none⟩ = some (.int .i64 (na : Int)) := KA.out.cell 0 rfl
            have z1 : W6.cell? ⟨ba, 1, none⟩ = some (.int .i64 (nb : Int)) := KA.out.cell 1 rfl
            have z2 : W6.cell? ⟨ba, 2, none⟩ = some (.int .i64 (nc : Int)) := KA.out.cell 2 rfl
            have y0 : W6.cell? ⟨bx, 0, none⟩ = some (.int .i64 (tkK t0)) := KT.out.cell 0 rfl
            have y1 : W6.cell? ⟨bx, 1, none⟩ = some (strV t0.text) := KT.out.cell 1 rfl
            have y2 : W6.cell? ⟨bx, 2, none⟩ = some (.int .i64 (t0.pos : Int)) := KT.out.cell 2 rfl
            cases f with
            | true =>
              have HXE : Hid (X = .error (5, t0.pos)) := by
                show _ = _
                rw [HI.out, HDR.out, arrL, HX1.out]; rfl
              clear HX1 HHA HBS
              go_wp2_with fail
              refine (giveUp_any 5 _ _).mono ?_
              rintro e W7 ⟨rfl, rfl⟩
              go_wp2_with fail
              refine ⟨rfl, HB.out, ?_⟩
              rw [HXE.out]
            | false =>
              have HI2 : Hid (X = arrL S E (insA x l) (ts.drop (p + 1))) := by
                show _ = _
                rw [HI.out, HDR.out, arrL, HX1.out]; rfl
              clear HX1 HHA KT KA y0 y1 y2
              go_wp2_with fail
              clear z0 z1 z2
              have hal : Below W6.heap.size W6 (W6.alloc (.cells #[.int .i64 (na : Int), .int .i64 (nb : Int), .int .i64 (nc : Int)] 60)) := (Below.refl _ _).alloc (Nat.le_refl _) _
              have KX : Hid (Blk (W6.alloc (.cells #[.int .i64 (na : Int), .int .i64 (nb : Int), .int .i64 (nc : Int)] 60)) W6.heap.size 60 [Value.int .i64 (na : Int), .int .i64 (nb : Int), .int .i64 (nc : Int)].toArray) := Blk.new W6 _ _
              have HNE : Hid (Value.ownBlock (.slice va l.length vc) ≠ some W6.heap.size) := fun e => by have := (World.ownsRow.lt HO.out _ e).2; omega
              replace HO : Hid (OwnA (W6.alloc (.cells #[.int .i64 (na : Int), .int .i64 (nb : Int), .int .i64 (nc : Int)] 60)) w.heap.size (.slice va l.length vc) l) := World.ownsRow.alloc HO.out _
              replace HB := Hid.of (HB.out.trans (hal.mono HB.out.size))
              clear hal
              revert KX HNE HO HB
              show Hid (Blk (W6.alloc (.cells #[.int .i64 (na : Int), .int .i64 (nb : Int), .int .i64 (nc : Int)] 60)) W6.heap.size 60 [Value.int .i64 (na : Int), .int .i64 (nb : Int), .int .i64 (nc : Int)].toArray) → _
              generalize W6.alloc (.cells #[.int .i64 (na : Int), .int .i64 (nb : Int), .int .i64 (nc : Int)] 60) = W7
              generalize W6.heap.size = bn
              intro KX HNE HO HB
              refine (insA_any W7 w.heap.size (.slice va l.length vc) (aflat l) [.int .i64 (na : Int), .int .i64 (nb : Int), .int .i64 (nc : Int)] l.length k bn HO.out HB.out.size rfl (by intro u hu; simp at hu; rcases hu with rfl | rfl | rfl <;> rfl) (aflat_cellT l) KX.out HNE.out (by omega) hkl).mono ?_
              rintro e W8 ⟨v8, rfl, o8, g8, n8⟩
              have HO8 : Hid (OwnA W8 w.heap.size v8 (insA x l)) := ownA_ins (by rw [HXX.out]; exact o8) HBS.out
              have HB8 : Hid (Below w.heap.size w W8) := HB.out.grown g8 HB.out.size (fun k hk => (World.ownsRow.lt HO.out k hk).1)
              have HINC8 := Hid.of (inc_insA x HINC.out)
              have hl8 : (insA x l).length ≤ p + 1 := by rw [bs_insA HBS.out]; simp; omega
              clear o8 g8 n8 HO HB KX HNE
              obtain ⟨va8, vc8, hv8, -, -, -, -⟩ := OwnA.at HO8.out
              subst hv8
              go_wp2_with fail
              go_roundw
              case rel => exact ⟨p + 1, insA x l, by go_num, by omega, hl8, HINC8, HI2, HO8, HB8⟩
              case measure => simp [intOf]; omega

    · have hpe : p = ts.length := by omega
      have HXE : Hid (X = .ok l) := by
        show _ = _
        rw [HI.out, hpe, List.drop_length]; rfl
      subst hpe
      clear hlt
      go_wp2_with fail
      refine bodyPost_ret (v := .slice va l.length vc) (by simp [results, go_sem]) rfl ⟨HB.out, ?_⟩
      rw [HXE.out]
      exact ⟨_, rfl, HO.out⟩

end Go.Proofs.Ytbgiliophmofgaa
