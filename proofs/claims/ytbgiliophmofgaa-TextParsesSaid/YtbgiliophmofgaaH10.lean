/-
  The walk of reader.arrows.
  The walk of reader.parts.
-/
import Derived.Test.YtbgiliophmofgaaH09
import Derived.Test.YtbgiliophmofgaaH07
namespace Go.Proofs.Ytbgiliophmofgaa
open Go.RowKit
set_option linter.unusedVariables false

theorem Try.infoThree : (Try.prog.info? 103).map (fun i => (i.zero, i.size, i.bytes)) = some (some (.agg #[.int .i64 0, .string ⟨#[]⟩, .int .i64 0, .int .i64 0, .string ⟨#[]⟩, .int .i64 0, .int .i64 0, .string ⟨#[]⟩, .int .i64 0]), 9, 96) := by kernel_rfl
def thcells (x : Thr) : List Value := tkcells x.1 ++ (tkcells x.2.1 ++ tkcells x.2.2)
def thflat (L : List Thr) : List Value := L.flatMap thcells
abbrev OwnTh (W : World) (B : Nat) (v : Value) (L : List Thr) : Prop := W.ownsRow B 103 9 v L.length (thflat L)
theorem ownTh_snoc {W : World} {B : Nat} {v : Value} {L : List Thr} {x : Thr} {cs : List Value} (hc : thcells x = cs) (h : W.ownsRow B 103 9 v (L.length + 1) (thflat L ++ cs)) : OwnTh W B v (L ++ [x]) := by
  show W.ownsRow B 103 9 v (L ++ [x]).length (thflat (L ++ [x]))
  have e : thflat (L ++ [x]) = thflat L ++ cs := by unfold thflat; rw [List.flatMap_append, ← hc]; simp
  rw [e, List.length_append]; exact h
theorem cells_nine (W : World) {n : Nat} (hn : n = W.heap.size) (t : TypeId) (a b c d e f g i k : Value) : ∀ j u, ([a, b, c, d, e, f, g, i, k] : List Value)[j]? = some u → (W.alloc (.cells #[a, b, c, d, e, f, g, i, k] t)).cell? ((⟨n, 0, none⟩ : Addr).add j) = some u := by
  intro j u hu
  subst hn
  rw [addr0_add, Nat.zero_add]
  exact (Blk.new W t #[a, b, c, d, e, f, g, i, k]).cell j (by rw [← Array.getElem?_toList]; exact hu)
def thrApp (ts : List Thr) (x : Rd (List Thr)) : Rd (List Thr) := match x with
  | .error e => .error e
  | .ok (u, q) => .ok (ts ++ u, q)
theorem threes_word {l : List Tok} (h : cmF (fun t => t.word) l = false) : rdThrees l = .error l := by
  cases l with
  | nil => rw [rdThrees]
  | cons t r =>
    have h : t.word = false := h
    unfold rdThrees
    rw [if_neg (by rw [h]; simp)]
theorem threes_two {a : Tok} {l : List Tok} (ha : a.word = true) (h : cmF (fun t => t.word) l = false) : rdThrees (a :: l) = .error l := by
  unfold rdThrees
  rw [if_pos ha]
  cases l with
  | nil => rfl
  | cons t r =>
    have h : t.word = false := h
    show (if t.word = true then _ else _) = _
    rw [if_neg (by rw [h]; simp)]
theorem threes_three {a b : Tok} {l : List Tok} (ha : a.word = true) (hb : b.word = true) (h : cmF (fun t => t.word) l = false) : rdThrees (a :: b :: l) = .error l := by
  unfold rdThrees
  rw [if_pos ha]
  try dsimp only
  rw [if_pos hb]
  cases l with
  | nil => rfl
  | cons t r =>
    have h : t.word = false := h
    show (if t.word = true then _ else _) = _
    rw [if_neg (by rw [h]; simp)]
theorem threes_last {a b c : Tok} {l : List Tok} (ha : a.word = true) (hb : b.word = true) (hc : c.word = true) (h : ∀ t r, l = t :: r → t.text ≠ [44]) : rdThrees (a :: b :: c :: l) = .ok ([(a, b, c)], l) := by
  unfold rdThrees
  rw [if_pos ha]
  try dsimp only
  rw [if_pos hb]
  try dsimp only
  rw [if_pos hc]
  cases l with
  | nil => rfl
  | cons t r =>
    try dsimp only
    rw [if_neg (h t r rfl)]
theorem threes_more {a b c d : Tok} {l : List Tok} (ha : a.word = true) (hb : b.word = true) (hc : c.word = true) (h : d.text = [44]) : rdThrees (a :: b :: c :: d :: l) = thrApp [(a, b, c)] (rdThrees l) := by
  rw [rdThrees]
  rw [if_pos ha]
  try dsimp only
  rw [if_pos hb]
  try dsimp only
  rw [if_pos hc]
  try dsimp only
  rw [if_pos h]
  cases rdThrees l with
  | error e => rfl
  | ok x => rfl
theorem thrApp_app (a b : List Thr) (x : Rd (List Thr)) : thrApp a (thrApp b x) = thrApp (a ++ b) x := by
  cases x with
  | error e => rfl
  | ok x => simp [thrApp]
/-- What the rest tells. -/
def thrM (more : Bool) (l : List Tok) : Rd (List Thr) := if more = true then rdThrees l else .ok ([], l)
/-- What arrows leaves. -/
def ArrsPost (x : Rd (List Thr)) (rb en : Nat) (w : World) (e : Ending) (w' : World) : Prop := But rb w w' ∧ match x with
  | .error el => e = Pn 2 (posE en el : Int)
  | .ok (ts, r) => ∃ v, e = .returned v ∧ OwnTh w' w.heap.size v ts ∧ ∃ a c, RdAt w' rb a c r en
theorem skip_cases {u : Str} {rb en : Nat} {l : List Tok} {w w' : World} {e : Ending} (h : SkipPost u rb en l w e w') : But rb w w' ∧ (((∀ t r, l = t :: r → t.text ≠ u) ∧ e = .returned (.bool false) ∧ ∃ a c, RdAt w' rb a c l en) ∨ ∃ t r a c, l = t :: r ∧ t.text = u ∧ e = .returned (.bool true) ∧ RdAt w' rb a c r en) := by
  obtain ⟨h0, h⟩ := h
  refine ⟨h0, ?_⟩
  cases l with
  | nil => exact .inl ⟨(fun t r e => absurd e (by simp)), h.1, h.2⟩
  | cons t r =>
    dsimp only at h
    by_cases ht : t.text = u
    · rw [if_pos ht] at h
      obtain ⟨h1, a, c, h3⟩ := h
      exact .inr ⟨t, r, a, c, rfl, ht, h1, h3⟩
    · rw [if_neg ht] at h
      exact .inl ⟨(fun t' r' e => by cases e; exact ht), h.1, h.2⟩

set_option maxRecDepth 100000 in
set_option maxHeartbeats 8000000 in
theorem arrows_any (rb c en : Nat) (a : Option Addr) (l : List Tok) (w : World) (hl : l.length ≤ 4000) (h0 : Hid (RdAt w rb a c l en)) :
    Calls Try.prog 41 #[.pointer (some ⟨rb, 0, none⟩)] w fun e w' => ArrsPost (rdArrs l) rb en w e w' := by
  obtain ⟨i0, hi, hz0, hz1, hz2⟩ := info_parts Try.infoThree
  have hrb := h0.out.k.lt
  go_enter Try.func41, Try.ntmps41
  go_wp2_with fail
  refine (the_any [97, 114, 114, 111, 119, 115] w).mono ?_
  rintro e W1 ⟨rfl, rfl⟩
  go_wp2_with fail
  have HP1 : Hid ((w.alloc (.cells #[strV [97, 114, 114, 111, 119, 115]] 9)).cell? ⟨w.heap.size, 0, none⟩ = some (strV [97, 114, 114, 111, 119, 115])) := (Blk.new w 9 #[strV [97, 114, 114, 111, 119, 115]]).cell 0 rfl
  have HR1 : Hid (RdAt (w.alloc (.cells #[strV [97, 114, 114, 111, 119, 115]] 9)) rb a c l en) := h0.out.below ((Below.refl _ _).alloc (Nat.le_refl _) _)
  have HB : Hid (But rb w (w.alloc (.cells #[strV [97, 114, 114, 111, 119, 115]] 9))) := But.of ((Below.refl _ _).alloc (Nat.le_refl _) _) (Nat.le_of_lt hrb)
  revert HP1 HR1 HB
  show Hid ((w.alloc (.cells #[strV [97, 114, 114, 111, 119, 115]] 9)).cell? ⟨w.heap.size, 0, none⟩ = some (strV [97, 114, 114, 111, 119, 115])) → _
  generalize w.alloc (.cells #[strV [97, 114, 114, 111, 119, 115]] 9) = W1
  intro HP1 HR1 HB
  refine (take_the [97, 114, 114, 111, 119, 115] w.heap.size rb c en a l W1 HP1 HR1).mono ?_
  intro e W2 hq
  obtain ⟨hb, hq⟩ := take_the_cases hq
  replace HB := Hid.of (HB.out.trans hb)
  clear hb HP1 HR1
  rcases hq with ⟨h1, rfl⟩ | ⟨t, r, a2, c2, rfl, h1, rfl, h2⟩
  · have HE : Hid (rdArrs l = .error l) := by
      show _ = _
      cases l with
      | nil => rfl
      | cons t r => exact if_neg (h1 t r rfl)
    clear h1
    go_wp2_with fail
    exact ⟨rfl, HB.out, by rw [HE.out]⟩
  · have HE : Hid (rdArrs (t :: r) = rdArrE (rdArrB r)) := if_pos h1
    have HR := Hid.of h2
    rw [List.length_cons] at hl
    clear h1 h2
    go_wp2_with fail
    refine (anyName_any W2).mono ?_
    rintro e Wn ⟨rfl, rfl⟩
    go_wp2_with fail
    refine (comes_any rb c2 en a2 r Wn HR).mono ?_
    rintro e W3 ⟨rfl, hbb⟩
    replace HB := Hid.of (HB.out.trans (But.of (rb := rb) hbb (Nat.le_of_lt HR.out.k.lt)))
    replace HR := Hid.of (HR.out.below hbb)
    clear hbb
    obtain ⟨m0, HM⟩ : ∃ b, Hid (cmF (fun t => t.word) r = b) := ⟨_, rfl⟩
    rw [HM.out]
    have HN0 : Hid (rdArrB r = thrApp [] (thrM m0 r)) := by
      show _ = _
      have : headW r = m0 := HM.out
      unfold rdArrB thrM
      rw [this]
      cases m0 with
      | false => rfl
      | true =>
        rw [if_pos rfl]
        cases rdThrees r with
        | error e => rfl
        | ok x => rfl
    go_wp2_with fail
    go_loopg [3, 4] (r.length + 1) (fun g ov mv wr => ∃ (ts : List Thr) (l' : List Tok) (a' : Option Addr) (c' : Nat) (more : Bool), mv = .bool more ∧ l'.length + 1 = g ∧ ts.length + l'.length ≤ r.length ∧ Hid (OwnTh wr w.heap.size ov ts) ∧ Hid (RdAt wr rb a' c' l' en) ∧ Hid (But rb w wr) ∧ Hid (rdArrB r = thrApp ts (thrM more l')))
    case atStart => exact ⟨[], r, a2, c2, m0, rfl, rfl, by simp, World.ownsRow_nil _ _ _ _, HR, HB, HN0⟩
    case round =>
      clear HR HB HN0 HM
      obtain ⟨ts, l', a', c', more, rfl, hg, hsum, HO, HR, HB, HN⟩ := hrel
      obtain ⟨va, vc, hv, -, -, -⟩ := own_form2 HO.out
      subst hv
      have hns : ts.length ≤ 4000 := by omega
      cases more with
      | true =>
        have HNT : Hid (rdArrB r = thrApp ts (rdThrees l')) := HN.out
        clear HN
        have HN := HNT
        clear HNT
        go_wp2_with fail
        refine (anyName_any wr).mono ?_
        rintro e Wn ⟨rfl, rfl⟩
        go_wp2_with fail
        refine (take_any rb c' en a' l' Wn HR).mono ?_
        intro e W4 hq
        obtain ⟨hb, hq⟩ := take_any_cases hq
        replace HO := Hid.of (ownTk_but HO.out hb hrb)
        replace HB := Hid.of (HB.out.trans hb)
        clear hb HR
        rcases hq with ⟨k1, rfl⟩ | ⟨t4, r4, a4, c4, rfl, k1, rfl, k2⟩
        · have HE2 : Hid (rdThrees l' = .error l') := by
            exact threes_word k1
          clear k1
          go_wp2_with fail
          exact ⟨rfl, HB.out, by rw [HE.out, HN.out, HE2.out]; rfl⟩
        · have HR := Hid.of k2
          have HW4 := Hid.of k1
          clear k1 k2
          go_wp2_with fail
          refine (anyName_any W4).mono ?_
          rintro e Wn ⟨rfl, rfl⟩
          go_wp2_with fail
          refine (take_any rb c4 en a4 r4 Wn HR).mono ?_
          intro e W5 hq
          obtain ⟨hb, hq⟩ := take_any_cases hq
          replace HO := Hid.of (ownTk_but HO.out hb hrb)
          replace HB := Hid.of (HB.out.trans hb)
          clear hb HR
          rcases hq with ⟨k1, rfl⟩ | ⟨t5, r5, a5, c5, rfl, k1, rfl, k2⟩
          · have HE2 : Hid (rdThrees (t4 :: r4) = .error r4) := by
              exact threes_two HW4.out k1
            clear k1
            go_wp2_with fail
            exact ⟨rfl, HB.out, by rw [HE.out, HN.out, HE2.out]; rfl⟩
          · have HR := Hid.of k2
            have HW5 := Hid.of k1
            clear k1 k2
            go_wp2_with fail
            refine (anyName_any W5).mono ?_
            rintro e Wn ⟨rfl, rfl⟩
            go_wp2_with fail
            refine (take_any rb c5 en a5 r5 Wn HR).mono ?_
            intro e W6 hq
            obtain ⟨hb, hq⟩ := take_any_cases hq
            replace HO := Hid.of (ownTk_but HO.out hb hrb)
            replace HB := Hid.of (HB.out.trans hb)
            clear hb HR
            rcases hq with ⟨k1, rfl⟩ | ⟨t6, r6, a6, c6, rfl, k1, rfl, k2⟩
            · have HE2 : Hid (rdThrees (t4 :: t5 :: r5) = .error r5) := by
                exact threes_three HW4.out HW5.out k1
              clear k1
              go_wp2_with fail
              exact ⟨rfl, HB.out, by rw [HE.out, HN.out, HE2.out]; rfl⟩
            · have HR := Hid.of k2
              have HW6 := Hid.of k1
              clear k1 k2
              rw [List.length_cons, List.length_cons, List.length_cons] at hsum hg
              have HA : Hid (w.heap.size ≤ W6.heap.size) := HB.out.s
              have HV : Hid (Below W6.heap.size W6 ((((W6.alloc (.cells #[.int .i64 (tkK t4), strV t4.text, .int .i64 (t4.pos : Int)] 56)).alloc (.cells #[.int .i64 (tkK t5), strV t5.text, .int .i64 (t5.pos : Int)] 56)).alloc (.cells #[.int .i64 (tkK t6), strV t6.text, .int .i64 (t6.pos : Int)] 56)).alloc (.cells #[.int .i64 (tkK t4), strV t4.text, .int .i64 (t4.pos : Int), .int .i64 (tkK t5), strV t5.text, .int .i64 (t5.pos : Int), .int .i64 (tkK t6), strV t6.text, .int .i64 (t6.pos : Int)] 103))) := ((((Below.refl _ _).alloc (Nat.le_refl _) _).alloc (by simp) _).alloc (by simp; omega) _).alloc (by simp; omega) _
              clear hq
              go_wp2_with (at_builtin; refine wpList_append_block _ rfl (.tmp 27) (.tmp 32) 46 rfl w.heap.size 103 i0 _ 9 96 Try.underlying46 hi hz0 hz1 hz2 rfl (by decide) _ _ _ rfl (World.ownsRow.alloc (World.ownsRow.alloc (World.ownsRow.alloc (World.ownsRow.alloc HO.out _) _) _) _) ⟨W6.heap.size + 1 + 1 + 1, 0, none⟩ 1 1 [.int .i64 (tkK t4), strV t4.text, .int .i64 (t4.pos : Int), .int .i64 (tkK t5), strV t5.text, .int .i64 (t5.pos : Int), .int .i64 (tkK t6), strV t6.text, .int .i64 (t6.pos : Int)] rfl rfl (cells_nine (((W6.alloc (.cells #[.int .i64 (tkK t4), strV t4.text, .int .i64 (t4.pos : Int)] 56)).alloc (.cells #[.int .i64 (tkK t5), strV t5.text, .int .i64 (t5.pos : Int)] 56)).alloc (.cells #[.int .i64 (tkK t6), strV t6.text, .int .i64 (t6.pos : Int)] 56)) (by simp) _ _ _ _ _ _ _ _ _ _) (by intro u hu; simp at hu; rcases hu with rfl | rfl | rfl | rfl | rfl | rfl | rfl | rfl | rfl <;> rfl) (by decide) (by unfold maxLen; omega) (by omega) (by have := HA.out; simp; omega) ?_)
              intro v9 W7 o9 g9 n9
              have HO7 : Hid (OwnTh W7 w.heap.size v9 (ts ++ [(t4, t5, t6)])) := ownTh_snoc rfl o9
              have hkk : ∀ j, Value.ownBlock (.slice va ts.length vc) = some j → w.heap.size ≤ j := fun j hj => (World.ownsRow.lt HO.out j hj).1
              have HR7 := Hid.of ((HR.out.below HV.out).grown g9 (fun j hj => Nat.lt_of_lt_of_le hrb (hkk j hj)))
              have HB7 := Hid.of ((HB.out.trans (But.of HV.out (Nat.le_trans (Nat.le_of_lt hrb) HA.out))).grown g9 hkk (Nat.le_of_lt hrb))
              obtain ⟨va2, vc2, hv2, -, -, -⟩ := own_form2 HO7.out
              have hl2 : (ts ++ [(t4, t5, t6)]).length = ts.length + 1 := by simp
              rw [hl2] at hv2
              subst hv2
              clear o9 g9 n9 hkk HO HB HR HA HV
              go_wp2_with fail
              refine (the_any [44] W7).mono ?_
              rintro e W8 ⟨rfl, rfl⟩
              go_wp2_with fail
              have hal : Below W7.heap.size W7 (W7.alloc (.cells #[strV [44]] 9)) := (Below.refl _ _).alloc (Nat.le_refl _) _
              have HP1 : Hid ((W7.alloc (.cells #[strV [44]] 9)).cell? ⟨W7.heap.size, 0, none⟩ = some (strV [44])) := (Blk.new W7 9 #[strV [44]]).cell 0 rfl
              have HNE : Hid (W7.heap.size ≠ rb) := fun e => by have := HR7.out.k.lt; omega
              have hbc := But.of (rb := rb) hal (Nat.le_of_lt HR7.out.k.lt)
              replace HO7 := Hid.of (ownTk_but HO7.out hbc hrb)
              replace HB7 := Hid.of (HB7.out.trans hbc)
              replace HR7 := Hid.of (HR7.out.below hal)
              clear hal hbc
              revert HP1 HNE HO7 HB7 HR7
              show Hid ((W7.alloc (.cells #[strV [44]] 9)).cell? ⟨W7.heap.size, 0, none⟩ = some (strV [44])) → _
              generalize W7.alloc (.cells #[strV [44]] 9) = W9
              generalize W7.heap.size = p5
              intro HP1 HNE HO7 HB7 HR7
              refine (skip_the [44] p5 rb c6 en a6 r6 W9 HP1 HNE.out HR7).mono ?_
              intro e W10 hq6
              obtain ⟨hb, hq6⟩ := skip_cases hq6
              replace HB7 := Hid.of (HB7.out.trans hb)
              replace HO7 := Hid.of (ownTk_but HO7.out hb hrb)
              clear hb HP1 HNE HR7
              rcases hq6 with ⟨k1, rfl, a7, c7, k2⟩ | ⟨t7, r7, a7, c7, rfl, k1, rfl, k2⟩
              · have HN7 : Hid (rdArrB r = thrApp (ts ++ [(t4, t5, t6)]) (thrM false r6)) := by
                  show _ = _
                  rw [HN.out, threes_last HW4.out HW5.out HW6.out k1]
                  simp [thrApp, thrM]
                have HR7 := Hid.of k2
                clear k1 k2 HN
                go_wp2_with fail
                go_roundg (r6.length + 1)
                case measure => omega
                case rel => exact ⟨ts ++ [(t4, t5, t6)], r6, a7, c7, false, rfl, rfl, by rw [hl2]; omega, HO7, HR7, HB7, HN7⟩
              · have HN7 : Hid (rdArrB r = thrApp (ts ++ [(t4, t5, t6)]) (thrM true r7)) := by
                  show _ = _
                  rw [HN.out, threes_more HW4.out HW5.out HW6.out k1, thrApp_app]
                  rfl
                have HR7 := Hid.of k2
                rw [List.length_cons] at hsum hg
                clear k1 k2 HN
                go_wp2_with fail
                go_roundg (r7.length + 1)
                case measure => omega
                case rel => exact ⟨ts ++ [(t4, t5, t6)], r7, a7, c7, true, rfl, rfl, by rw [hl2]; omega, HO7, HR7, HB7, HN7⟩
      | false =>
        have HE2 : Hid (rdArrB r = .ok (ts, l')) := by
          show _ = _
          rw [HN.out]
          simp [thrApp, thrM]
        clear HN
        go_wp2_with fail
        refine (the_any [59] wr).mono ?_
        rintro e W4 ⟨rfl, rfl⟩
        go_wp2_with fail
        have hal : Below wr.heap.size wr (wr.alloc (.cells #[strV [59]] 9)) := (Below.refl _ _).alloc (Nat.le_refl _) _
        have HP1 : Hid ((wr.alloc (.cells #[strV [59]] 9)).cell? ⟨wr.heap.size, 0, none⟩ = some (strV [59])) := (Blk.new wr 9 #[strV [59]]).cell 0 rfl
        have hbc := But.of (rb := rb) hal (Nat.le_of_lt HR.out.k.lt)
        replace HO := Hid.of (ownTk_but HO.out hbc hrb)
        replace HB := Hid.of (HB.out.trans hbc)
        replace HR := Hid.of (HR.out.below hal)
        clear hal hbc
        revert HP1 HO HB HR
        show Hid ((wr.alloc (.cells #[strV [59]] 9)).cell? ⟨wr.heap.size, 0, none⟩ = some (strV [59])) → _
        generalize wr.alloc (.cells #[strV [59]] 9) = W5
        generalize wr.heap.size = p5
        intro HP1 HO HB HR
        refine (take_the [59] p5 rb c' en a' l' W5 HP1 HR).mono ?_
        intro e W6 hq6
        obtain ⟨hb, hq6⟩ := take_the_cases hq6
        replace HB := Hid.of (HB.out.trans hb)
        replace HO := Hid.of (ownTk_but HO.out hb hrb)
        clear hb HP1 HR
        rcases hq6 with ⟨k1, rfl⟩ | ⟨t3, r3, a3, c3, rfl, k1, rfl, k2⟩
        · have HE3 : Hid (rdEnd ts l' = .error l') := by
            show _ = _
            cases l' with
            | nil => rfl
            | cons t r => exact if_neg (k1 t r rfl)
          clear k1
          go_wp2_with fail
          exact ⟨rfl, HB.out, by rw [HE.out, HE2.out, show rdArrE (.ok (ts, l')) = rdEnd ts l' from rfl, HE3.out]⟩
        · have HE3 : Hid (rdEnd ts (t3 :: r3) = .ok (ts, r3)) := if_pos k1
          have HR6 := Hid.of k2
          clear k1 k2
          go_wp2_with fail
          refine bodyPost_ret (v := .slice va ts.length vc) (by simp [results, go_sem]) rfl ⟨HB.out, ?_⟩
          rw [HE.out, HE2.out, show rdArrE (.ok (ts, t3 :: r3)) = rdEnd ts (t3 :: r3) from rfl, HE3.out]
          exact ⟨_, rfl, HO.out, a3, c3, HR6.out⟩

end Go.Proofs.Ytbgiliophmofgaa
namespace Go.Proofs.Ytbgiliophmofgaa
open Go.RowKit
set_option linter.unusedVariables false

def rdFrom (k n : Nat) (pre : List (List Tok)) (l : List Tok) : Except (List Tok) (List (List Tok) × List Thr) := match rdParts k n l with
  | .error e => .error e
  | .ok (P, r) => rdLast (pre ++ P) (rdArrs r)
theorem rdFrom_all (l : List Tok) : rdAll l = rdFrom 0 8 [] l := by
  unfold rdAll rdFrom
  cases rdParts 0 8 l with
  | error e => rfl
  | ok x => rfl
theorem rdFrom_err {k n : Nat} {pre : List (List Tok)} {l e : List Tok} (h : rdPart (partsW[k]?.getD []) (if k = 0 then 1 else 0) l = .error e) : rdFrom k (n + 1) pre l = .error e := by
  unfold rdFrom rdParts
  rw [h]
theorem rdFrom_ok {k n : Nat} {pre : List (List Tok)} {l r ns : List Tok} (h : rdPart (partsW[k]?.getD []) (if k = 0 then 1 else 0) l = .ok (ns, r)) : rdFrom k (n + 1) pre l = rdFrom (k + 1) n (pre ++ [ns]) r := by
  unfold rdFrom
  rw [rdParts, h]
  dsimp only
  cases rdParts (k + 1) n r with
  | error e => rfl
  | ok x => simp
theorem rdFrom_last (pre : List (List Tok)) (l : List Tok) : rdFrom 8 0 pre l = rdLast pre (rdArrs l) := by
  unfold rdFrom rdParts
  simp
theorem rdEnd_len {α : Type} {x y : α} {l r : List Tok} (h : rdEnd x l = .ok (y, r)) : r.length ≤ l.length ∧ y = x := by
  unfold rdEnd at h
  cases l with
  | nil => cases h
  | cons s q =>
    dsimp only at h
    by_cases hs : s.text = [59]
    · rw [if_pos hs] at h; cases h; exact ⟨by simp, rfl⟩
    · rw [if_neg hs] at h; cases h
theorem rdPart_len {u : Str} {least : Nat} {l ns r : List Tok} (h : rdPart u least l = .ok (ns, r)) : r.length ≤ l.length ∧ ns.length ≤ l.length := by
  unfold rdPart at h
  cases l with
  | nil => cases h
  | cons t q =>
    dsimp only at h
    by_cases ht : t.text = u
    · rw [if_pos ht] at h
      unfold rdNames at h
      by_cases hc : (nameW q).length < least
      · rw [if_pos hc] at h; cases h
      · rw [if_neg hc] at h
        obtain ⟨h1, h2⟩ := rdEnd_len h
        have := congrArg List.length (nameW_rest q)
        rw [List.length_append] at this
        subst h2
        simp only [List.length_cons]
        omega
    · rw [if_neg ht] at h; cases h
theorem rdThrees_len : ∀ (l : List Tok) (ts : List Thr) (r : List Tok), rdThrees l = .ok (ts, r) → ts.length ≤ l.length ∧ r.length ≤ l.length
  | [], ts, r, h => by rw [rdThrees] at h; cases h
  | [a], ts, r, h => by
    by_cases ha : a.word = true
    · rw [threes_two ha rfl] at h; cases h
    · rw [threes_word (l := [a]) (by simpa [cmF] using ha)] at h; cases h
  | [a, b], ts, r, h => by
    by_cases ha : a.word = true
    · by_cases hb : b.word = true
      · rw [threes_three ha hb rfl] at h; cases h
      · rw [threes_two ha (by simpa [cmF] using hb)] at h; cases h
    · rw [threes_word (l := [a, b]) (by simpa [cmF] using ha)] at h; cases h
  | a :: b :: c :: l, ts, r, h => by
    by_cases ha : a.word = true
    · by_cases hb : b.word = true
      · by_cases hc : c.word = true
        · cases l with
          | nil =>
            rw [threes_last ha hb hc (fun t r e => by cases e)] at h
            cases h
            exact ⟨by simp, by simp⟩
          | cons d l =>
            by_cases hd : d.text = [44]
            · rw [threes_more ha hb hc hd] at h
              cases hq : rdThrees l with
              | error e => rw [hq] at h; cases h
              | ok x =>
                obtain ⟨u, q⟩ := x
                rw [hq] at h
                have h : Except.ok ([(a, b, c)] ++ u, q) = Except.ok (ts, r) := h
                have ih := rdThrees_len l u q hq
                cases h
                simp only [List.length_append, List.length_cons, List.length_nil]
                omega
            · rw [threes_last ha hb hc (fun t r e => by cases e; exact hd)] at h
              cases h
              exact ⟨by simp, by simp only [List.length_cons]; omega⟩
        · rw [threes_three ha hb (by simpa [cmF] using hc)] at h; cases h
      · rw [threes_two ha (by simpa [cmF] using hb)] at h; cases h
    · rw [threes_word (by simpa [cmF] using ha)] at h; cases h
theorem rdArrs_len {l r : List Tok} {ts : List Thr} (h : rdArrs l = .ok (ts, r)) : ts.length ≤ l.length := by
  unfold rdArrs at h
  cases l with
  | nil => cases h
  | cons t q =>
    dsimp only at h
    by_cases ht : t.text = partsW[8]?.getD []
    · rw [if_pos ht] at h
      unfold rdArrB at h
      by_cases hw : headW q = true
      · rw [if_pos hw] at h
        cases hq : rdThrees q with
        | error e => rw [hq] at h; cases h
        | ok x =>
          obtain ⟨u, z⟩ := x
          rw [hq] at h
          have h : rdEnd u z = .ok (ts, r) := h
          obtain ⟨-, h2⟩ := rdEnd_len h
          subst h2
          have := (rdThrees_len q ts z hq).1
          simp only [List.length_cons]; omega
      · rw [if_neg hw] at h
        have h : rdEnd [] q = .ok (ts, r) := h
        obtain ⟨-, h2⟩ := rdEnd_len h
        subst h2
        simp
    · rw [if_neg ht] at h; cases h
/-- What parts knows of the memory. -/
structure PP (w W : World) (rb : Nat) (cs : Array Value) (P : List (Value × List Tok)) (l : List Tok) (en : Nat) : Prop where
  but : But rb w W
  k2 : Blk W w.heap.size 48 #[.slice none 0 0, .slice none 0 0, .slice none 0 0, .slice none 0 0, .slice none 0 0, .slice none 0 0, .slice none 0 0, .slice none 0 0, .slice none 0 0]
  k3 : Blk W (w.heap.size + 1) 48 cs
  o : ∀ x ∈ P, OwnTk W w.heap.size x.1 x.2
  r : ∃ a c, RdAt W rb a c l en
theorem But.other {rb b : Nat} {w W : World} (h : But rb w W) (hb : w.heap.size ≤ b) (hr : rb < b) (j : Nat) (v : Value) : But rb w (W.setCell ⟨b, j, none⟩ v) :=
  ⟨h.b.setCell (p := ⟨b, j, none⟩) (Nat.le_of_lt hr) v, by simpa [World.setCell] using h.s, fun q h1 h2 => (Below.heap_setCell _ _ _ _ (show q ≠ b by omega)).trans (h.o q h1 h2)⟩
theorem RdAt.other {W : World} {rb c en b : Nat} {a : Option Addr} {l : List Tok} (h : RdAt W rb a c l en) (hb : rb < b) (j : Nat) (v : Value) : RdAt (W.setCell ⟨b, j, none⟩ v) rb a c l en :=
  ⟨h.k.other (by omega) v, h.l.keep (fun q hq => Below.heap_setCell _ _ _ _ (show q ≠ b by omega))⟩
theorem PP.step {w W W' : World} {rb en j : Nat} {cs : Array Value} {P : List (Value × List Tok)} {l r ns : List Tok} {v : Value} (h : PP w W rb cs P l en) (hrb : rb < w.heap.size) (hb : But rb W W') (ho : OwnTk W' W.heap.size v ns) (hr : ∃ a c, RdAt W' rb a c r en) : PP w (W'.setCell ⟨w.heap.size + 1, j, none⟩ v) rb (cs.setIfInBounds j v) (P ++ [(v, ns)]) r en := by
  have k3 : Blk W' (w.heap.size + 1) 48 cs := hb.blk h.k3 (by omega)
  have own : ∀ {B s n : Nat} {e : TypeId} {v' : Value} {xs : List Value}, 48 ≠ e → W'.ownsRow B e s v' n xs → (W'.setCell ⟨w.heap.size + 1, j, none⟩ v).ownsRow B e s v' n xs := fun he ho => own_same ho (fun k hk => Below.heap_setCell _ _ _ _ (show k ≠ w.heap.size + 1 from fun e => own_blk ho (show W'.heap[w.heap.size + 1]? = _ from k3) he (by rw [hk, e])))
  refine ⟨(h.but.trans hb).other (by omega) (by omega) j v, (hb.blk h.k2 (by omega)).other (by omega) v, k3.set j v, fun x hx => ?_, ?_⟩
  · rcases List.mem_append.1 hx with hx | hx
    · exact own (by decide) (ownTk_but (h.o x hx) hb hrb)
    · have : x = (v, ns) := by simpa using hx
      subst this
      exact own (by decide) (own_low16 ho h.but.s)
  · obtain ⟨a, c, hr⟩ := hr
    exact ⟨a, c, hr.other (by omega) j v⟩
/-- Nine cells are stored. -/
abbrev set9 (Z : World) (g : Nat) (v0 v1 v2 v3 v4 v5 v6 v7 v8 : Value) : World := ((((((((Z.setCell ⟨g, 0, none⟩ v0).setCell ⟨g, 1, none⟩ v1).setCell ⟨g, 2, none⟩ v2).setCell ⟨g, 3, none⟩ v3).setCell ⟨g, 4, none⟩ v4).setCell ⟨g, 5, none⟩ v5).setCell ⟨g, 6, none⟩ v6).setCell ⟨g, 7, none⟩ v7).setCell ⟨g, 8, none⟩ v8
theorem set9_heap {Z : World} {g : Nat} (v0 v1 v2 v3 v4 v5 v6 v7 v8 : Value) {q : Nat} (h : q ≠ g) : (set9 Z g v0 v1 v2 v3 v4 v5 v6 v7 v8).heap[q]? = Z.heap[q]? := by
  simp only [set9]
  rw [Below.heap_setCell _ _ _ _ (show q ≠ g from h), Below.heap_setCell _ _ _ _ (show q ≠ g from h), Below.heap_setCell _ _ _ _ (show q ≠ g from h), Below.heap_setCell _ _ _ _ (show q ≠ g from h), Below.heap_setCell _ _ _ _ (show q ≠ g from h), Below.heap_setCell _ _ _ _ (show q ≠ g from h), Below.heap_setCell _ _ _ _ (show q ≠ g from h), Below.heap_setCell _ _ _ _ (show q ≠ g from h), Below.heap_setCell _ _ _ _ (show q ≠ g from h)]
theorem set9_blk {Z : World} {g : Nat} {t : TypeId} (v0 v1 v2 v3 v4 v5 v6 v7 v8 u0 u1 u2 u3 u4 u5 u6 u7 u8 : Value) (h : Blk Z g t #[u0, u1, u2, u3, u4, u5, u6, u7, u8]) : Blk (set9 Z g v0 v1 v2 v3 v4 v5 v6 v7 v8) g t #[v0, v1, v2, v3, v4, v5, v6, v7, v8] := by
  have h := ((((((((h.set 0 v0).set 1 v1).set 2 v2).set 3 v3).set 4 v4).set 5 v5).set 6 v6).set 7 v7).set 8 v8
  simp only [List.setIfInBounds_toArray, List.set_cons_zero, List.set_cons_succ] at h
  exact h
theorem set9_but {rb g : Nat} {w Z : World} (v0 v1 v2 v3 v4 v5 v6 v7 v8 : Value) (h : But rb w Z) (hb : w.heap.size ≤ g) (hr : rb < g) : But rb w (set9 Z g v0 v1 v2 v3 v4 v5 v6 v7 v8) :=
  ((((((((h.other hb hr 0 v0).other hb hr 1 v1).other hb hr 2 v2).other hb hr 3 v3).other hb hr 4 v4).other hb hr 5 v5).other hb hr 6 v6).other hb hr 7 v7).other hb hr 8 v8
theorem blk9 {W : World} {b : Nat} {t : TypeId} {a0 a1 a2 a3 a4 a5 a6 a7 a8 : Value} (h : Blk W b t #[a0, a1, a2, a3, a4, a5, a6, a7, a8]) : W.cell? ⟨b, 0, none⟩ = some a0 ∧ W.cell? ⟨b, 1, none⟩ = some a1 ∧ W.cell? ⟨b, 2, none⟩ = some a2 ∧ W.cell? ⟨b, 3, none⟩ = some a3 ∧ W.cell? ⟨b, 4, none⟩ = some a4 ∧ W.cell? ⟨b, 5, none⟩ = some a5 ∧ W.cell? ⟨b, 6, none⟩ = some a6 ∧ W.cell? ⟨b, 7, none⟩ = some a7 ∧ W.cell? ⟨b, 8, none⟩ = some a8 := ⟨h.cell 0 rfl, h.cell 1 rfl, h.cell 2 rfl, h.cell 3 rfl, h.cell 4 rfl, h.cell 5 rfl, h.cell 6 rfl, h.cell 7 rfl, h.cell 8 rfl⟩
set_option maxRecDepth 100000 in
set_option maxHeartbeats 4000000 in
theorem results_parts {fn : Func} {p : Tmp} (h : fn.results = #[.cell p 48]) (tmps : Array Value) (w : World) (g : Nat) (q0 q1 q2 q3 q4 q5 q6 q7 q8 : Option Addr) (n0 n1 n2 n3 n4 n5 n6 n7 n8 c0 c1 c2 c3 c4 c5 c6 c7 c8 : Nat) (hp : tmps.getD p undef = .pointer (some ⟨g, 0, none⟩)) (hB : Blk w g 48 #[.slice q0 n0 c0, .slice q1 n1 c1, .slice q2 n2 c2, .slice q3 n3 c3, .slice q4 n4 c4, .slice q5 n5 c5, .slice q6 n6 c6, .slice q7 n7 c7, .slice q8 n8 c8]) :
    (results fn tmps).run Try.prog w = .ok (.agg #[.slice q0 n0 c0, .slice q1 n1 c1, .slice q2 n2 c2, .slice q3 n3 c3, .slice q4 n4 c4, .slice q5 n5 c5, .slice q6 n6 c6, .slice q7 n7 c7, .slice q8 n8 c8]) w := by
  obtain ⟨x0, x1, x2, x3, x4, x5, x6, x7, x8⟩ := blk9 hB
  have e : (results fn tmps).run Try.prog w = ((asAddr (tmps.getD p undef)).run Try.prog w).andThen fun a w₁ => (loadVar 48 a).run Try.prog w₁ := by
    simp only [results, h]
    simp [Sem.run_bind, Result.andThen]
  rw [e, hp]
  go_simp
/-- What parts leaves. -/
def PartsPost (x : Except (List Tok) (List (List Tok) × List Thr)) (rb en : Nat) (w : World) (e : Ending) (w' : World) : Prop := But rb w w' ∧ match x with
  | .error el => e = Pn 2 (posE en el : Int)
  | .ok (P, ts) => ∃ v0 v1 v2 v3 v4 v5 v6 v7 v8 p0 p1 p2 p3 p4 p5 p6 p7, P = [p0, p1, p2, p3, p4, p5, p6, p7] ∧ e = .returned (.agg #[v0, v1, v2, v3, v4, v5, v6, v7, v8]) ∧ (∀ x ∈ [(v0, p0), (v1, p1), (v2, p2), (v3, p3), (v4, p4), (v5, p5), (v6, p6), (v7, p7)], OwnTk w' w.heap.size x.1 x.2 ∧ x.2.length ≤ 4000) ∧ OwnTh w' w.heap.size v8 ts ∧ ts.length ≤ 4000

set_option maxRecDepth 100000 in
set_option maxHeartbeats 16000000 in
theorem parts_any2 (rb c en : Nat) (a : Option Addr) (l : List Tok) (w : World) (hl0 : l.length ≤ 4000) (h0 : Hid (RdAt w rb a c l en)) :
    Calls Try.prog 20 #[.pointer (some ⟨rb, 0, none⟩)] w fun e w' => PartsPost (rdAll l) rb en w e w' := by
  have hrb := h0.out.k.lt
  have HE0 : Hid (rdAll l = rdFrom 0 8 [] l) := rdFrom_all l
  have hal : Below w.heap.size w ((w.alloc (.cells #[.slice none 0 0, .slice none 0 0, .slice none 0 0, .slice none 0 0, .slice none 0 0, .slice none 0 0, .slice none 0 0, .slice none 0 0, .slice none 0 0] 48)).alloc (.cells #[.slice none 0 0, .slice none 0 0, .slice none 0 0, .slice none 0 0, .slice none 0 0, .slice none 0 0, .slice none 0 0, .slice none 0 0, .slice none 0 0] 48)) := ((Below.refl _ _).alloc (Nat.le_refl _) _).alloc (by simp) _
  have HP0 : Hid (PP w ((w.alloc (.cells #[.slice none 0 0, .slice none 0 0, .slice none 0 0, .slice none 0 0, .slice none 0 0, .slice none 0 0, .slice none 0 0, .slice none 0 0, .slice none 0 0] 48)).alloc (.cells #[.slice none 0 0, .slice none 0 0, .slice none 0 0, .slice none 0 0, .slice none 0 0, .slice none 0 0, .slice none 0 0, .slice none 0 0, .slice none 0 0] 48)) rb #[.slice none 0 0, .slice none 0 0, .slice none 0 0, .slice none 0 0, .slice none 0 0, .slice none 0 0, .slice none 0 0, .slice none 0 0, .slice none 0 0] [] l en) := ⟨But.of hal (Nat.le_of_lt hrb), (Blk.new w _ _).alloc _, by
    have := Blk.new (w.alloc (.cells #[.slice none 0 0, .slice none 0 0, .slice none 0 0, .slice none 0 0, .slice none 0 0, .slice none 0 0, .slice none 0 0, .slice none 0 0, .slice none 0 0] 48)) 48 #[.slice none 0 0, .slice none 0 0, .slice none 0 0, .slice none 0 0, .slice none 0 0, .slice none 0 0, .slice none 0 0, .slice none 0 0, .slice none 0 0]
    rwa [World.size_alloc] at this, (fun x hx => absurd hx (by simp)), a, c, h0.out.below hal⟩
  clear hal
  go_enter Try.func20, Try.ntmps20
  go_wp2_with fail
  revert HP0
  generalize ((w.alloc (.cells #[.slice none 0 0, .slice none 0 0, .slice none 0 0, .slice none 0 0, .slice none 0 0, .slice none 0 0, .slice none 0 0, .slice none 0 0, .slice none 0 0] 48)).alloc (.cells #[.slice none 0 0, .slice none 0 0, .slice none 0 0, .slice none 0 0, .slice none 0 0, .slice none 0 0, .slice none 0 0, .slice none 0 0, .slice none 0 0] 48)) = V0
  intro HP0
  obtain ⟨a0, c0, hr0⟩ := HP0.out.r
  refine (part_any [115, 116, 97, 116, 101, 115] 1 rb c0 en a0 l V0 hl0 (by omega) hr0).mono ?_
  intro e U0 hq
  obtain ⟨hb, hq⟩ := hq
  clear hr0
  cases hx : rdPart [115, 116, 97, 116, 101, 115] 1 l with
  | error el =>
    rw [hx] at hq
    dsimp only at hq
    subst hq
    have HX : Hid (rdAll l = .error el) := HE0.out.trans (rdFrom_err hx)
    have HBX := Hid.of (HP0.out.but.trans hb)
    clear hx hb
    go_wp2_with fail
    refine ⟨rfl, HBX.out, ?_⟩
    rw [HX.out]
  | ok y =>
    obtain ⟨p0, l1⟩ := y
    rw [hx] at hq
    dsimp only at hq
    obtain ⟨v0, rfl, ho, hr⟩ := hq
    have HE1 : Hid (rdAll l = rdFrom 1 7 [p0] l1) := HE0.out.trans (rdFrom_ok hx)
    have hl1 : l1.length ≤ 4000 := by have := (rdPart_len hx).1; omega
    have hp0 : p0.length ≤ 4000 := by have := (rdPart_len hx).2; omega
    have k3 : Blk U0 (w.heap.size + 1) 48 #[.slice none 0 0, .slice none 0 0, .slice none 0 0, .slice none 0 0, .slice none 0 0, .slice none 0 0, .slice none 0 0, .slice none 0 0, .slice none 0 0] := hb.blk HP0.out.k3 (by omega)
    have z0 := k3.cell 0 rfl
    have zf := k3.frozen
    have HP1 : Hid (PP w (U0.setCell ⟨w.heap.size + 1, 0, none⟩ v0) rb #[v0, .slice none 0 0, .slice none 0 0, .slice none 0 0, .slice none 0 0, .slice none 0 0, .slice none 0 0, .slice none 0 0, .slice none 0 0] [(v0, p0)] l1 en) := PP.step HP0.out hrb hb ho hr
    obtain ⟨b0, d0, hv0, -, -, -⟩ := own_form2 ho
    subst hv0
    clear hx hb ho hr k3 HE0 HP0
    go_wp2_with fail
    clear z0 zf
    revert HP1
    generalize U0.setCell ⟨w.heap.size + 1, 0, none⟩ (.slice b0 p0.length d0) = V1
    intro HP1
    obtain ⟨a1, c1, hr1⟩ := HP1.out.r
    refine (part_any [101, 118, 101, 110, 116, 115] 0 rb c1 en a1 l1 V1 hl1 (by omega) hr1).mono ?_
    intro e U1 hq
    obtain ⟨hb, hq⟩ := hq
    clear hr1
    cases hx : rdPart [101, 118, 101, 110, 116, 115] 0 l1 with
    | error el =>
      rw [hx] at hq
      dsimp only at hq
      subst hq
      have HX : Hid (rdAll l = .error el) := HE1.out.trans (rdFrom_err hx)
      have HBX := Hid.of (HP1.out.but.trans hb)
      clear hx hb
      go_wp2_with fail
      refine ⟨rfl, HBX.out, ?_⟩
      rw [HX.out]
    | ok y =>
      obtain ⟨p1, l2⟩ := y
      rw [hx] at hq
      dsimp only at hq
      obtain ⟨v1, rfl, ho, hr⟩ := hq
      have HE2 : Hid (rdAll l = rdFrom 2 6 [p0, p1] l2) := HE1.out.trans (rdFrom_ok hx)
      have hl2 : l2.length ≤ 4000 := by have := (rdPart_len hx).1; omega
      have hp1 : p1.length ≤ 4000 := by have := (rdPart_len hx).2; omega
      have k3 : Blk U1 (w.heap.size + 1) 48 #[.slice b0 p0.length d0, .slice none 0 0, .slice none 0 0, .slice none 0 0, .slice none 0 0, .slice none 0 0, .slice none 0 0, .slice none 0 0, .slice none 0 0] := hb.blk HP1.out.k3 (by omega)
      have z0 := k3.cell 1 rfl
      have zf := k3.frozen
      have HP2 : Hid (PP w (U1.setCell ⟨w.heap.size + 1, 1, none⟩ v1) rb #[.slice b0 p0.length d0, v1, .slice none 0 0, .slice none 0 0, .slice none 0 0, .slice none 0 0, .slice none 0 0, .slice none 0 0, .slice none 0 0] [(.slice b0 p0.length d0, p0), (v1, p1)] l2 en) := PP.step HP1.out hrb hb ho hr
      obtain ⟨b1, d1, hv1, -, -, -⟩ := own_form2 ho
      subst hv1
      clear hx hb ho hr k3 HE1 HP1
      go_wp2_with fail
      clear z0 zf
      revert HP2
      generalize U1.setCell ⟨w.heap.size + 1, 1, none⟩ (.slice b1 p1.length d1) = V2
      intro HP2
      obtain ⟨a2, c2, hr2⟩ := HP2.out.r
      refine (part_any [115, 101, 101, 110] 0 rb c2 en a2 l2 V2 hl2 (by omega) hr2).mono ?_
      intro e U2 hq
      obtain ⟨hb, hq⟩ := hq
      clear hr2
      cases hx : rdPart [115, 101, 101, 110] 0 l2 with
      | error el =>
        rw [hx] at hq
        dsimp only at hq
        subst hq
        have HX : Hid (rdAll l = .error el) := HE2.out.trans (rdFrom_err hx)
        have HBX := Hid.of (HP2.out.but.trans hb)
        clear hx hb
        go_wp2_with fail
        refine ⟨rfl, HBX.out, ?_⟩
        rw [HX.out]
      | ok y =>
        obtain ⟨p2, l3⟩ := y
        rw [hx] at hq
        dsimp only at hq
        obtain ⟨v2, rfl, ho, hr⟩ := hq
        have HE3 : Hid (rdAll l = rdFrom 3 5 [p0, p1, p2] l3) := HE2.out.trans (rdFrom_ok hx)
        have hl3 : l3.length ≤ 4000 := by have := (rdPart_len hx).1; omega
        have hp2 : p2.length ≤ 4000 := by have := (rdPart_len hx).2; omega
        have k3 : Blk U2 (w.heap.size + 1) 48 #[.slice b0 p0.length d0, .slice b1 p1.length d1, .slice none 0 0, .slice none 0 0, .slice none 0 0, .slice none 0 0, .slice none 0 0, .slice none 0 0, .slice none 0 0] := hb.blk HP2.out.k3 (by omega)
        have z0 := k3.cell 2 rfl
        have zf := k3.frozen
        have HP3 : Hid (PP w (U2.setCell ⟨w.heap.size + 1, 2, none⟩ v2) rb #[.slice b0 p0.length d0, .slice b1 p1.length d1, v2, .slice none 0 0, .slice none 0 0, .slice none 0 0, .slice none 0 0, .slice none 0 0, .slice none 0 0] [(.slice b0 p0.length d0, p0), (.slice b1 p1.length d1, p1), (v2, p2)] l3 en) := PP.step HP2.out hrb hb ho hr
        obtain ⟨b2, d2, hv2, -, -, -⟩ := own_form2 ho
        subst hv2
        clear hx hb ho hr k3 HE2 HP2
        go_wp2_with fail
        clear z0 zf
        revert HP3
        generalize U2.setCell ⟨w.heap.size + 1, 2, none⟩ (.slice b2 p2.length d2) = V3
        intro HP3
        obtain ⟨a3, c3, hr3⟩ := HP3.out.r
        refine (part_any [102, 114, 101, 101] 0 rb c3 en a3 l3 V3 hl3 (by omega) hr3).mono ?_
        intro e U3 hq
        obtain ⟨hb, hq⟩ := hq
        clear hr3
        cases hx : rdPart [102, 114, 101, 101] 0 l3 with
        | error el =>
          rw [hx] at hq
          dsimp only at hq
          subst hq
          have HX : Hid (rdAll l = .error el) := HE3.out.trans (rdFrom_err hx)
          have HBX := Hid.of (HP3.out.but.trans hb)
          clear hx hb
          go_wp2_with fail
          refine ⟨rfl, HBX.out, ?_⟩
          rw [HX.out]
        | ok y =>
          obtain ⟨p3, l4⟩ := y
          rw [hx] at hq
          dsimp only at hq
          obtain ⟨v3, rfl, ho, hr⟩ := hq
          have HE4 : Hid (rdAll l = rdFrom 4 4 [p0, p1, p2, p3] l4) := HE3.out.trans (rdFrom_ok hx)
          have hl4 : l4.length ≤ 4000 := by have := (rdPart_len hx).1; omega
          have hp3 : p3.length ≤ 4000 := by have := (rdPart_len hx).2; omega
          have k3 : Blk U3 (w.heap.size + 1) 48 #[.slice b0 p0.length d0, .slice b1 p1.length d1, .slice b2 p2.length d2, .slice none 0 0, .slice none 0 0, .slice none 0 0, .slice none 0 0, .slice none 0 0, .slice none 0 0] := hb.blk HP3.out.k3 (by omega)
          have z0 := k3.cell 3 rfl
          have zf := k3.frozen
          have HP4 : Hid (PP w (U3.setCell ⟨w.heap.size + 1, 3, none⟩ v3) rb #[.slice b0 p0.length d0, .slice b1 p1.length d1, .slice b2 p2.length d2, v3, .slice none 0 0, .slice none 0 0, .slice none 0 0, .slice none 0 0, .slice none 0 0] [(.slice b0 p0.length d0, p0), (.slice b1 p1.length d1, p1), (.slice b2 p2.length d2, p2), (v3, p3)] l4 en) := PP.step HP3.out hrb hb ho hr
          obtain ⟨b3, d3, hv3, -, -, -⟩ := own_form2 ho
          subst hv3
          clear hx hb ho hr k3 HE3 HP3
          go_wp2_with fail
          clear z0 zf
          revert HP4
          generalize U3.setCell ⟨w.heap.size + 1, 3, none⟩ (.slice b3 p3.length d3) = V4
          intro HP4
          obtain ⟨a4, c4, hr4⟩ := HP4.out.r
          refine (part_any [102, 97, 117, 108, 116, 115] 0 rb c4 en a4 l4 V4 hl4 (by omega) hr4).mono ?_
          intro e U4 hq
          obtain ⟨hb, hq⟩ := hq
          clear hr4
          cases hx : rdPart [102, 97, 117, 108, 116, 115] 0 l4 with
          | error el =>
            rw [hx] at hq
            dsimp only at hq
            subst hq
            have HX : Hid (rdAll l = .error el) := HE4.out.trans (rdFrom_err hx)
            have HBX := Hid.of (HP4.out.but.trans hb)
            clear hx hb
            go_wp2_with fail
            refine ⟨rfl, HBX.out, ?_⟩
            rw [HX.out]
          | ok y =>
            obtain ⟨p4, l5⟩ := y
            rw [hx] at hq
            dsimp only at hq
            obtain ⟨v4, rfl, ho, hr⟩ := hq
            have HE5 : Hid (rdAll l = rdFrom 5 3 [p0, p1, p2, p3, p4] l5) := HE4.out.trans (rdFrom_ok hx)
            have hl5 : l5.length ≤ 4000 := by have := (rdPart_len hx).1; omega
            have hp4 : p4.length ≤ 4000 := by have := (rdPart_len hx).2; omega
            have k3 : Blk U4 (w.heap.size + 1) 48 #[.slice b0 p0.length d0, .slice b1 p1.length d1, .slice b2 p2.length d2, .slice b3 p3.length d3, .slice none 0 0, .slice none 0 0, .slice none 0 0, .slice none 0 0, .slice none 0 0] := hb.blk HP4.out.k3 (by omega)
            have z0 := k3.cell 4 rfl
            have zf := k3.frozen
            have HP5 : Hid (PP w (U4.setCell ⟨w.heap.size + 1, 4, none⟩ v4) rb #[.slice b0 p0.length d0, .slice b1 p1.length d1, .slice b2 p2.length d2, .slice b3 p3.length d3, v4, .slice none 0 0, .slice none 0 0, .slice none 0 0, .slice none 0 0] [(.slice b0 p0.length d0, p0), (.slice b1 p1.length d1, p1), (.slice b2 p2.length d2, p2), (.slice b3 p3.length d3, p3), (v4, p4)] l5 en) := PP.step HP4.out hrb hb ho hr
            obtain ⟨b4, d4, hv4, -, -, -⟩ := own_form2 ho
            subst hv4
            clear hx hb ho hr k3 HE4 HP4
            go_wp2_with fail
            clear z0 zf
            revert HP5
            generalize U4.setCell ⟨w.heap.size + 1, 4, none⟩ (.slice b4 p4.length d4) = V5
            intro HP5
            obtain ⟨a5, c5, hr5⟩ := HP5.out.r
            refine (part_any [115, 101, 99, 114, 101, 116] 0 rb c5 en a5 l5 V5 hl5 (by omega) hr5).mono ?_
            intro e U5 hq
            obtain ⟨hb, hq⟩ := hq
            clear hr5
            cases hx : rdPart [115, 101, 99, 114, 101, 116] 0 l5 with
            | error el =>
              rw [hx] at hq
              dsimp only at hq
              subst hq
              have HX : Hid (rdAll l = .error el) := HE5.out.trans (rdFrom_err hx)
              have HBX := Hid.of (HP5.out.but.trans hb)
              clear hx hb
              go_wp2_with fail
              refine ⟨rfl, HBX.out, ?_⟩
              rw [HX.out]
            | ok y =>
              obtain ⟨p5, l6⟩ := y
              rw [hx] at hq
              dsimp only at hq
              obtain ⟨v5, rfl, ho, hr⟩ := hq
              have HE6 : Hid (rdAll l = rdFrom 6 2 [p0, p1, p2, p3, p4, p5] l6) := HE5.out.trans (rdFrom_ok hx)
              have hl6 : l6.length ≤ 4000 := by have := (rdPart_len hx).1; omega
              have hp5 : p5.length ≤ 4000 := by have := (rdPart_len hx).2; omega
              have k3 : Blk U5 (w.heap.size + 1) 48 #[.slice b0 p0.length d0, .slice b1 p1.length d1, .slice b2 p2.length d2, .slice b3 p3.length d3, .slice b4 p4.length d4, .slice none 0 0, .slice none 0 0, .slice none 0 0, .slice none 0 0] := hb.blk HP5.out.k3 (by omega)
              have z0 := k3.cell 5 rfl
              have zf := k3.frozen
              have HP6 : Hid (PP w (U5.setCell ⟨w.heap.size + 1, 5, none⟩ v5) rb #[.slice b0 p0.length d0, .slice b1 p1.length d1, .slice b2 p2.length d2, .slice b3 p3.length d3, .slice b4 p4.length d4, v5, .slice none 0 0, .slice none 0 0, .slice none 0 0] [(.slice b0 p0.length d0, p0), (.slice b1 p1.length d1, p1), (.slice b2 p2.length d2, p2), (.slice b3 p3.length d3, p3), (.slice b4 p4.length d4, p4), (v5, p5)] l6 en) := PP.step HP5.out hrb hb ho hr
              obtain ⟨b5, d5, hv5, -, -, -⟩ := own_form2 ho
              subst hv5
              clear hx hb ho hr k3 HE5 HP5
              go_wp2_with fail
              clear z0 zf
              revert HP6
              generalize U5.setCell ⟨w.heap.size + 1, 5, none⟩ (.slice b5 p5.length d5) = V6
              intro HP6
              obtain ⟨a6, c6, hr6⟩ := HP6.out.r
              refine (part_any [115, 116, 97, 114, 116, 115] 0 rb c6 en a6 l6 V6 hl6 (by omega) hr6).mono ?_
              intro e U6 hq
              obtain ⟨hb, hq⟩ := hq
              clear hr6
              cases hx : rdPart [115, 116, 97, 114, 116, 115] 0 l6 with
              | error el =>
                rw [hx] at hq
                dsimp only at hq
                subst hq
                have HX : Hid (rdAll l = .error el) := HE6.out.trans (rdFrom_err hx)
                have HBX := Hid.of (HP6.out.but.trans hb)
                clear hx hb
                go_wp2_with fail
                refine ⟨rfl, HBX.out, ?_⟩
                rw [HX.out]
              | ok y =>
                obtain ⟨p6, l7⟩ := y
                rw [hx] at hq
                dsimp only at hq
                obtain ⟨v6, rfl, ho, hr⟩ := hq
                have HE7 : Hid (rdAll l = rdFrom 7 1 [p0, p1, p2, p3, p4, p5, p6] l7) := HE6.out.trans (rdFrom_ok hx)
                have hl7 : l7.length ≤ 4000 := by have := (rdPart_len hx).1; omega
                have hp6 : p6.length ≤ 4000 := by have := (rdPart_len hx).2; omega
                have k3 : Blk U6 (w.heap.size + 1) 48 #[.slice b0 p0.length d0, .slice b1 p1.length d1, .slice b2 p2.length d2, .slice b3 p3.length d3, .slice b4 p4.length d4, .slice b5 p5.length d5, .slice none 0 0, .slice none 0 0, .slice none 0 0] := hb.blk HP6.out.k3 (by omega)
                have z0 := k3.cell 6 rfl
                have zf := k3.frozen
                have HP7 : Hid (PP w (U6.setCell ⟨w.heap.size + 1, 6, none⟩ v6) rb #[.slice b0 p0.length d0, .slice b1 p1.length d1, .slice b2 p2.length d2, .slice b3 p3.length d3, .slice b4 p4.length d4, .slice b5 p5.length d5, v6, .slice none 0 0, .slice none 0 0] [(.slice b0 p0.length d0, p0), (.slice b1 p1.length d1, p1), (.slice b2 p2.length d2, p2), (.slice b3 p3.length d3, p3), (.slice b4 p4.length d4, p4), (.slice b5 p5.length d5, p5), (v6, p6)] l7 en) := PP.step HP6.out hrb hb ho hr
                obtain ⟨b6, d6, hv6, -, -, -⟩ := own_form2 ho
                subst hv6
                clear hx hb ho hr k3 HE6 HP6
                go_wp2_with fail
                clear z0 zf
                revert HP7
                generalize U6.setCell ⟨w.heap.size + 1, 6, none⟩ (.slice b6 p6.length d6) = V7
                intro HP7
                obtain ⟨a7, c7, hr7⟩ := HP7.out.r
                refine (part_any [101, 110, 100, 115] 0 rb c7 en a7 l7 V7 hl7 (by omega) hr7).mono ?_
                intro e U7 hq
                obtain ⟨hb, hq⟩ := hq
                clear hr7
                cases hx : rdPart [101, 110, 100, 115] 0 l7 with
                | error el =>
                  rw [hx] at hq
                  dsimp only at hq
                  subst hq
                  have HX : Hid (rdAll l = .error el) := HE7.out.trans (rdFrom_err hx)
                  have HBX := Hid.of (HP7.out.but.trans hb)
                  clear hx hb
                  go_wp2_with fail
                  refine ⟨rfl, HBX.out, ?_⟩
                  rw [HX.out]
                | ok y =>
                  obtain ⟨p7, l8⟩ := y
                  rw [hx] at hq
                  dsimp only at hq
                  obtain ⟨v7, rfl, ho, hr⟩ := hq
                  have HE8 : Hid (rdAll l = rdFrom 8 0 [p0, p1, p2, p3, p4, p5, p6, p7] l8) := HE7.out.trans (rdFrom_ok hx)
                  have hl8 : l8.length ≤ 4000 := by have := (rdPart_len hx).1; omega
                  have hp7 : p7.length ≤ 4000 := by have := (rdPart_len hx).2; omega
                  have k3 : Blk U7 (w.heap.size + 1) 48 #[.slice b0 p0.length d0, .slice b1 p1.length d1, .slice b2 p2.length d2, .slice b3 p3.length d3, .slice b4 p4.length d4, .slice b5 p5.length d5, .slice b6 p6.length d6, .slice none 0 0, .slice none 0 0] := hb.blk HP7.out.k3 (by omega)
                  have z0 := k3.cell 7 rfl
                  have zf := k3.frozen
                  have HP8 : Hid (PP w (U7.setCell ⟨w.heap.size + 1, 7, none⟩ v7) rb #[.slice b0 p0.length d0, .slice b1 p1.length d1, .slice b2 p2.length d2, .slice b3 p3.length d3, .slice b4 p4.length d4, .slice b5 p5.length d5, .slice b6 p6.length d6, v7, .slice none 0 0] [(.slice b0 p0.length d0, p0), (.slice b1 p1.length d1, p1), (.slice b2 p2.length d2, p2), (.slice b3 p3.length d3, p3), (.slice b4 p4.length d4, p4), (.slice b5 p5.length d5, p5), (.slice b6 p6.length d6, p6), (v7, p7)] l8 en) := PP.step HP7.out hrb hb ho hr
                  obtain ⟨b7, d7, hv7, -, -, -⟩ := own_form2 ho
                  subst hv7
                  clear hx hb ho hr k3 HE7 HP7
                  go_wp2_with fail
                  clear z0 zf
                  revert HP8
                  generalize U7.setCell ⟨w.heap.size + 1, 7, none⟩ (.slice b7 p7.length d7) = V8
                  intro HP8
                  obtain ⟨a8, c8, hr8⟩ := HP8.out.r
                  refine (arrows_any rb c8 en a8 l8 V8 hl8 hr8).mono ?_
                  intro e U8 hq
                  obtain ⟨hb, hq⟩ := hq
                  clear hr8
                  cases hx : rdArrs l8 with
                  | error el =>
                    rw [hx] at hq
                    dsimp only at hq
                    subst hq
                    have HX : Hid (rdAll l = .error el) := by
                      show _ = _
                      rw [HE8.out, rdFrom_last, hx]; rfl
                    have HBX := Hid.of (HP8.out.but.trans hb)
                    clear hx hb
                    go_wp2_with fail
                    refine ⟨rfl, HBX.out, ?_⟩
                    rw [HX.out]
                  | ok y =>
                    obtain ⟨ts, l9⟩ := y
                    rw [hx] at hq
                    dsimp only at hq
                    obtain ⟨v8, rfl, ho, a9, c9, hr⟩ := hq
                    have HE9 : Hid (rdAll l = rdLast [p0, p1, p2, p3, p4, p5, p6, p7] (.ok (ts, l9))) := by
                      show _ = _
                      rw [HE8.out, rdFrom_last, hx]
                    have HTS := Hid.of (Nat.le_trans (rdArrs_len hx) hl8)
                    have k3 : Blk U8 (w.heap.size + 1) 48 #[.slice b0 p0.length d0, .slice b1 p1.length d1, .slice b2 p2.length d2, .slice b3 p3.length d3, .slice b4 p4.length d4, .slice b5 p5.length d5, .slice b6 p6.length d6, .slice b7 p7.length d7, .slice none 0 0] := hb.blk HP8.out.k3 (by omega)
                    have HB9 := Hid.of ((HP8.out.but.trans hb).other (b := w.heap.size + 1) (by omega) (by omega) 8 v8)
                    have HK2 := Hid.of ((hb.blk HP8.out.k2 (by omega)).other (b' := w.heap.size + 1) (j := 8) (by omega) v8)
                    have HK3 := Hid.of (k3.set 8 v8)
                    have HR9 := Hid.of (hr.other (b := w.heap.size + 1) (by omega) 8 v8)
                    have own : ∀ {B s n : Nat} {e : TypeId} {v' : Value} {xs : List Value}, 48 ≠ e → U8.ownsRow B e s v' n xs → (U8.setCell ⟨w.heap.size + 1, 8, none⟩ v8).ownsRow B e s v' n xs := fun he ho => own_same ho (fun k hk => Below.heap_setCell _ _ _ _ (show k ≠ w.heap.size + 1 from fun e => own_blk ho (show U8.heap[w.heap.size + 1]? = _ from k3) he (by rw [hk, e])))
                    have HO9 : Hid (∀ x ∈ [(.slice b0 p0.length d0, p0), (.slice b1 p1.length d1, p1), (.slice b2 p2.length d2, p2), (.slice b3 p3.length d3, p3), (.slice b4 p4.length d4, p4), (.slice b5 p5.length d5, p5), (.slice b6 p6.length d6, p6), (.slice b7 p7.length d7, p7)], OwnTk (U8.setCell ⟨w.heap.size + 1, 8, none⟩ v8) w.heap.size x.1 x.2) := fun x hx => own (by decide) (ownTk_but (HP8.out.o x hx) hb hrb)
                    have HT9 : Hid (OwnTh (U8.setCell ⟨w.heap.size + 1, 8, none⟩ v8) w.heap.size v8 ts) := own (by decide) (own_low16 ho HP8.out.but.s)
                    have z0 := k3.cell 8 rfl
                    have zf := k3.frozen
                    have hrb3 : rb ≠ w.heap.size + 1 := by omega
                    obtain ⟨b8, d8, hv8, -, -, -⟩ := own_form2 ho
                    subst hv8
                    clear hx hb ho hr k3 HE8 HP8 own
                    obtain ⟨y0, y1⟩ := rd_at HR9.out
                    by_cases hl9 : l9 = []
                    · subst hl9
                      have HX : Hid (rdAll l = .ok ([p0, p1, p2, p3, p4, p5, p6, p7], ts)) := HE9.out
                      have HQ : Hid (rdAll l = rdAll l) := rfl
                      obtain ⟨x0, x1, x2, x3, x4, x5, x6, x7, x8⟩ := blk9 (t := 48) (a0 := .slice b0 p0.length d0) (a1 := .slice b1 p1.length d1) (a2 := .slice b2 p2.length d2) (a3 := .slice b3 p3.length d3) (a4 := .slice b4 p4.length d4) (a5 := .slice b5 p5.length d5) (a6 := .slice b6 p6.length d6) (a7 := .slice b7 p7.length d7) (a8 := .slice b8 ts.length d8) HK3.out
                      obtain ⟨e0, e1, e2, e3, e4, e5, e6, e7, e8⟩ := blk9 HK2.out
                      have ef := HK2.out.frozen
                      have GB := Hid.of (set9_but (g := w.heap.size) (.slice b0 p0.length d0) (.slice b1 p1.length d1) (.slice b2 p2.length d2) (.slice b3 p3.length d3) (.slice b4 p4.length d4) (.slice b5 p5.length d5) (.slice b6 p6.length d6) (.slice b7 p7.length d7) (.slice b8 ts.length d8) HB9.out (Nat.le_refl _) hrb)
                      have GK := Hid.of (set9_blk (.slice b0 p0.length d0) (.slice b1 p1.length d1) (.slice b2 p2.length d2) (.slice b3 p3.length d3) (.slice b4 p4.length d4) (.slice b5 p5.length d5) (.slice b6 p6.length d6) (.slice b7 p7.length d7) (.slice b8 ts.length d8) _ _ _ _ _ _ _ _ _ HK2.out)
                      have own2 : ∀ {B s n : Nat} {e : TypeId} {v' : Value} {xs : List Value}, 48 ≠ e → (U8.setCell ⟨w.heap.size + 1, 8, none⟩ (.slice b8 ts.length d8)).ownsRow B e s v' n xs → (set9 (U8.setCell ⟨w.heap.size + 1, 8, none⟩ (.slice b8 ts.length d8)) w.heap.size (.slice b0 p0.length d0) (.slice b1 p1.length d1) (.slice b2 p2.length d2) (.slice b3 p3.length d3) (.slice b4 p4.length d4) (.slice b5 p5.length d5) (.slice b6 p6.length d6) (.slice b7 p7.length d7) (.slice b8 ts.length d8)).ownsRow B e s v' n xs := fun he ho => own_same ho (fun k hk => set9_heap _ _ _ _ _ _ _ _ _ (show k ≠ w.heap.size from fun e => own_blk ho (show (U8.setCell ⟨w.heap.size + 1, 8, none⟩ (.slice b8 ts.length d8)).heap[w.heap.size]? = _ from HK2.out) he (by rw [hk, e])))
                      have GO : Hid (∀ x ∈ [(.slice b0 p0.length d0, p0), (.slice b1 p1.length d1, p1), (.slice b2 p2.length d2, p2), (.slice b3 p3.length d3, p3), (.slice b4 p4.length d4, p4), (.slice b5 p5.length d5, p5), (.slice b6 p6.length d6, p6), (.slice b7 p7.length d7, p7)], OwnTk (set9 (U8.setCell ⟨w.heap.size + 1, 8, none⟩ (.slice b8 ts.length d8)) w.heap.size (.slice b0 p0.length d0) (.slice b1 p1.length d1) (.slice b2 p2.length d2) (.slice b3 p3.length d3) (.slice b4 p4.length d4) (.slice b5 p5.length d5) (.slice b6 p6.length d6) (.slice b7 p7.length d7) (.slice b8 ts.length d8)) w.heap.size x.1 x.2) := fun x hx => own2 (by decide) (HO9.out x hx)
                      have GT : Hid (OwnTh (set9 (U8.setCell ⟨w.heap.size + 1, 8, none⟩ (.slice b8 ts.length d8)) w.heap.size (.slice b0 p0.length d0) (.slice b1 p1.length d1) (.slice b2 p2.length d2) (.slice b3 p3.length d3) (.slice b4 p4.length d4) (.slice b5 p5.length d5) (.slice b6 p6.length d6) (.slice b7 p7.length d7) (.slice b8 ts.length d8)) w.heap.size (.slice b8 ts.length d8) ts) := own2 (by decide) HT9.out
                      clear own2 HO9 HT9 HB9 HK2 HK3 HR9 HE9
                      go_wp2_with fail
                      refine bodyPost_ret (results_parts (p := 2) rfl _ _ w.heap.size _ _ _ _ _ _ _ _ _ _ _ _ _ _ _ _ _ _ _ _ _ _ _ _ _ _ _ rfl GK.out) rfl ⟨GB.out, ?_⟩
                      rw [HX.out]
                      refine ⟨_, _, _, _, _, _, _, _, _, p0, p1, p2, p3, p4, p5, p6, p7, rfl, rfl, fun x hx => ⟨GO.out x hx, ?_⟩, GT.out, HTS.out⟩
                      simp only [List.mem_cons, List.not_mem_nil, or_false] at hx
                      rcases hx with rfl | rfl | rfl | rfl | rfl | rfl | rfl | rfl <;> assumption
                    · obtain ⟨t9, r9, rfl⟩ := List.exists_cons_of_ne_nil hl9
                      have HX : Hid (rdAll l = .error (t9 :: r9)) := HE9.out
                      have hz : decide ((0 : Int) < (r9.length : Int) + 1) = true := by simp
                      rw [List.length_cons] at y0
                      clear hl9 HE9
                      go_wp2_with fail
                      refine (at_any rb c9 en a9 (t9 :: r9) _ HR9.out).mono ?_
                      rintro e W3 ⟨rfl, rfl⟩
                      go_wp2_with fail
                      refine (giveUp_any 2 _ _).mono ?_
                      rintro e W4 ⟨rfl, rfl⟩
                      go_wp2_with fail
                      refine ⟨rfl, HB9.out, ?_⟩
                      rw [HX.out]

end Go.Proofs.Ytbgiliophmofgaa
