/-
  For every two lists row.Join, row.Meet and row.Less answer what the reference answers, or ErrForm where one is no row: RowJoins returns true, and nothing that was there is changed. No condition.
  The frame is the shell that the kit's proof-skeleton writes; the walk in it is ours.
-/
import Derived.WalkKit
import Derived.ProofKit
import Derived.OpenShut
import Derived.ShutString
import Derived.ChangeOld
import Derived.Below
import Derived.Test.YtppfcbapfbmckaaRows
import Derived.Test.YtppfcbapfbmckaaG04
import Derived.Test.YtppfcbapfbmckaaCSame
import Derived.Test.YtppfcbapfbmckaaCRefIs
namespace Go.Proofs.Ytppfcbapfbmckaa
open Go.ChangeShapes Go.WideShapes Go.ChangeAt Go.RowKit
open Go.ChangeMaps (open_string shut_string)
set_option linter.unusedVariables false

theorem own : ownKnob Try.prog.godebug = none := by kernel_rfl
theorem laidOut : laidOutB Try.prog = true := by kernel_rfl

/-- WHAT THE WALK IS TOLD OF A SLICE OF INTEGERS THAT CAME IN: it is nil; or it leads to a row of 'cap' cells, the numbers 'zs' (the first 'len' are its elements, the rest its spare room), each fitting its kind. -/
def IsRow (k : IntKind) (w : World) (a : Option Addr) (len cap : Nat) (zs : List Int) : Prop :=
  (a = none ∧ len = 0 ∧ cap = 0 ∧ zs = []) ∨
  ∃ x, a = some x ∧ len ≤ cap ∧ cap ≤ maxLen ∧ zs.length = cap ∧ (∀ i, i < zs.length → w.cell? (x.add i) = some (.int k (zs.getD i 0))) ∧ ∀ n ∈ zs, (Lit.int k n).wf = true

/-- The slice that came in reads as the first 'len' of its numbers. -/
theorem arg_of_row {w : World} {a : Option Addr} {len cap : Nat} {zs : List Int} (h : IsRow .i64 w a len cap zs) : ∃ xs, xs.length = len ∧ xs.length ≤ cap ∧ cap ≤ maxLen ∧ At w a xs ∧ (a = none → cap = 0) := by
  rcases h with ⟨rfl, rfl, rfl, rfl⟩ | ⟨⟨b, off, sp⟩, rfl, hl, hm, hz, hc, -⟩
  · exact ⟨[], rfl, Nat.zero_le _, Nat.zero_le _, .inl rfl, fun _ => rfl⟩
  · by_cases h0 : len = 0
    · exact ⟨[], h0.symm, Nat.zero_le _, hm, .inl rfl, fun h => by cases h⟩
    · have hn : sp = none := by simpa [Addr.add] using World.cell?_spot (hc 0 (by omega))
      subst hn
      have hlen : (zs.take len).length = len := by rw [List.length_take]; omega
      refine ⟨zs.take len, hlen, by omega, hm, .inr ⟨b, off, rfl, ?_, fun j hj => ?_⟩, fun h => by cases h⟩
      · exact World.block_lt_of_cell? w ⟨b, off, none⟩ (by simpa [Addr.add] using hc 0 (by omega))
      · have := hc j (by omega)
        rw [show (⟨b, off, none⟩ : Addr).add j = ⟨b, off + j, none⟩ from by simp [Addr.add]] at this
        rw [this]
        simp only [List.getD_eq_getElem?_getD]
        rw [List.getElem?_take_of_lt (by omega)]

theorem sameB_self (xs : List Int) : sameB xs xs = true := by simp [sameB]

set_option maxHeartbeats 1000000 in
theorem joins_yes (w : World) (a1 : Option Addr) (c1 : Nat) (xs : List Int) (a2 : Option Addr) (c2 : Nat) (ys : List Int) (h1 : At w a1 xs) (h2 : At w a2 ys) (k1 : xs.length ≤ c1) (k2 : ys.length ≤ c2) (m1 : c1 ≤ maxLen) (m2 : c2 ≤ maxLen) (n1 : Hid (a1 = none → c1 = 0)) (n2 : Hid (a2 = none → c2 = 0)) (hx : Hid (rowB 2147483648 xs = true)) (hy : Hid (rowB 2147483648 ys = true)) :
    Calls Try.prog 4 #[.slice a1 xs.length c1, .slice a2 ys.length c2] w fun e w' => e = .returned (.bool true) ∧ Below w.heap.size w w' := by
  have l1 : xs.length ≤ maxLen := by omega
  have l2 : ys.length ≤ maxLen := by omega
  go_enter Try.func4, Try.ntmps4
  go_wp2_with fail
  refine (join_res w a1 c1 xs a2 c2 ys h1 h2 k1 k2 m1 m2 hx hy).mono ?_
  rintro e wj ⟨aj, cj, rfl, sj, lj, bj⟩
  go_wp2_with fail
  refine (meet_res wj a1 c1 xs a2 c2 ys (h1.below bj (Nat.le_refl _)) (h2.below bj (Nat.le_refl _)) k1 k2 m1 m2 hx hy).mono ?_
  rintro e wm ⟨am, cm, rfl, sm, lm, bm⟩
  have bbm : Below w.heap.size w wm := bj.trans (bm.mono bj.size)
  have sj2 := sj.below bm (Nat.le_refl _)
  clear sj
  go_wp2_with fail
  refine (less_res wm a1 c1 xs a2 c2 ys (h1.below bbm (Nat.le_refl _)) (h2.below bbm (Nat.le_refl _)) k1 k2 m1 m2 hx hy).mono ?_
  rintro e wl ⟨al, cl, rfl, sl, ll, bl⟩
  have bbl : Below w.heap.size w wl := bbm.trans (bl.mono bbm.size)
  have sj3 := sj2.below bl (Nat.le_refl _)
  have sm3 := sm.below bl (Nat.le_refl _)
  clear sj2 sm bj bm bbm bl
  have h1l := h1.below bbl (Nat.le_refl _)
  have h2l := h2.below bbl (Nat.le_refl _)
  go_wp2_with fail
  refine (refIs_any a1 c1 xs 2147483648 _ h1l l1).mono ?_
  rintro e w1 ⟨rfl, q1, rfl⟩
  rw [hx.out]
  go_wp2_with fail
  refine (refIs_any a2 c2 ys 2147483648 _ (At.drewN h2l q1) l2).mono ?_
  rintro e w1 ⟨rfl, q2, rfl⟩
  rw [hy.out]
  obtain ⟨wd, hwd⟩ : ∃ wd : World, wd = (wl.drewN q1).drewN q2 := ⟨_, rfl⟩
  have bd : Below wl.heap.size wl wd := by rw [hwd]; exact below_drewN (below_drewN (Below.refl _ _) _) _
  rw [← hwd]
  clear hwd
  have bbd : Below w.heap.size w wd := bbl.trans (bd.mono bbl.size)
  have sj4 := sj3.below bd (Nat.le_refl _)
  have sm4 := sm3.below bd (Nat.le_refl _)
  have sl4 := sl.below bd (Nat.le_refl _)
  clear sj3 sm3 sl h1l h2l bbl bd
  go_wp2_with fail
  refine (refJoin_res wd a1 c1 xs a2 c2 ys (h1.below bbd (Nat.le_refl _)) (h2.below bbd (Nat.le_refl _)) n1.out n2.out hx hy).mono ?_
  rintro e wx ⟨ax, cx, rfl, sx, lx, bx⟩
  have bbx : Below w.heap.size w wx := bbd.trans (bx.mono bbd.size)
  have sj5 := sj4.below bx (Nat.le_refl _)
  have sm5 := sm4.below bx (Nat.le_refl _)
  have sl5 := sl4.below bx (Nat.le_refl _)
  clear sj4 sm4 sl4 bbd bx
  go_wp2_with fail
  refine (onlyIn_res wx a1 c1 xs a2 c2 ys (h1.below bbx (Nat.le_refl _)) (h2.below bbx (Nat.le_refl _)) l2 hx).mono ?_
  rintro e wy ⟨ay, cy, rfl, sy, ly, by'⟩
  have bby : Below w.heap.size w wy := bbx.trans (by'.mono bbx.size)
  have sj6 := sj5.below by' (Nat.le_refl _)
  have sm6 := sm5.below by' (Nat.le_refl _)
  have sl6 := sl5.below by' (Nat.le_refl _)
  have sx6 := sx.below by' (Nat.le_refl _)
  clear sj5 sm5 sl5 sx bbx by'
  go_wp2_with fail
  refine (onlyOut_res wy a1 c1 xs a2 c2 ys (h1.below bby (Nat.le_refl _)) (h2.below bby (Nat.le_refl _)) l2 hx).mono ?_
  rintro e wz ⟨az, cz, rfl, sz, lz, bz⟩
  have bbz : Below w.heap.size w wz := bby.trans (bz.mono bby.size)
  have sj7 := sj6.below bz (Nat.le_refl _)
  have sm7 := sm6.below bz (Nat.le_refl _)
  have sl7 := sl6.below bz (Nat.le_refl _)
  have sx7 := sx6.below bz (Nat.le_refl _)
  have sy7 := sy.below bz (Nat.le_refl _)
  clear sj6 sm6 sl6 sx6 sy bby bz
  go_wp2_with fail
  refine (same_any aj ax cj cx (joinL xs ys) (joinL xs ys) _ sj7 sx7 lj lx).mono ?_
  rintro e w1 ⟨rfl, r1, rfl⟩
  rw [sameB_self]
  go_wp2_with fail
  refine (same_any am ay cm cy (meetL xs ys) (meetL xs ys) _ (At.drewN sm7 r1) (At.drewN sy7 r1) lm ly).mono ?_
  rintro e w1 ⟨rfl, r2, rfl⟩
  rw [sameB_self]
  go_wp2_with fail
  refine (same_any al az cl cz (lessL xs ys) (lessL xs ys) _ (At.drewN sl7 (r1 + r2)) (At.drewN sz (r1 + r2)) ll lz).mono ?_
  rintro e w1 ⟨rfl, r3, rfl⟩
  rw [sameB_self]
  go_wp2
  go_ret
  exact ⟨rfl, below_drewN bbz _⟩

set_option maxHeartbeats 1000000 in
theorem joins_no (w : World) (a1 : Option Addr) (c1 : Nat) (xs : List Int) (a2 : Option Addr) (c2 : Nat) (ys : List Int) (h1 : At w a1 xs) (h2 : At w a2 ys) (l1 : xs.length ≤ maxLen) (l2 : ys.length ≤ maxLen) (hno : Hid (¬ (rowB 2147483648 xs = true ∧ rowB 2147483648 ys = true))) :
    Calls Try.prog 4 #[.slice a1 xs.length c1, .slice a2 ys.length c2] w fun e w' => e = .returned (.bool true) ∧ Below w.heap.size w w' := by
  go_enter Try.func4, Try.ntmps4
  go_wp2_with fail
  refine (join_no w a1 c1 xs a2 c2 ys h1 h2 l1 l2 hno.out).mono ?_
  rintro e wj ⟨rfl, bj⟩
  go_wp2_with fail
  refine (meet_no wj a1 c1 xs a2 c2 ys (h1.below bj (Nat.le_refl _)) (h2.below bj (Nat.le_refl _)) l1 l2 hno.out).mono ?_
  rintro e wm ⟨rfl, bm⟩
  have bbm : Below w.heap.size w wm := bj.trans (bm.mono bj.size)
  clear bj bm
  go_wp2_with fail
  refine (less_no wm a1 c1 xs a2 c2 ys (h1.below bbm (Nat.le_refl _)) (h2.below bbm (Nat.le_refl _)) l1 l2 hno.out).mono ?_
  rintro e wl ⟨rfl, bl⟩
  have bbl : Below w.heap.size w wl := bbm.trans (bl.mono bbm.size)
  clear bbm bl
  have h1l := h1.below bbl (Nat.le_refl _)
  have h2l := h2.below bbl (Nat.le_refl _)
  by_cases hx : rowB 2147483648 xs = true
  · have hy : Hid (rowB 2147483648 ys = false) := by show _ = _; rw [← Bool.not_eq_true]; exact fun h => hno.out ⟨hx, h⟩
    have HX : Hid (rowB 2147483648 xs = true) := hx
    clear hx
    go_wp2_with fail
    refine (refIs_any a1 c1 xs 2147483648 _ h1l l1).mono ?_
    rintro e w1 ⟨rfl, q1, rfl⟩
    rw [HX.out]
    go_wp2_with fail
    refine (refIs_any a2 c2 ys 2147483648 _ (At.drewN h2l q1) l2).mono ?_
    rintro e w1 ⟨rfl, q2, rfl⟩
    rw [hy.out]
    go_wp2
    go_ret
    exact ⟨rfl, below_drewN bbl _⟩
  · have HX : Hid (rowB 2147483648 xs = false) := by show _ = _; rw [← Bool.not_eq_true]; exact hx
    clear hx
    go_wp2_with fail
    refine (refIs_any a1 c1 xs 2147483648 _ h1l l1).mono ?_
    rintro e w1 ⟨rfl, q1, rfl⟩
    rw [HX.out]
    go_wp2
    go_ret
    exact ⟨rfl, below_drewN bbl _⟩

theorem walk (a0 : Option Addr) (len0 cap0 : Nat) (z0 : List Int) (a1 : Option Addr) (len1 cap1 : Nat) (z1 : List Int) (w : World) (w0 : IsRow .i64 w a0 len0 cap0 z0) (w1 : IsRow .i64 w a1 len1 cap1 z1) :
    Calls Try.prog 4 #[.slice a0 len0 cap0, .slice a1 len1 cap1] w fun e w' => e = .returned (.bool true) ∧ Below w.heap.size w w' := by
  obtain ⟨xs, rfl, kx, mx, sx, nx⟩ := arg_of_row w0
  obtain ⟨ys, rfl, ky, my, sy, ny⟩ := arg_of_row w1
  by_cases h : rowB 2147483648 xs = true ∧ rowB 2147483648 ys = true
  · exact joins_yes w a0 cap0 xs a1 cap1 ys sx sy kx ky mx my nx ny h.1 h.2
  · exact joins_no w a0 cap0 xs a1 cap1 ys sx sy (by omega) (by omega) h

/-! ### THE ROW's STEP: WRITTEN OUT: LEAVE IT -/
set_option maxRecDepth 100000 in
theorem lifted (os : Os) (started : os.Started) (H : Type) (enc : TypeId × Value → H) :
    ReturnsInHanded {} Try.checked os 4 .any (Rows.rowJoinsSpec.pre6 enc Try.prog Try.f4 Rows.rowJoinsRow.domain false) (Rows.rowJoinsSpec.post enc Try.prog Try.f4 false true false false) := by
  refine returnsInHanded_of_change (C := Try.checked) own started (by kernel_rfl) Try.func4
    (ChangeSpec.witness6 (enc := enc) (C := Try.checked) false ⟨#[], #[.slice none 0 0, .slice none 0 0], []⟩ 8 (by kernel_rfl) (by kernel_rfl) (by kernel_rfl) (by kernel_rfl)) ?_
  intro W base args ds gs before hval0 hW hcnd _
  have hval : ∀ (j : Nat) t v, Try.f4.params[j]? = some t → args[j]? = some v → Value.okWide Try.prog W .any base t v := hval0
  have hW' := hW
  obtain ⟨p, q, hA0, hV, rfl, hfz, hnd⟩ := hW
  have hA : DataW.TrodAll enc Try.prog W 0 (fun _ => true) true Try.f4.params.toList args.toList ds p := hA0
  rw [Try.params4] at hA hval
  obtain ⟨v0, vs0, d0, ds0, p0, q0, hargs, rfl, rfl, h0, r0⟩ := trodAll_cons hA
  obtain ⟨v1, vs1, d1, ds1, p1, q1, rfl, rfl, rfl, h1, r1⟩ := trodAll_cons r0
  obtain ⟨rfl, rfl, rfl⟩ := trodAll_nil r1
  obtain rfl : args = #[v0, v1] := by cases args; simp_all
  obtain ⟨rfl, rfl⟩ := trodVars_none hV
  obtain ⟨a0, len0, cap0, rfl⟩ := okWide_slice Try.underlying22 (hval 0 22 v0 rfl rfl)
  have k0 := h0
  have lt0 : ∀ x ∈ p0, x.block < W.heap.size := by obtain ⟨m, hm⟩ := k0; exact DataW.trod_lt m _ _ _ hm
  obtain ⟨z0, w0⟩ : ∃ zs, IsRow .i64 W a0 len0 cap0 zs := by
    obtain ⟨fuel, hf⟩ := h0
    rcases open_ints Try.underlying22 Try.underlying3 (by kernel_rfl) hf with ⟨hcs, _⟩ | ⟨x, l, c, zs, hcs, _, hl, hm, hz, _, hcell, hwz⟩
    · simp [Value.cells] at hcs
      obtain ⟨rfl, rfl, rfl⟩ := hcs
      exact ⟨[], .inl ⟨rfl, rfl, rfl, rfl⟩⟩
    · simp [Value.cells] at hcs
      obtain ⟨rfl, rfl, rfl⟩ := hcs
      exact ⟨zs, .inr ⟨_, rfl, hl, hm, by simpa using hz, hcell, hwz⟩⟩
  obtain ⟨a1, len1, cap1, rfl⟩ := okWide_slice Try.underlying22 (hval 1 22 v1 rfl rfl)
  have k1 := h1
  have lt1 : ∀ x ∈ p1, x.block < W.heap.size := by obtain ⟨m, hm⟩ := k1; exact DataW.trod_lt m _ _ _ hm
  obtain ⟨z1, w1⟩ : ∃ zs, IsRow .i64 W a1 len1 cap1 zs := by
    obtain ⟨fuel, hf⟩ := h1
    rcases open_ints Try.underlying22 Try.underlying3 (by kernel_rfl) hf with ⟨hcs, _⟩ | ⟨x, l, c, zs, hcs, _, hl, hm, hz, _, hcell, hwz⟩
    · simp [Value.cells] at hcs
      obtain ⟨rfl, rfl, rfl⟩ := hcs
      exact ⟨[], .inl ⟨rfl, rfl, rfl, rfl⟩⟩
    · simp [Value.cells] at hcs
      obtain ⟨rfl, rfl, rfl⟩ := hcs
      exact ⟨zs, .inr ⟨_, rfl, hl, hm, by simpa using hz, hcell, hwz⟩⟩
  clear hA0 hval0
  refine (walk a0 len0 cap0 z0 a1 len1 cap1 z1 W w0 w1).mono fun e W' ⟨he, bel⟩ => ?_
  subst he
  exact ⟨_, rfl, _, _, _, [], _, [], hW', trodAll_mk1 (shut_bool Try.underlying4 _), (trodAll_cons_mk (Below.trod laidOut (by kernel_rfl) (of_decide_eq_true (by kernel_rfl)) k0 bel lt0) (trodAll_cons_mk (Below.trod laidOut (by kernel_rfl) (of_decide_eq_true (by kernel_rfl)) k1 bel lt1) trodAll_mk0)), rfl, bel.frame _, fun h => by cases h⟩

theorem over : Rows.rowJoinsRow.holds Try.pinned (OpenSpec.ofChange Rows.rowJoinsSpec) :=
  OpenClaim.holds_of_wide 4 Try.f4 rfl rfl rfl rfl rfl rfl rfl ⟨rfl, rfl, rfl, rfl, rfl⟩ rfl rfl rfl rfl rfl (by kernel_rfl) Try.func4 (by kernel_rfl)
    (of_decide_eq_true (by kernel_rfl)) (by unfold Func.isWrapper; first | (rw [if_pos (by decide +kernel)]; kernel_rfl) | (rw [if_neg (by decide +kernel)]; exact ⟨rfl, rfl⟩))
    (fun os started H enc _ => lifted os started H enc)

/-- ████ THE STATEMENT ████ -/
theorem rowJoins_holds : Rows.RowJoinsSaid := over
#print axioms rowJoins_holds
end Go.Proofs.Ytppfcbapfbmckaa
