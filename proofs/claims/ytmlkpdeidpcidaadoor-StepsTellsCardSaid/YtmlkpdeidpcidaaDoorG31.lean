/-
  What is said on the way through hide.lay: what lies where, and what a range over a set leaves as it was.
  The walk of hide.lay: the arrows of all ways, state by state, event by event; it leaves off where they do not fit.
  What the laws of machines share: 'great' walked.
  The walk of jalousieref2.Same: two machines are one.
  What the laws of machines share: 'great' and 'machines' walked.
  What Hide leaves, the program's and the reference's.
-/
import Derived.Test.YtmlkpdeidpcidaaDoorG28
import Derived.Test.YtmlkpdeidpcidaaDoorCHLoud
import Derived.Test.YtmlkpdeidpcidaaDoorG05
import Derived.Test.YtmlkpdeidpcidaaDoorG20
import Derived.Test.YtmlkpdeidpcidaaDoorCResM
import Derived.Test.YtmlkpdeidpcidaaDoorG03
import Derived.Test.YtmlkpdeidpcidaaDoorCRefMay
import Derived.Test.YtmlkpdeidpcidaaDoorG16
import Derived.BigQuiet
import Derived.Test.YtmlkpdeidpcidaaDoorG04
import Derived.Test.YtmlkpdeidpcidaaDoorG22
import Derived.Test.YtmlkpdeidpcidaaDoorCTrimBase
namespace Go.Proofs.YtmlkpdeidpcidaaDoor
open Go.RowKit Go.Shelf
set_option linter.unusedVariables false

/-- But for the box and what it held, nothing has turned. -/
def KB (W0 W : World) (bA : Nat) (v0 : Value) : Prop := (∀ j, j < W0.heap.size → j ≠ bA → some j ≠ v0.ownBlock → W.heap[j]? = W0.heap[j]?) ∧ W0.heap.size ≤ W.heap.size
theorem KB.refl (W : World) (bA : Nat) (v0 : Value) : KB W W bA v0 := ⟨fun _ _ _ _ => rfl, Nat.le_refl _⟩
theorem kb_own {β : Type} {W0 : World} {bA : Nat} {v0 : Value} : OwnFrom W0.heap.size (fun (_ : β) W => KB W0 W bA v0) := fun s W W' row h hg hr =>
  ⟨fun j hj h1 h2 => (hg.block j (Nat.lt_of_lt_of_le hj h.2) (fun e => by have := (hr j e.symm).1; omega)).trans (h.1 j hj h1 h2), Nat.le_trans h.2 hg.size⟩
/-- What the box holds now: what it held, or a new block. -/
def NewB (W0 : World) (v0 v : Value) : Prop := v.ownBlock = v0.ownBlock ∨ ∀ j, v.ownBlock = some j → W0.heap.size ≤ j
theorem KB.step {W0 W w1 : World} {bA : Nat} {v0 v v' : Value} {tmp : Obj} (h : KB W0 W bA v0) (hn : NewB W0 v0 v) (hg : (W.alloc tmp).grownBy w1 v.ownBlock) : KB W0 (w1.setCell ⟨bA, 0, none⟩ v') bA v0 := by
  have hz : W.heap.size + 1 ≤ w1.heap.size := by have := hg.size; simpa using this
  refine ⟨fun j hj h1 h2 => ?_, ?_⟩
  · have hjW := Nat.lt_of_lt_of_le hj h.2
    rw [Below.heap_setCell w1 ⟨bA, 0, none⟩ v' j h1]
    rw [hg.block j (by rw [World.size_alloc]; omega) (fun e => ?_), Below.heap_alloc W tmp j hjW]
    · exact h.1 j hj h1 h2
    · rcases hn with hn | hn
      · exact h2 (by rw [← hn]; exact e)
      · have := hn j e.symm; omega
  · have := h.2
    simp [World.setCell]; omega
theorem addr_add0 (b j : Nat) : (⟨b, 0, none⟩ : Addr).add j = ⟨b, j, none⟩ := by unfold Addr.add; split <;> simp_all
theorem cell3_new (W : World) (t : TypeId) (a b c : Value) : ∀ j u, [a, b, c][j]? = some u → (W.alloc (.cells #[a, b, c] t)).cell? ((⟨W.heap.size, 0, none⟩ : Addr).add j) = some u := by
  intro j u h
  have hb := Blk.new W t #[a, b, c]
  rw [show (⟨W.heap.size, 0, none⟩ : Addr).add j = ⟨W.heap.size, j, none⟩ from addr_add0 _ _]
  refine hb.cell j ?_
  simpa using h

/-- The arrows of a state at an event, as they come. -/
def prA {N : Nat} (f k : Nat) (pre : List (NB N)) : List Arr := pre.map fun x => ⟨(f : Int), (k : Int), (x.1 : Int)⟩
theorem prA_snoc {N : Nat} (f k : Nat) (pre : List (NB N)) (x : NB N) : prA f k (pre ++ [x]) = prA f k pre ++ [⟨(f : Int), (k : Int), (x.1 : Int)⟩] := by simp [prA]
theorem prA_len {N : Nat} (f k : Nat) (pre : List (NB N)) : (prA f k pre).length = pre.length := by simp [prA]
theorem aflat_snoc (L : List Arr) (a : Arr) : aflat (L ++ [a]) = aflat L ++ [.int .i64 a.f, .int .i64 a.e, .int .i64 a.t] := by rw [aflat_append]; rfl

/-- What lay knows of the memory: the arrows' box, what it holds, the marks. -/
structure YI (w W : World) (Ds : List Nat) (A : List Arr) : Prop where
  box : ∃ v, Boxed W w.heap.size 23 v ∧ OwnA W w.heap.size v A
  bel : Below w.heap.size w W
  mks : Marks w.heap.size Ds W
theorem YI.below {w W W' : World} {Ds : List Nat} {A : List Arr} (h : YI w W Ds A) (hb : Below W.heap.size W W') : YI w W' Ds A := by
  obtain ⟨v, h1, h2⟩ := h.box
  exact ⟨⟨v, Blk.below h1 hb h1.lt, h2.kept hb (Nat.le_refl _)⟩, h.bel.trans (hb.mono h.bel.size), h.mks.below hb h.mks.lt⟩
theorem YI.alloc {w W : World} {Ds : List Nat} {A : List Arr} (h : YI w W Ds A) (o : Obj) : YI w (W.alloc o) Ds A := h.below ((Below.refl _ _).alloc (Nat.le_refl _) o)
theorem YI.start (w : World) : YI w (w.alloc (.cells #[.slice none 0 0] 23)) [] [] :=
  ⟨⟨_, Boxed.new w 23 (.slice none 0 0), ownA_nil _ _⟩, (Below.refl _ _).alloc (Nat.le_refl _) _, ⟨fun D hD => by simp at hD, List.nodup_nil⟩⟩
/-- A block of cells of another kind lies as it lay. -/
theorem KB.blk {W0 W : World} {bA b : Nat} {v0 : Value} {t : TypeId} {cs : Array Value} {B n : Nat} {xs : List Value} (h : KB W0 W bA v0) (hb : Blk W0 b t cs) (hne : b ≠ bA) (ho : W0.ownsRow B 81 3 v0 n xs) (ht : t ≠ 81) : Blk W b t cs := by
  refine (h.1 b hb.lt hne (fun e => ?_)).trans hb
  rcases ho.2 with ⟨rfl, _⟩ | ⟨g, cap, cur, rfl, _, hgb, _⟩
  · simp [Value.ownBlock] at e
  · have e : b = g := by simpa [Value.ownBlock] using e
    rw [e] at hb
    rw [show W0.heap[g]? = _ from hb] at hgb
    simp only [Option.some.injEq, Obj.cells.injEq] at hgb
    exact ht hgb.2.1
theorem KB.marks {W0 W : World} {bA : Nat} {v0 : Value} {B B' n : Nat} {xs : List Value} {Ds : List Nat} (h : KB W0 W bA v0) (hm : Marks B Ds W0) (hbx : ∃ v, Boxed W0 bA 23 v) (ho : W0.ownsRow B' 81 3 v0 n xs) : Marks B Ds W := by
  refine ⟨fun D hD => ⟨(hm.at' D hD).1, (h.1 D (hm.lt D hD) (fun e => ?_) (fun e => ?_)).trans (hm.at' D hD).2⟩, hm.nd⟩
  · obtain ⟨v, hv⟩ := hbx
    have h1 := (hm.at' D hD).2
    rw [e, show W0.heap[bA]? = _ from hv] at h1
    cases h1
  · have h1 := (hm.at' D hD).2
    rcases ho.2 with ⟨rfl, _⟩ | ⟨g, cap, cur, rfl, _, hgb, _⟩
    · simp [Value.ownBlock] at e
    · have e : D = g := by simpa [Value.ownBlock] using e
      rw [e, hgb] at h1
      cases h1

theorem NewB.step {W0 W : World} {v0 v v' : Value} {tmp : Obj} (h : NewB W0 v0 v) (hz : W0.heap.size ≤ W.heap.size) (hb : v'.ownBlock = v.ownBlock ∨ v'.ownBlock = some (W.alloc tmp).heap.size) : NewB W0 v0 v' := by
  rcases hb with hb | hb
  · rcases h with h | h
    · exact .inl (hb.trans h)
    · exact .inr (fun j hj => h j (hb ▸ hj))
  · refine .inr (fun j hj => ?_)
    rw [hb, World.size_alloc] at hj
    have := Option.some.inj hj
    omega
/-- append onto a row of the call's own, inside a range over a function: the row stays in its block, or it is in a new one. -/
theorem wpListIn_append_block {F : Fence} {n : Nat} {P : Program} (w : World) {ops : Array Oper} {rest : List Oper} {o : Oper} {a : Act} {Q : Exit → Act → World → Prop}
    (hg : o.guard = none) (s x : Operand) (t : TypeId) (hop : o.op = Op.call { callee := Callee.builtin Builtin.append, args := #[s, x], argTypes := #[t, t] })
    (base : Nat) (e : TypeId) (i : TypeInfo) (z : Value) (size bytes : Nat) (h1 : P.underlying t = some (.slice e)) (h2 : P.info? e = some i) (h3 : i.zero = some z) (h4 : i.size = size) (h5 : i.bytes = bytes) (h6 : z.cells.size = size) (h7 : 0 < size)
    (v : Value) (k : Nat) (xs : List Value) (hs : a.eval s = v) (hown : w.ownsRow base e size v k xs) (ad : Addr) (m c : Nat) (news : List Value) (hx : a.eval x = .slice (some ad) m c) (hn : news.length = m * size)
    (hc : ∀ j u, news[j]? = some u → w.cell? (ad.add j) = some u) (h1c : ∀ u ∈ news, u.oneCell' = true) (hm : 0 < m) (b1 : k + m ≤ maxLen) (b2 : (k + m) * bytes ≤ 140737488355328) (b3 : base ≤ w.heap.size)
    (hK : ∀ v' w', w'.ownsRow base e size v' (k + m) (xs ++ news) → w.grownBy w' v.ownBlock → (v'.ownBlock = v.ownBlock ∨ v'.ownBlock = some w.heap.size) → wpListIn F n P ops Q rest (a.put o.dst v') w') :
    wpListIn F n P ops Q (o :: rest) a w := by
  obtain ⟨v', w', hrun, r1, r2, r3⟩ := run_append_block (P := P) w base t o.type e i z size bytes h1 h2 h3 h4 h5 h6 h7 v k xs hown ad m c news hn hc h1c hm b1 b2 b3
  refine wpListIn_plain hg fun K hK' => ?_
  unfold Oper.wpIn
  refine ⟨by simp [Oper.about, hop, resolve, Target.leads, Sem.run_pure], ?_⟩
  rw [Oper.semAt_plain F _ _ (by rw [hop]; intro c hc'; cases hc')]
  simp [execOp, hop, resolve, invoke, builtin, hs, hx, hrun, Result.andThen]
  exact hK' _ _ (hK v' w' r1 r2 r3)

end Go.Proofs.YtmlkpdeidpcidaaDoor
namespace Go.Proofs.YtmlkpdeidpcidaaDoor
open Go.RowKit Go.Shelf
set_option linter.unusedVariables false
attribute [local go_sem] Oper.semAt_some

/-- What lay leaves. -/
def LayPost (w : World) (A : List Arr) (e : Ending) (W' : World) : Prop := Below w.heap.size w W' ∧ ((A.length ≤ 4096 ∧ ∃ v, e = .returned (.tuple #[v, .bool true]) ∧ OwnA W' w.heap.size v A) ∨ (¬ A.length ≤ 4096 ∧ e = .returned (.tuple #[.slice none 0 0, .bool false])))

theorem results_pair {fn : Func} {u v : Tmp} (h : fn.results = #[.tmp u, .tmp v]) (tmps : Array Value) (P : Program) (w : World) : (results fn tmps).run P w = .ok (.tuple #[tmps.getD u undef, tmps.getD v undef]) w := by
  simp [results, h]

set_option maxRecDepth 100000 in
set_option maxHeartbeats 4000000 in
theorem lay_in (seen : List Int) (N : Nat) (ars : List Arr) (K : Nat) (hN : N ≤ 256) (hK : K ≤ 8) (pg g : Nat) (w : World) (hT : Hid (Tab w)) (hS : Hid (TB w pg N (stillT seen N ars))) (hU : Hid (T2 w g K N K (lTab seen (stillT seen N ars) ars))) (hSb : Hid (∀ p, p < N → ∀ n ∈ allS ((stillT seen N ars) p), n < N)) :
    CallsIn Fence.wide 5 Tryd.prog 70 #[.slice (some ⟨pg, 0, none⟩) N N, .slice (some ⟨g, 0, none⟩) K K] w fun e W' => LayPost w (layA seen N ars K N 0) e W' := by
  obtain ⟨i0, hi, hz0, hz1, hz2⟩ := info_parts Tryd.infoArrow
  have Y0 := Hid.of (YI.start w)
  refine callsIn_of_wp_marks Tryd.func70 rfl trivial ?_ rfl
  simp only [Tryd.ntmps70, List.size_toArray, List.length_cons, List.length_nil, Nat.reduceAdd, Nat.reduceSub, Array.replicate_succ, Array.replicate_zero, List.push_toArray, List.append_toArray, List.nil_append, List.cons_append]
  refine wpIn_wide.2 ?_
  go_wp2
  revert Y0
  generalize w.alloc (.cells #[.slice none 0 0] 23) = W0
  intro Y0
  refine wp_loop (fun a' W' => ∃ (f : Nat) (Ds : List Nat) (u7 u8 u9 u14 u15 u16 u17 u18 u19 u20 u21 u22 u23 u24 u25 u26 u27 u28 u29 u38 u39 u40 u41 u42 : Value), f ≤ N ∧ Hid (YI w W' Ds (layA seen N ars K f 0)) ∧ Hid ((layA seen N ars K f 0).length ≤ 4096) ∧ a' = { tmps := #[.slice (some ⟨pg, 0, none⟩) N N, .slice (some ⟨g, 0, none⟩) K K, undef, undef, .slice none 0 0, .bool false, .pointer (some ⟨w.heap.size, 0, none⟩), u7, u8, u9, undef, .slice (some ⟨pg, 0, none⟩) N N, .int .i64 N, .int .i64 f, u14, u15, u16, u17, u18, u19, u20, u21, u22, u23, u24, u25, u26, u27, u28, u29, undef, undef, undef, undef, undef, undef, undef, undef, u38, u39, u40, u41, u42, undef], defers := Ds.map mark }) (fun a' _ => N - (intOf (a'.tmps[13]?.getD undef)).toNat) ?start ?round
  case start => exact ⟨0, [], _, _, _, _, _, _, _, _, _, _, _, _, _, _, _, _, _, _, _, _, _, _, _, _, by omega, by rw [layA_zero]; exact Y0, by show _ ≤ _; rw [layA_zero]; simp, rfl⟩
  case round =>
    clear Y0
    rintro a' W ⟨f, Ds, u7, u8, u9, u14, u15, u16, u17, u18, u19, u20, u21, u22, u23, u24, u25, u26, u27, u28, u29, u38, u39, u40, u41, u42, hf, HY, HL, rfl⟩
    by_cases hft : f < N
    · have Y1 := Hid.of (HY.out.alloc (.cells #[.int .i64 f] 3))
      have B1 := Hid.of (Blk.new W 3 #[.int .i64 f])
      have hw0 : w.heap.size < W.heap.size := by obtain ⟨v, h, -⟩ := HY.out.box; exact h.lt
      go_wp2
      revert Y1 B1
      generalize W.alloc (.cells #[.int .i64 f] 3) = W1
      intro Y1 B1
      obtain ⟨b7, hb7⟩ : ∃ b7, b7 = W.heap.size := ⟨_, rfl⟩
      rw [← hb7] at B1 hw0 ⊢
      clear hb7 HY
      refine wp_loop (fun a' W' => ∃ (k : Nat) (Ds : List Nat) (v8 v9 v19 v20 v21 v22 v23 v24 v25 v26 v27 v28 v29 v38 v39 v40 v41 : Value), k ≤ K ∧ Hid (YI w W' Ds (layA seen N ars K f k)) ∧ Hid (Blk W' b7 3 #[.int .i64 f]) ∧ Hid ((layA seen N ars K f k).length ≤ 4096) ∧ a' = { tmps := #[.slice (some ⟨pg, 0, none⟩) N N, .slice (some ⟨g, 0, none⟩) K K, undef, undef, .slice none 0 0, .bool false, .pointer (some ⟨w.heap.size, 0, none⟩), .pointer (some ⟨b7, 0, none⟩), v8, v9, undef, .slice (some ⟨pg, 0, none⟩) N N, .int .i64 N, .int .i64 f, .bool true, .int .i64 f, .slice (some ⟨g, 0, none⟩) K K, .int .i64 K, .int .i64 k, v19, v20, v21, v22, v23, v24, v25, v26, v27, v28, v29, undef, undef, undef, undef, undef, undef, undef, undef, v38, v39, v40, v41, u42, undef], defers := Ds.map mark }) (fun a' _ => K - (intOf (a'.tmps[18]?.getD undef)).toNat) ?start ?round
      case start => exact ⟨0, Ds, _, _, _, _, _, _, _, _, _, _, _, _, _, _, _, _, _, by omega, Y1, B1, HL, rfl⟩
      case round =>
        clear Y1 B1 HL
        rintro a' W ⟨k, Ds, v8, v9, v19, v20, v21, v22, v23, v24, v25, v26, v27, v28, v29, v38, v39, v40, v41, hk, HY, HB, HL, rfl⟩
        by_cases hkt : k < K
        · obtain ⟨S0, HS0⟩ : ∃ S0, Hid (S0 = (stillT seen N ars) f) := ⟨_, rfl⟩
          have ok0 : Hid (okS S0) := by show okS S0; rw [HS0.out]; exact okS_still _ _ _ _
          have U1 := hU.out.below (HY.out.bel)
          have r0 := U1.row hkt
          have YA := Hid.of (HY.out.alloc (.cells #[.int .i64 k] 3))
          have BA := Hid.of (HB.out.alloc (.cells #[.int .i64 k] 3))
          have BE := Hid.of (Blk.new W 3 #[.int .i64 k])
          obtain ⟨t0, t1, t2, t3⟩ := (hS.out.below YA.out.bel hS.out.lt).cells hft
          rw [← HS0.out] at t0 t1 t2 t3
          have c7 : (W.alloc (.cells #[.int .i64 k] 3)).cell? ⟨b7, 0, none⟩ = some (.int .i64 f) := BA.out.cell 0 rfl
          have hf0 : (0 : Int) ≤ (f : Int) := by omega
          have hfI : (f : Int) < (N : Int) := by omega
          have hk0 : (0 : Int) ≤ (k : Int) := by omega
          have hkI : (k : Int) < (K : Int) := by omega
          have hwW : b7 < W.heap.size := HB.out.lt
          clear U1
          go_wp2_with fail
          clear t0 t1 t2 t3 r0 c7
          revert YA BA BE
          generalize W.alloc (.cells #[.int .i64 k] 3) = W2
          intro YA BA BE
          obtain ⟨b8, hb8⟩ : ∃ b8, b8 = W.heap.size := ⟨_, rfl⟩
          rw [← hb8] at BE hwW ⊢
          clear hb8 HY HB
          refine (union_any S0 ok0.out N ((lTab seen (stillT seen N ars) ars) k) (fun p => okS_lTab (okS_still seen N ars) ars k p) (by rw [HS0.out]; exact hSb.out f hft) hN (g + 1 + k) _ (hT.out.below YA.out.bel hT.out.lt) ((hU.out.below YA.out.bel).tb k hkt)).mono ?_
          rintro e w1 ⟨rfl, hb1⟩
          obtain ⟨LS, HLS⟩ : ∃ LS, Hid (LS = layS seen N ars f k) := ⟨_, rfl⟩
          have e1 : toF ((lTab seen (stillT seen N ars) ars) k) (allS S0) = LS := by rw [HLS.out, HS0.out]; rfl
          rw [e1]
          clear e1
          have okL : Hid (okS LS) := by show okS LS; rw [HLS.out]; exact ok_toF (fun p => okS_lTab (okS_still seen N ars) ars k p) _
          have Y3 := YA.out.below hb1
          have B3 := BA.out.below hb1 BA.out.lt
          have E3 := BE.out.below hb1 BE.out.lt
          clear YA BA BE hb1
          go_wp2_with fail
          refine (all_any LS _).mono ?_
          rintro e w2 ⟨rfl, rfl⟩
          have YR := Hid.of (Y3.alloc (.cells (scells LS) 85))
          have BR := Hid.of (B3.alloc (.cells (scells LS) 85))
          have ER := Hid.of (E3.alloc (.cells (scells LS) 85))
          have SR := Hid.of (show SB (w1.alloc (.cells (scells LS) 85)) w1.heap.size LS from Blk.new w1 85 (scells LS))
          clear Y3 B3 E3
          obtain ⟨xs, hxs⟩ := nb_of (N := 256) (allS LS) (fun n hn => ((mem_allS LS n).1 hn).1)
          have hxl : xs.length ≤ 256 := by have := allS_len LS; rw [← hxs, List.length_map] at this; exact this
          go_wp2
          revert YR BR ER SR
          generalize w1.alloc (.cells (scells LS) 85) = W3
          intro YR BR ER SR
          obtain ⟨v0, hv0, ho0⟩ := YR.out.box
          obtain ⟨A0, HA0⟩ : ∃ A0, Hid (A0 = (layA seen N ars K f k)) := ⟨_, rfl⟩
          rw [← HA0.out] at ho0 HL
          have HO0 := Hid.of ho0
          have hz3 := YR.out.bel.size
          have n7 : b7 ≠ w.heap.size := by omega
          have n8 : b8 ≠ w.heap.size := by omega
          have T3 := Hid.of (hT.out.below YR.out.bel hT.out.lt)
          have hw3 := hT.out.lt
          have hl0 := HL.out
          refine (wpIn_wide (n := 5)).1 ?_
          refine wpIn_rangeFunc_ownG rfl (by omega) (gf := 164) (lb := #[.pointer (some ⟨w1.heap.size, 0, none⟩)]) rfl trivial (enters_of Tryd.func164 (by kernel_rfl) rfl)
            (all_stops 4 (by omega) w1.heap.size w.heap.size LS okL.out xs hxs (by omega) W3 hz3 SR.out T3.out) belowK_t (belowK_b hz3) (Below.refl _ _) (fun _ => rfl)
            (fun pre W' => (∃ v, Boxed W' w.heap.size 23 v ∧ W'.ownsRow w.heap.size 81 3 v (A0 ++ prA f k pre).length (aflat (A0 ++ prA f k pre)) ∧ NewB W3 v0 v) ∧ KB W3 W' w.heap.size v0 ∧ Below w.heap.size w W')
            (fun _ _ _ => False)
            (OwnFrom.and (Go.Own.from (holdsRow_own w.heap.size w.heap.size 23 81 3 (fun pre : List (NB 256) => (A0 ++ prA f k pre).length) (fun pre => aflat (A0 ++ prA f k pre)) (fun _ v => NewB W3 v0 v)) _) (OwnFrom.and kb_own (ownFrom_below (Nat.le_refl _) hz3)))
            (fun _ _ _ _ _ hs _ _ => hs)
            ⟨⟨v0, hv0, by have h := ho0; unfold OwnA at h; simpa [prA] using h, .inl rfl⟩, KB.refl _ _ _, YR.out.bel⟩
            (fun x => { tmps := #[.slice (some ⟨pg, 0, none⟩) N N, .slice (some ⟨g, 0, none⟩) K K, undef, undef, .slice none 0 0, .bool false, .pointer (some ⟨w.heap.size, 0, none⟩), .pointer (some ⟨b7, 0, none⟩), .pointer (some ⟨b8, 0, none⟩), .slice (some ⟨g + 1 + k, 0, none⟩) N N, .int .i64 (x.1 : Int), .slice (some ⟨pg, 0, none⟩) N N, .int .i64 N, .int .i64 f, .bool true, .int .i64 f, .slice (some ⟨g, 0, none⟩) K K, .int .i64 K, .int .i64 k, .bool true, .int .i64 k, .pointer (some ⟨g, k, none⟩), .slice (some ⟨g + 1 + k, 0, none⟩) N N, .slice (some ⟨pg, 0, none⟩) N N, .int .i64 f, .pointer (some ⟨pg, f * 4, none⟩), .agg #[.int .u64 (S0 0), .int .u64 (S0 1), .int .u64 (S0 2), .int .u64 (S0 3)], .slice (some ⟨g + 1 + k, 0, none⟩) N N, .agg #[.int .u64 (LS 0), .int .u64 (LS 1), .int .u64 (LS 2), .int .u64 (LS 3)], .func (.func 164) #[] #[.pointer (some ⟨w1.heap.size, 0, none⟩)], .int .i64 (x.1 : Int), undef, undef, undef, undef, undef, undef, undef, v38, v39, v40, v41, u42, undef], defers := [] }) ?assign ?body ?done ?stop
          case assign =>
            intro l x W K hK
            gi_wp2
            exact hK
          case body =>
            rintro l' pre x W' ⟨⟨v, hv, hrw, hnb⟩, hkb, hB⟩ hlt
            have hc := hv.cell
            have c7 : W'.cell? ⟨b7, 0, none⟩ = some (.int .i64 f) := (hkb.blk BR.out n7 HO0.out (by decide)).cell 0 rfl
            have c8 : W'.cell? ⟨b8, 0, none⟩ = some (.int .i64 k) := (hkb.blk ER.out n8 HO0.out (by decide)).cell 0 rfl
            have hpl := prA_len f k pre
            have hal : (A0 ++ prA f k pre).length ≤ 4352 := by rw [List.length_append]; omega
            have HKB := Hid.of hkb
            have HNB := Hid.of hnb
            have HB' := Hid.of hB
            have hz9 := hB.size
            clear hpl hkb hnb hB
            obtain ⟨ll, HLL⟩ : ∃ ll, Hid ((A0 ++ prA f k pre).length = ll) := ⟨_, rfl⟩
            rw [HLL.out] at hrw hal
            gi_wp2_with (gi_at_builtin; refine wpListIn_append_block _ rfl _ _ 23 rfl w.heap.size 81 i0 (aval arr0) 3 24 Tryd.underlying23 hi hz0 hz1 hz2 rfl (by decide) _ _ _ rfl (hrw.alloc _) ⟨W'.heap.size, 0, none⟩ 1 1 [.int .i64 f, .int .i64 k, .int .i64 (x.1 : Int)] rfl rfl (cell3_new _ _ _ _ _) (by simp [Value.oneCell']) (by omega) (by unfold maxLen; omega) (by omega) (by simp; omega) ?_; intro v' w9 hown' hgrow hblk; obtain ⟨g', cap', rfl⟩ := ownsRow_succ hown'; obtain ⟨hv1, hv2, hr2, hk2, hb2⟩ := hv.appended (by decide) hrw hz9 (Nat.le_refl _) hown' hgrow; have hc1 := hv1.cell; have hf1 := hv1.frozen)
            refine ⟨hk2.from _, hb2, ⟨_, hv2, ?_, HNB.out.step HKB.out.2 hblk⟩, HKB.out.step HNB.out hgrow, HB'.out.trans hb2⟩
            rw [prA_snoc, ← List.append_assoc, aflat_snoc, List.length_append, HLL.out]
            exact hr2
          case done =>
            rintro D ys W' hD rfl ⟨⟨v, hv, hrw, hnb⟩, hkb, hB⟩ hK'
            have HA : Hid (A0 ++ prA f k ys = (layA seen N ars K f (k + 1))) := by
              show _ = _
              rw [layA_event, HA0.out]
              congr 1
              unfold prA layR
              rw [← HLS.out, ← hxs, List.map_map]; rfl
            have hm4 := hkb.marks YR.out.mks ⟨v0, hv0⟩ HO0.out
            have hmk : Hid (Marks w.heap.size (D :: Ds) W') := by
              refine ⟨fun D' hD' => ?_, List.nodup_cons.2 ⟨fun hm => ?_, hm4.nd⟩⟩
              · rcases List.mem_cons.1 hD' with rfl | hD'
                · exact ⟨by omega, hK'⟩
                · exact hm4.at' D' hD'
              · have := YR.out.mks.lt D hm; omega
            have hb4 := Hid.of (hkb.blk BR.out n7 HO0.out (by decide))
            rw [HA.out] at hrw
            have Y4 : Hid (YI w W' (D :: Ds) (layA seen N ars K f (k + 1))) := ⟨⟨v, hv, hrw⟩, hB, hmk.out⟩
            have hl4 : (layA seen N ars K f (k + 1)).length ≤ 4352 := by
              rw [← HA.out, List.length_append, prA_len]; omega
            have c0 := hv.cell
            obtain ⟨av, cv, rfl⟩ : ∃ a c, v = .slice a (layA seen N ars K f (k + 1)).length c := by
              rcases hrw.2 with ⟨rfl, h0⟩ | ⟨g', cap', cur, rfl, -⟩
              · exact ⟨none, 0, by rw [h0]⟩
              · exact ⟨_, cap', rfl⟩
            have HLE := Hid.of (layA_le (seen := seen) (N := N) (ars := ars) (K := K) (f := f) (k := k + 1) hft (by omega))
            clear hm4 hmk hrw hkb hB hnb hv YR BR ER SR HA ho0 hv0 HO0
            obtain ⟨ln, HLN⟩ : ∃ ln, Hid ((layA seen N ars K f (k + 1)).length = ln) := ⟨_, rfl⟩
            rw [HLN.out] at c0 hl4 HLE
            by_cases hbig : 4096 < ln
            · go_wp2
              refine leaves_marks (B := w.heap.size) (fun W => Below w.heap.size w W) ?hJ ?hfin (D :: Ds) _ Y4.out.mks Y4.out.bel
              case hJ =>
                rintro W D h2 hD hk
                exact h2.trans (belowK_b (w := w) (Nat.le_refl _) W D _ _ hD hk rfl rfl)
              case hfin =>
                intro W h2
                exact ⟨_, results_pair (u := 4) (v := 5) rfl _ _ _, h2, .inr ⟨by have := HLE.out; omega, rfl⟩⟩
            · have HL4 : Hid ((layA seen N ars K f (k + 1)).length ≤ 4096) := by show _ ≤ _; rw [HLN.out]; omega
              go_wp2
              exact ⟨⟨k + 1, D :: Ds, _, _, _, _, _, _, _, _, _, _, _, _, _, _, _, _, _, by omega, Y4, hb4, HL4, rfl⟩, by simp [intOf]; omega⟩
          case stop =>
            rintro D c pre W' _ _ h _
            exact h.elim
        · have hk2 : K = k := by omega
          subst hk2
          rw [← layA_from] at HY HL
          go_wp2
          exact ⟨⟨f + 1, Ds, _, _, _, _, _, _, _, _, _, _, _, _, _, _, _, _, _, _, _, _, _, _, _, _, by omega, HY, HL, rfl⟩, by simp [intOf]; omega⟩
    · have hf2 : N = f := by omega
      subst hf2
      obtain ⟨v, hv, ho⟩ := HY.out.box
      have c0 := hv.cell
      have HO := Hid.of ho
      go_wp2
      refine leaves_marks (B := w.heap.size) (fun W => OwnA W w.heap.size v (layA seen N ars K N 0) ∧ Below w.heap.size w W) ?hJ ?hfin Ds _ HY.out.mks ⟨HO.out, HY.out.bel⟩
      case hJ =>
        rintro W D ⟨h1, h2⟩ hD hk
        exact ⟨ownsRow_putObj h1 _ hk rfl, h2.trans (belowK_b (w := w) (Nat.le_refl _) W D _ _ hD hk rfl rfl)⟩
      case hfin =>
        rintro W ⟨h1, h2⟩
        exact ⟨_, results_pair (u := 4) (v := 5) rfl _ _ _, h2, .inl ⟨HL.out, v, rfl, h1⟩⟩

theorem lay_any (seen : List Int) (N : Nat) (ars : List Arr) (K : Nat) (hN : N ≤ 256) (hK : K ≤ 8) (pg g : Nat) (w : World) (hT : Tab w) (hS : TB w pg N (stillT seen N ars)) (hU : T2 w g K N K (lTab seen (stillT seen N ars) ars)) (hSb : ∀ p, p < N → ∀ n ∈ allS ((stillT seen N ars) p), n < N) :
    Calls Tryd.prog 70 #[.slice (some ⟨pg, 0, none⟩) N N, .slice (some ⟨g, 0, none⟩) K K] w fun e W' => LayPost w (layA seen N ars K N 0) e W' :=
  callsIn_wide.1 (lay_in seen N ars K hN hK pg g w (Hid.of hT) (Hid.of hS) (Hid.of hU) (Hid.of hSb))

end Go.Proofs.YtmlkpdeidpcidaaDoor
namespace Go.Proofs.YtmlkpdeidpcidaaDoor
open Go.RowKit
set_option linter.unusedVariables false

theorem sameB_self : ∀ xs : List Int, sameB xs xs = true := by intro xs; simp [sameB]
/-- A call has answered yes or no. -/
def IsBool (e : Ending) : Prop := ∃ bb, e = .returned (.bool bb)
theorem isBool (bb : Bool) : IsBool (.returned (.bool bb)) := ⟨bb, rfl⟩

set_option maxHeartbeats 1000000 in
theorem great_any (m : Mach) (l : ML) (w : World) :
    Calls Tryd.prog 24 #[mval m l] w fun e w' => IsBool e ∧ Below w.heap.size w w' := by
  have B0 : Hid (Below w.heap.size w (w.alloc (.cells (mcells m l) 25))) := (Below.refl _ _).alloc (Nat.le_refl _) _
  go_enter Tryd.func24, Tryd.ntmps24
  go_wp2
  all_goals
    go_ret
    exact ⟨isBool _, B0.out⟩

end Go.Proofs.YtmlkpdeidpcidaaDoor
namespace Go.Proofs.YtmlkpdeidpcidaaDoor
open Go.RowKit
set_option linter.unusedVariables false

theorem sameA_no {k : Nat} {p q : List Arr} {a b : Arr} {t : Bool} (h : k < p.length) (h' : k < q.length) (ha : Hid (a = p[k]?.getD arr0)) (hb : Hid (b = q[k]?.getD arr0)) (e : Hid (t = sameA (p.drop k) (q.drop k))) (hn : ¬ arrEq a b) : false = t := by
  rw [e.out, dropA h, dropA h', ← ha.out, ← hb.out, sameA, if_neg hn]
theorem sameA_yes {k : Nat} {p q : List Arr} {a b : Arr} {t : Bool} (h : k < p.length) (h' : k < q.length) (ha : Hid (a = p[k]?.getD arr0)) (hb : Hid (b = q[k]?.getD arr0)) (e : Hid (t = sameA (p.drop k) (q.drop k))) (hn : arrEq a b) : Hid (t = sameA (p.drop (k + 1)) (q.drop (k + 1))) := by
  show t = _
  rw [e.out, dropA h, dropA h', ← ha.out, ← hb.out, sameA, if_pos hn]
theorem sameA_end {k : Nat} {p q : List Arr} {t : Bool} (h : ¬ k < p.length) (hl : p.length = q.length) (e : Hid (t = sameA (p.drop k) (q.drop k))) : true = t := by
  rw [e.out, List.drop_eq_nil_of_le (by omega), List.drop_eq_nil_of_le (by omega)]; rfl

/-- Are two machines one? -/
def sameM (m n : Mach) : Bool := decide (m.st = n.st ∧ m.ev = n.ev) && (sameB m.starts n.starts && (sameB m.ends n.ends && (decide (m.arrows.length = n.arrows.length) && sameA m.arrows n.arrows)))

theorem sameM_go {m n : Mach} (h1 : m.st = n.st) (h2 : m.ev = n.ev) (h3 : sameB m.starts n.starts = true) (h4 : sameB m.ends n.ends = true) (h5 : m.arrows.length = n.arrows.length) : sameM m n = sameA m.arrows n.arrows := by
  unfold sameM; simp [h1, h2, h3, h4, h5]
theorem sameM_no1 {m n : Mach} (h : ¬ (m.st = n.st ∧ m.ev = n.ev)) : false = sameM m n := by unfold sameM; simp only [h, decide_false, Bool.false_and]
theorem sameM_no2 {m n : Mach} (h : sameB m.starts n.starts = false) : false = sameM m n := by unfold sameM; simp [h]
theorem sameM_no3 {m n : Mach} (h : sameB m.ends n.ends = false) : false = sameM m n := by unfold sameM; simp [h]
theorem sameM_no4 {m n : Mach} (h : ¬ m.arrows.length = n.arrows.length) : false = sameM m n := by unfold sameM; simp [h]

theorem below_box2 {w wr : World} {o o' : Obj} (hb : Below (w.heap.size + 2) ((w.alloc o).alloc o') wr) : Below w.heap.size w wr :=
  (((Below.refl _ _).alloc (Nat.le_refl _) o).alloc (by simp) o').trans (hb.mono (by omega))

theorem box2_cells {w wr : World} {m n : Mach} {l k : ML} {T : TypeId} (hb : Below (w.heap.size + 2) ((w.alloc (.cells (mcells m l) T)).alloc (.cells (mcells n k) T)) wr) :
    (wr.cell? ⟨w.heap.size, 0, none⟩ = some (.int .i64 m.st) ∧ wr.cell? ⟨w.heap.size, 1, none⟩ = some (.int .i64 m.ev) ∧ wr.cell? ⟨w.heap.size, 2, none⟩ = some (.slice l.a1 m.starts.length l.c1) ∧
    wr.cell? ⟨w.heap.size, 3, none⟩ = some (.slice l.a2 m.arrows.length l.c2) ∧ wr.cell? ⟨w.heap.size, 4, none⟩ = some (.slice l.a3 m.ends.length l.c3)) ∧
    (wr.cell? ⟨w.heap.size + 1, 0, none⟩ = some (.int .i64 n.st) ∧ wr.cell? ⟨w.heap.size + 1, 1, none⟩ = some (.int .i64 n.ev) ∧ wr.cell? ⟨w.heap.size + 1, 2, none⟩ = some (.slice k.a1 n.starts.length k.c1) ∧
    wr.cell? ⟨w.heap.size + 1, 3, none⟩ = some (.slice k.a2 n.arrows.length k.c2) ∧ wr.cell? ⟨w.heap.size + 1, 4, none⟩ = some (.slice k.a3 n.ends.length k.c3)) := by
  constructor
  · exact box_cells (((Below.refl _ _).alloc (by simp) _).trans (hb.mono (by omega)))
  · have := box_cells (w := w.alloc (.cells (mcells m l) T)) (wr := wr) (m := n) (l := k) (T := T) (by rw [World.size_alloc]; exact hb)
    rw [World.size_alloc] at this
    exact this

set_option maxHeartbeats 2000000 in
theorem refMSame_big (m n : Mach) (a1 : Option Addr) (c1 b off c2 : Nat) (a3 : Option Addr) (c3 : Nat) (e1 : Option Addr) (d1 b' off' d2 : Nat) (e3 : Option Addr) (d3 : Nat) (w : World)
    (h : MAt w m ⟨a1, c1, some ⟨b, off, none⟩, c2, a3, c3⟩) (hb : b < w.heap.size) (hca : CellsA w b off m.arrows)
    (h' : MAt w n ⟨e1, d1, some ⟨b', off', none⟩, d2, e3, d3⟩) (hb' : b' < w.heap.size) (hca' : CellsA w b' off' n.arrows)
    (q1 : Hid (m.st = n.st)) (q2 : Hid (m.ev = n.ev)) (q3 : Hid (sameB m.starts n.starts = true)) (q4 : Hid (sameB m.ends n.ends = true)) (q5 : Hid (m.arrows.length = n.arrows.length)) :
    Calls Tryd.prog 75 #[mval m ⟨a1, c1, some ⟨b, off, none⟩, c2, a3, c3⟩, mval n ⟨e1, d1, some ⟨b', off', none⟩, d2, e3, d3⟩] w fun e w' => e = .returned (.bool (sameM m n)) ∧ Below w.heap.size w w' := by
  have z1 : m.arrows.length ≤ 9223372036854775807 := Nat.le_trans h.a1 h.a2
  have z2 : n.arrows.length ≤ 9223372036854775807 := Nat.le_trans h'.a1 h'.a2
  have l1 : m.starts.length ≤ maxLen := Nat.le_trans h.s1 h.s2
  have l2 : n.starts.length ≤ maxLen := Nat.le_trans h'.s1 h'.s2
  have l3 : m.ends.length ≤ maxLen := Nat.le_trans h.e1 h.e2
  have l4 : n.ends.length ≤ maxLen := Nat.le_trans h'.e1 h'.e2
  have hgo : Hid (sameM m n = sameA (m.arrows.drop 0) (n.arrows.drop 0)) := sameM_go q1.out q2.out q3.out q4.out q5.out
  have f1 : (m.st != n.st) = false := by simp [q1.out]
  have f2 : (m.ev != n.ev) = false := by simp [q2.out]
  have f5 : ((m.arrows.length : Int) != (n.arrows.length : Int)) = false := by simp [q5.out]
  have b0 : Below w.heap.size w ((w.alloc (.cells (mcells m ⟨a1, c1, some ⟨b, off, none⟩, c2, a3, c3⟩) 25)).alloc (.cells (mcells n ⟨e1, d1, some ⟨b', off', none⟩, d2, e3, d3⟩) 25)) := ((Below.refl _ _).alloc (Nat.le_refl _) _).alloc (by simp) _
  have g := h.below b0 (Nat.le_refl _)
  have g' := h'.below b0 (Nat.le_refl _)
  go_enter Tryd.func75, Tryd.ntmps75
  go_wp2_with fail
  refine (same_any a1 e1 c1 d1 m.starts n.starts _ g.s g'.s l1 l2).mono ?_
  rintro e w1 ⟨rfl, r1, rfl⟩
  rw [q3.out]
  go_wp2_with fail
  refine (same_any a3 e3 c3 d3 m.ends n.ends _ (At.drewN g.e r1) (At.drewN g'.e r1) l3 l4).mono ?_
  rintro e w1 ⟨rfl, r2, rfl⟩
  rw [q4.out]
  clear g g' h h' b0
  go_wp2_with fail
  go_loopw [5] (fun i wr => ∃ k : Nat, k ≤ m.arrows.length ∧ i = .int .i64 k ∧ Below (w.heap.size + 2) ((w.alloc (.cells (mcells m ⟨a1, c1, some ⟨b, off, none⟩, c2, a3, c3⟩) 25)).alloc (.cells (mcells n ⟨e1, d1, some ⟨b', off', none⟩, d2, e3, d3⟩) 25)) wr ∧ Hid (sameM m n = sameA (m.arrows.drop k) (n.arrows.drop k))) (fun i _ => m.arrows.length - (intOf i).toNat)
  case atStart => exact ⟨0, Nat.zero_le _, rfl, below_drewN (Below.refl _ _) _, hgo⟩
  case round =>
    obtain ⟨k, hk, rfl, hbel, hr⟩ := hrel
    obtain ⟨⟨x0, x1, x2, x3, x4⟩, ⟨t0, t1, t2, t3, t4⟩⟩ := box2_cells hbel
    dsimp only at x3 t3
    have hold := below_box2 hbel
    by_cases hlt : k < m.arrows.length
    · have hlt' : k < n.arrows.length := by have := q5.out; omega
      obtain ⟨a, HA, y0, y1, y2⟩ := hca.at hlt
      have y0' := (hold.cell (p := ⟨b, off + k * 3, none⟩) hb).trans y0
      have y1' := (hold.cell (p := ⟨b, off + k * 3 + 1, none⟩) hb).trans y1
      have y2' := (hold.cell (p := ⟨b, off + k * 3 + 2, none⟩) hb).trans y2
      obtain ⟨c, HC, v0, v1, v2⟩ := hca'.at hlt'
      have v0' := (hold.cell (p := ⟨b', off' + k * 3, none⟩) hb').trans v0
      have v1' := (hold.cell (p := ⟨b', off' + k * 3 + 1, none⟩) hb').trans v1
      have v2' := (hold.cell (p := ⟨b', off' + k * 3 + 2, none⟩) hb').trans v2
      clear y0 y1 y2 v0 v1 v2 x0 x1 x2 x4 t0 t1 t2 t4
      have heq : ∀ w : World, (Op.equalIn 10000 81 (.agg #[.int .i64 a.f, .int .i64 a.e, .int .i64 a.t]) (.agg #[.int .i64 c.f, .int .i64 c.e, .int .i64 c.t])).run Tryd.prog w = .ok (arrEqB a c) w := run_equalIn_arrow a c
      have hgd := run_guard_arrow
      by_cases hq : arrEq a c
      · have HQ : Hid (arrEq a c) := hq
        have fq : arrEqB a c = true := by simp [arrEqB, hq]
        clear hq
        go_wp2
        go_quiet (fail)
        go_wp2
        go_roundw
        case rel => exact ⟨k + 1, by omega, by go_num, below_drewN hbel _, sameA_yes hlt hlt' HA HC hr HQ.out⟩
        case measure => simp [intOf]; omega
      · have HQ : Hid (¬ arrEq a c) := hq
        have fq : arrEqB a c = false := by simp [arrEqB, hq]
        clear hq
        go_wp2
        go_quiet (fail)
        go_wp2
        go_ret
        exact ⟨ret_bool (sameA_no hlt hlt' HA HC hr HQ.out), below_drewN hold _⟩
    · go_wp2
      go_ret
      exact ⟨ret_bool (sameA_end hlt q5.out hr), hold⟩

set_option maxHeartbeats 1000000 in
theorem refMSame_st (m n : Mach) (l k : ML) (w : World) (h : MAt w m l) (h' : MAt w n k) (q1 : Hid (¬ m.st = n.st)) :
    Calls Tryd.prog 75 #[mval m l, mval n k] w fun e w' => e = .returned (.bool (sameM m n)) ∧ Below w.heap.size w w' := by
  have b0 : Below w.heap.size w ((w.alloc (.cells (mcells m l) 25)).alloc (.cells (mcells n k) 25)) := ((Below.refl _ _).alloc (Nat.le_refl _) _).alloc (by simp) _
  have f1 : (m.st != n.st) = true := by simp [q1.out]
  go_enter Tryd.func75, Tryd.ntmps75
  go_wp2
  go_ret
  exact ⟨ret_bool (sameM_no1 (fun h => q1.out h.1)), b0⟩

set_option maxHeartbeats 1000000 in
theorem refMSame_ev (m n : Mach) (l k : ML) (w : World) (h : MAt w m l) (h' : MAt w n k) (q1 : Hid (m.st = n.st)) (q2 : Hid (¬ m.ev = n.ev)) :
    Calls Tryd.prog 75 #[mval m l, mval n k] w fun e w' => e = .returned (.bool (sameM m n)) ∧ Below w.heap.size w w' := by
  have b0 : Below w.heap.size w ((w.alloc (.cells (mcells m l) 25)).alloc (.cells (mcells n k) 25)) := ((Below.refl _ _).alloc (Nat.le_refl _) _).alloc (by simp) _
  have f1 : (m.st != n.st) = false := by simp [q1.out]
  have f2 : (m.ev != n.ev) = true := by simp [q2.out]
  go_enter Tryd.func75, Tryd.ntmps75
  go_wp2
  go_ret
  exact ⟨ret_bool (sameM_no1 (fun h => q2.out h.2)), b0⟩

set_option maxHeartbeats 1000000 in
theorem refMSame_starts (m n : Mach) (l k : ML) (w : World) (h : MAt w m l) (h' : MAt w n k) (q1 : Hid (m.st = n.st))(q2 : Hid (m.ev = n.ev))(q3 : Hid (sameB m.starts n.starts = false)) :
    Calls Tryd.prog 75 #[mval m l, mval n k] w fun e w' => e = .returned (.bool (sameM m n)) ∧ Below w.heap.size w w' := by
  have l1 : m.starts.length ≤ maxLen := Nat.le_trans h.s1 h.s2
  have l2 : n.starts.length ≤ maxLen := Nat.le_trans h'.s1 h'.s2
  have l3 : m.ends.length ≤ maxLen := Nat.le_trans h.e1 h.e2
  have l4 : n.ends.length ≤ maxLen := Nat.le_trans h'.e1 h'.e2
  have b0 : Below w.heap.size w ((w.alloc (.cells (mcells m l) 25)).alloc (.cells (mcells n k) 25)) := ((Below.refl _ _).alloc (Nat.le_refl _) _).alloc (by simp) _
  have g := h.below b0 (Nat.le_refl _)
  have g' := h'.below b0 (Nat.le_refl _)
  have f1 : (m.st != n.st) = false := by simp [q1.out]
  have f2 : (m.ev != n.ev) = false := by simp [q2.out]
  go_enter Tryd.func75, Tryd.ntmps75
  go_wp2_with fail
  refine (same_any l.a1 k.a1 l.c1 k.c1 m.starts n.starts _ g.s g'.s l1 l2).mono ?_
  rintro e w1 ⟨rfl, r1, rfl⟩
  rw [q3.out]
  go_wp2
  go_ret
  exact ⟨ret_bool (sameM_no2 q3.out), below_drewN b0 _⟩

set_option maxHeartbeats 1000000 in
theorem refMSame_ends (m n : Mach) (l k : ML) (w : World) (h : MAt w m l) (h' : MAt w n k) (q1 : Hid (m.st = n.st))(q2 : Hid (m.ev = n.ev))(q3 : Hid (sameB m.starts n.starts = true))(q4 : Hid (sameB m.ends n.ends = false)) :
    Calls Tryd.prog 75 #[mval m l, mval n k] w fun e w' => e = .returned (.bool (sameM m n)) ∧ Below w.heap.size w w' := by
  have l1 : m.starts.length ≤ maxLen := Nat.le_trans h.s1 h.s2
  have l2 : n.starts.length ≤ maxLen := Nat.le_trans h'.s1 h'.s2
  have l3 : m.ends.length ≤ maxLen := Nat.le_trans h.e1 h.e2
  have l4 : n.ends.length ≤ maxLen := Nat.le_trans h'.e1 h'.e2
  have b0 : Below w.heap.size w ((w.alloc (.cells (mcells m l) 25)).alloc (.cells (mcells n k) 25)) := ((Below.refl _ _).alloc (Nat.le_refl _) _).alloc (by simp) _
  have g := h.below b0 (Nat.le_refl _)
  have g' := h'.below b0 (Nat.le_refl _)
  have f1 : (m.st != n.st) = false := by simp [q1.out]
  have f2 : (m.ev != n.ev) = false := by simp [q2.out]
  go_enter Tryd.func75, Tryd.ntmps75
  go_wp2_with fail
  refine (same_any l.a1 k.a1 l.c1 k.c1 m.starts n.starts _ g.s g'.s l1 l2).mono ?_
  rintro e w1 ⟨rfl, r1, rfl⟩
  rw [q3.out]
  go_wp2_with fail
  refine (same_any l.a3 k.a3 l.c3 k.c3 m.ends n.ends _ (At.drewN g.e r1) (At.drewN g'.e r1) l3 l4).mono ?_
  rintro e w1 ⟨rfl, r2, rfl⟩
  rw [q4.out]
  go_wp2
  go_ret
  exact ⟨ret_bool (sameM_no3 q4.out), below_drewN b0 _⟩

set_option maxHeartbeats 1000000 in
theorem refMSame_len (m n : Mach) (l k : ML) (w : World) (h : MAt w m l) (h' : MAt w n k) (q1 : Hid (m.st = n.st))(q2 : Hid (m.ev = n.ev))(q3 : Hid (sameB m.starts n.starts = true))(q4 : Hid (sameB m.ends n.ends = true))(q5 : Hid (¬ m.arrows.length = n.arrows.length)) :
    Calls Tryd.prog 75 #[mval m l, mval n k] w fun e w' => e = .returned (.bool (sameM m n)) ∧ Below w.heap.size w w' := by
  have l1 : m.starts.length ≤ maxLen := Nat.le_trans h.s1 h.s2
  have l2 : n.starts.length ≤ maxLen := Nat.le_trans h'.s1 h'.s2
  have l3 : m.ends.length ≤ maxLen := Nat.le_trans h.e1 h.e2
  have l4 : n.ends.length ≤ maxLen := Nat.le_trans h'.e1 h'.e2
  have b0 : Below w.heap.size w ((w.alloc (.cells (mcells m l) 25)).alloc (.cells (mcells n k) 25)) := ((Below.refl _ _).alloc (Nat.le_refl _) _).alloc (by simp) _
  have g := h.below b0 (Nat.le_refl _)
  have g' := h'.below b0 (Nat.le_refl _)
  have f1 : (m.st != n.st) = false := by simp [q1.out]
  have f2 : (m.ev != n.ev) = false := by simp [q2.out]
  have f5 : ((m.arrows.length : Int) != (n.arrows.length : Int)) = true := by have := q5.out; rw [bne_iff_ne]; omega
  go_enter Tryd.func75, Tryd.ntmps75
  go_wp2_with fail
  refine (same_any l.a1 k.a1 l.c1 k.c1 m.starts n.starts _ g.s g'.s l1 l2).mono ?_
  rintro e w1 ⟨rfl, r1, rfl⟩
  rw [q3.out]
  go_wp2_with fail
  refine (same_any l.a3 k.a3 l.c3 k.c3 m.ends n.ends _ (At.drewN g.e r1) (At.drewN g'.e r1) l3 l4).mono ?_
  rintro e w1 ⟨rfl, r2, rfl⟩
  rw [q4.out]
  go_wp2
  go_ret
  exact ⟨ret_bool (sameM_no4 q5.out), below_drewN b0 _⟩

set_option maxHeartbeats 1000000 in
theorem refMSame_none (m n : Mach) (l k : ML) (w : World) (h : MAt w m l) (h' : MAt w n k) (q1 : Hid (m.st = n.st))(q2 : Hid (m.ev = n.ev))(q3 : Hid (sameB m.starts n.starts = true))(q4 : Hid (sameB m.ends n.ends = true))(p1 : Hid (m.arrows = [])) (p2 : Hid (n.arrows = [])) :
    Calls Tryd.prog 75 #[mval m l, mval n k] w fun e w' => e = .returned (.bool (sameM m n)) ∧ Below w.heap.size w w' := by
  have l1 : m.starts.length ≤ maxLen := Nat.le_trans h.s1 h.s2
  have l2 : n.starts.length ≤ maxLen := Nat.le_trans h'.s1 h'.s2
  have l3 : m.ends.length ≤ maxLen := Nat.le_trans h.e1 h.e2
  have l4 : n.ends.length ≤ maxLen := Nat.le_trans h'.e1 h'.e2
  have b0 : Below w.heap.size w ((w.alloc (.cells (mcells m l) 25)).alloc (.cells (mcells n k) 25)) := ((Below.refl _ _).alloc (Nat.le_refl _) _).alloc (by simp) _
  have g := h.below b0 (Nat.le_refl _)
  have g' := h'.below b0 (Nat.le_refl _)
  have f1 : (m.st != n.st) = false := by simp [q1.out]
  have f2 : (m.ev != n.ev) = false := by simp [q2.out]
  have n1 : m.arrows.length = 0 := by rw [p1.out]; rfl
  have n2 : n.arrows.length = 0 := by rw [p2.out]; rfl
  have HG : Hid (true = sameM m n) := by
    show true = sameM m n
    rw [sameM_go q1.out q2.out q3.out q4.out (by rw [n1, n2]), p1.out, p2.out]; rfl
  go_enter Tryd.func75, Tryd.ntmps75
  go_wp2_with fail
  refine (same_any l.a1 k.a1 l.c1 k.c1 m.starts n.starts _ g.s g'.s l1 l2).mono ?_
  rintro e w1 ⟨rfl, r1, rfl⟩
  rw [q3.out]
  go_wp2_with fail
  refine (same_any l.a3 k.a3 l.c3 k.c3 m.ends n.ends _ (At.drewN g.e r1) (At.drewN g'.e r1) l3 l4).mono ?_
  rintro e w1 ⟨rfl, r2, rfl⟩
  rw [q4.out]
  go_wp2_with fail
  refine wp_loop_rounds 1 ?_
  rw [rounds_succ]
  go_wp2
  go_ret
  exact ⟨ret_bool HG.out, below_drewN b0 _⟩

theorem refMSame_any (m n : Mach) (l k : ML) (w : World) (h : MAt w m l) (h' : MAt w n k) :
    Calls Tryd.prog 75 #[mval m l, mval n k] w fun e w' => e = .returned (.bool (sameM m n)) ∧ Below w.heap.size w w' := by
  by_cases q1 : m.st = n.st
  · by_cases q2 : m.ev = n.ev
    · by_cases q3 : sameB m.starts n.starts = true
      · by_cases q4 : sameB m.ends n.ends = true
        · by_cases q5 : m.arrows.length = n.arrows.length
          · obtain ⟨a1, c1, a2, c2, a3, c3⟩ := l
            obtain ⟨e1, d1, e2, d2, e3, d3⟩ := k
            rcases h.a with h0 | ⟨b, off, h0, hb, hc⟩
            · exact refMSame_none m n _ _ w h h' q1 q2 q3 q4 h0 (List.eq_nil_of_length_eq_zero (by rw [← q5, h0]; rfl))
            · rcases h'.a with h0' | ⟨b', off', h0', hb', hc'⟩
              · exact refMSame_none m n _ _ w h h' q1 q2 q3 q4 (List.eq_nil_of_length_eq_zero (by rw [q5, h0']; rfl)) h0'
              · have h0 : a2 = some ⟨b, off, none⟩ := h0
                subst h0
                have h0' : e2 = some ⟨b', off', none⟩ := h0'
                subst h0'
                exact refMSame_big m n a1 c1 b off c2 a3 c3 e1 d1 b' off' d2 e3 d3 w h hb hc h' hb' hc' q1 q2 q3 q4 q5
          · exact refMSame_len m n l k w h h' q1 q2 q3 q4 q5
        · exact refMSame_ends m n l k w h h' q1 q2 q3 (by show _ = _; rw [← Bool.not_eq_true]; exact q4)
      · exact refMSame_starts m n l k w h h' q1 q2 (by show _ = _; rw [← Bool.not_eq_true]; exact q3)
    · exact refMSame_ev m n l k w h h' q1 q2
  · exact refMSame_st m n l k w h h' q1

end Go.Proofs.YtmlkpdeidpcidaaDoor
namespace Go.Proofs.YtmlkpdeidpcidaaDoor
open Go.RowKit
set_option linter.unusedVariables false

theorem sameA_self : ∀ l : List Arr, sameA l l = true
  | [] => rfl
  | a :: r => by simp [sameA, sameA_self r]
theorem sameM_self (m : Mach) : sameM m m = true := by
  rw [sameM_go rfl rfl (sameB_self _) (sameB_self _) rfl]; exact sameA_self _
theorem mat0 (w : World) : MAt w m0 ml0 := ⟨.inl rfl, .inl rfl, .inl rfl, Nat.le_refl _, Nat.zero_le _, fun _ => rfl, Nat.le_refl _, Nat.zero_le _, fun _ => rfl, Nat.le_refl _, Nat.zero_le _, fun _ => rfl⟩
set_option maxHeartbeats 1000000 in
theorem machines_any (m n : Mach) (l k : ML) (w : World) (h : MAt w m l) (h' : MAt w n k) :
    Calls Tryd.prog 27 #[mval m l, mval n k] w fun e w' => e = .returned (.bool (sameM m n)) ∧ Below w.heap.size w w' := by
  have B0 : Hid (Below w.heap.size w ((w.alloc (.cells (mcells m l) 25)).alloc (.cells (mcells n k) 25))) := ((Below.refl _ _).alloc (Nat.le_refl _) _).alloc (by simp) _
  have H := Hid.of (h.below B0.out (Nat.le_refl _))
  have H' := Hid.of (h'.below B0.out (Nat.le_refl _))
  clear h h'
  go_enter Tryd.func27, Tryd.ntmps27
  go_wp2_with fail
  refine (refMSame_any m n l k _ H.out H'.out).mono ?_
  rintro e w1 ⟨rfl, hb⟩
  have HB := Hid.of (B0.out.trans (hb.mono B0.out.size))
  clear hb
  go_wp2
  go_ret
  exact ⟨rfl, HB.out⟩

end Go.Proofs.YtmlkpdeidpcidaaDoor
namespace Go.Proofs.YtmlkpdeidpcidaaDoor
open Go.RowKit
set_option linter.unusedVariables false

theorem results_twoM {fn : Func} {p u : Tmp} (h : fn.results = #[.cell p 25, .tmp u]) (tmps : Array Value) (w : World) (g : Nat) (m : Mach) (l : ML) (x : Value) (hp : tmps.getD p undef = .pointer (some ⟨g, 0, none⟩)) (hu : tmps.getD u undef = x) (hB : Blk w g 25 (mcells m l)) :
    (results fn tmps).run Tryd.prog w = .ok (.tuple #[mval m l, x]) w := by
  obtain ⟨x0, x1, x2, x3, x4⟩ := mcell_at hB
  have e : (results fn tmps).run Tryd.prog w = ((asAddr (tmps.getD p undef)).run Tryd.prog w).andThen fun a w₁ => ((loadVar 25 a).run Tryd.prog w₁).andThen fun r w₂ => .ok (.tuple #[r, tmps.getD u undef]) w₂ := by
    simp only [results, h]
    simp [Sem.run_bind, Result.andThen]
  rw [e, hp, hu]
  go_simp

/-- What Hide leaves where something is wrong. -/
def HErr (c : Int) (w : World) (e : Ending) (w' : World) : Prop := e = .returned (.tuple #[mval m0 ml0, .int .i64 c]) ∧ Below w.heap.size w w'
/-- What Hide leaves. -/
def HidePost (w : World) (m : Mach) (seen : List Int) (e : Ending) (w' : World) : Prop :=
  if mayB m = false ∨ rowB m.ev seen = false then HErr 2 w e w'
  else if (hAll m seen m.st.toNat).length ≤ 4096 then ∃ L, e = .returned (.tuple #[mval (hideM m seen) L, .int .i64 0]) ∧ MAt w' (hideM m seen) L ∧ Below w.heap.size w w'
  else HErr 1 w e w'

end Go.Proofs.YtmlkpdeidpcidaaDoor
