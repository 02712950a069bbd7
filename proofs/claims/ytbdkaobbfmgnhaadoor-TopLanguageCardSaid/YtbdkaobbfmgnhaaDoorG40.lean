/-
  What is said on the way through hide.lay: what lies where, and what a range over a set leaves as it was.
  The walk of hide.lay: the arrows of all ways, state by state, event by event; it leaves off where they do not fit.
-/
import Derived.Test.YtbdkaobbfmgnhaaDoorG37
import Derived.Test.YtbdkaobbfmgnhaaDoorCHLoud
import Derived.Test.YtbdkaobbfmgnhaaDoorG05
import Derived.Test.YtbdkaobbfmgnhaaDoorG04
namespace Go.Proofs.YtbdkaobbfmgnhaaDoor
open Go.RowKit Go.Shelf
set_option linter.unusedVariables false

/-- But for the box and what it held, nothing has turned. -/
def KB (W0 W : World) (bA : Nat) (v0 : Value) : Prop := (∀ j, j < W0.heap.size → j ≠ bA → some j ≠ v0.ownBlock → W.heap[j]? = W0.heap[j]?) ∧ W0.heap.size ≤ W.heap.size
theorem KB.refl (W : World) (bA : Nat) (v0 : Value) : KB W W bA v0 := ⟨fun _ _ _ _ => rfl, Nat.le_refl _⟩
theorem kb_own {β : Type} {W0 : World} {bA : Nat} {v0 : Value} : OwnFrom W0.heap.size (fun (_ : β) W => KB W0 W bA v0) := fun s W W' row h hg hr =>
  ⟨fun j hj h1 h2 => (hg.block j (Nat.lt_of_lt_of_le hj h.2) (fun e => by have := (hr j e.symm).1; omega)).trans (h.1 j hj h1 h2), Nat.le_trans h.2 hg.size⟩
/-- What the box holds now: what it held, or a new block. -/
def NewB (W0 : World) (v0 v : Value) : Prop := v.ownBlock = v0.ownBlock ∨ ∀ j, v.ownBlock = some j → W0.heap.size ≤ j
theorem KB.step {W0 W w1 : World} {bA : Nat} {v0 v v' : Value} {tmp : Obj} (h : KB W0 W bA v0) (hn : NewB W0 v0 v) (hg : (W.alloc tmp).grownBy w1 v.ownBlock) : KB W0 (w1.setCell ⟨bA, 0, none⟩ v') bA v0 := by
  have hz : W.heap.size + 1 ≤ w1.heap.size := by have := hg.size; simpa using this
  refine ⟨fun j hj h1 h2 => ?_, ?_⟩
  · have hjW := Nat.lt_of_lt_of_le hj h.2
    rw [Below.heap_setCell w1 ⟨bA, 0, none⟩ v' j h1]
    rw [hg.block j (by rw [World.size_alloc]; omega) (fun e => ?_), Below.heap_alloc W tmp j hjW]
    · exact h.1 j hj h1 h2
    · rcases hn with hn | hn
      · exact h2 (by rw [← hn]; exact e)
      · have := hn j e.symm; omega
  · have := h.2
    simp [World.setCell]; omega
theorem addr_add0 (b j : Nat) : (⟨b, 0, none⟩ : Addr).add j = ⟨b, j, none⟩ := by unfold Addr.add; split <;> simp_all
theorem cell3_new (W : World) (t : TypeId) (a b c : Value) : ∀ j u, [a, b, c][j]? = some u → (W.alloc (.cells #[a, b, c] t)).cell? ((⟨W.heap.size, 0, none⟩ : Addr).add j) = some u := by
  intro j u h
  have hb := Blk.new W t #[a, b, c]
  rw [show (⟨W.heap.size, 0, none⟩ : Addr).add j = ⟨W.heap.size, j, none⟩ from addr_add0 _ _]
  refine hb.cell j ?_
  simpa using h

/-- The arrows of a state at an event, as they come. -/
def prA {N : Nat} (f k : Nat) (pre : List (NB N)) : List Arr := pre.map fun x => ⟨(f : Int), (k : Int), (x.1 : Int)⟩
theorem prA_snoc {N : Nat} (f k : Nat) (pre : List (NB N)) (x : NB N) : prA f k (pre ++ [x]) = prA f k pre ++ [⟨(f : Int), (k : Int), (x.1 : Int)⟩] := by simp [prA]
theorem prA_len {N : Nat} (f k : Nat) (pre : List (NB N)) : (prA f k pre).length = pre.length := by simp [prA]
theorem aflat_snoc (L : List Arr) (a : Arr) : aflat (L ++ [a]) = aflat L ++ [.int .i64 a.f, .int .i64 a.e, .int .i64 a.t] := by rw [aflat_append]; rfl

/-- What lay knows of the memory: the arrows' box, what it holds, the marks. -/
structure YI (w W : World) (Ds : List Nat) (A : List Arr) : Prop where
  box : ∃ v, Boxed W w.heap.size 23 v ∧ OwnA W w.heap.size v A
  bel : Below w.heap.size w W
  mks : Marks w.heap.size Ds W
theorem YI.below {w W W' : World} {Ds : List Nat} {A : List Arr} (h : YI w W Ds A) (hb : Below W.heap.size W W') : YI w W' Ds A := by
  obtain ⟨v, h1, h2⟩ := h.box
  exact ⟨⟨v, Blk.below h1 hb h1.lt, h2.kept hb (Nat.le_refl _)⟩, h.bel.trans (hb.mono h.bel.size), h.mks.below hb h.mks.lt⟩
theorem YI.alloc {w W : World} {Ds : List Nat} {A : List Arr} (h : YI w W Ds A) (o : Obj) : YI w (W.alloc o) Ds A := h.below ((Below.refl _ _).alloc (Nat.le_refl _) o)
theorem YI.start (w : World) : YI w (w.alloc (.cells #[.slice none 0 0] 23)) [] [] :=
  ⟨⟨_, Boxed.new w 23 (.slice none 0 0), ownA_nil _ _⟩, (Below.refl _ _).alloc (Nat.le_refl _) _, ⟨fun D hD => by simp at hD, List.nodup_nil⟩⟩
/-- A block of cells of another kind lies as it lay. -/
theorem KB.blk {W0 W : World} {bA b : Nat} {v0 : Value} {t : TypeId} {cs : Array Value} {B n : Nat} {xs : List Value} (h : KB W0 W bA v0) (hb : Blk W0 b t cs) (hne : b ≠ bA) (ho : W0.ownsRow B 58 3 v0 n xs) (ht : t ≠ 58) : Blk W b t cs := by
  refine (h.1 b hb.lt hne (fun e => ?_)).trans hb
  rcases ho.2 with ⟨rfl, _⟩ | ⟨g, cap, cur, rfl, _, hgb, _⟩
  · simp [Value.ownBlock] at e
  · have e : b = g := by simpa [Value.ownBlock] using e
    rw [e] at hb
    rw [show W0.heap[g]? = _ from hb] at hgb
    simp only [Option.some.injEq, Obj.cells.injEq] at hgb
    exact ht hgb.2.1
theorem KB.marks {W0 W : World} {bA : Nat} {v0 : Value} {B B' n : Nat} {xs : List Value} {Ds : List Nat} (h : KB W0 W bA v0) (hm : Marks B Ds W0) (hbx : ∃ v, Boxed W0 bA 23 v) (ho : W0.ownsRow B' 58 3 v0 n xs) : Marks B Ds W := by
  refine ⟨fun D hD => ⟨(hm.at' D hD).1, (h.1 D (hm.lt D hD) (fun e => ?_) (fun e => ?_)).trans (hm.at' D hD).2⟩, hm.nd⟩
  · obtain ⟨v, hv⟩ := hbx
    have h1 := (hm.at' D hD).2
    rw [e, show W0.heap[bA]? = _ from hv] at h1
    cases h1
  · have h1 := (hm.at' D hD).2
    rcases ho.2 with ⟨rfl, _⟩ | ⟨g, cap, cur, rfl, _, hgb, _⟩
    · simp [Value.ownBlock] at e
    · have e : D = g := by simpa [Value.ownBlock] using e
      rw [e, hgb] at h1
      cases h1

theorem NewB.step {W0 W : World} {v0 v v' : Value} {tmp : Obj} (h : NewB W0 v0 v) (hz : W0.heap.size ≤ W.heap.size) (hb : v'.ownBlock = v.ownBlock ∨ v'.ownBlock = some (W.alloc tmp).heap.size) : NewB W0 v0 v' := by
  rcases hb with hb | hb
  · rcases h with h | h
    · exact .inl (hb.trans h)
    · exact .inr (fun j hj => h j (hb ▸ hj))
  · refine .inr (fun j hj => ?_)
    rw [hb, World.size_alloc] at hj
    have := Option.some.inj hj
    omega
/-- append onto a row of the call's own, inside a range over a function: the row stays in its block, or it is in a new one. -/
theorem wpListIn_append_block {F : Fence} {n : Nat} {P : Program} (w : World) {ops : Array Oper} {rest : List Oper} {o : Oper} {a : Act} {Q : Exit → Act → World → Prop}
    (hg : o.guard = none) (s x : Operand) (t : TypeId) (hop : o.op = Op.call { callee := Callee.builtin Builtin.append, args := #[s, x], argTypes := #[t, t] })
    (base : Nat) (e : TypeId) (i : TypeInfo) (z : Value) (size bytes : Nat) (h1 : P.underlying t = some (.slice e)) (h2 : P.info? e = some i) (h3 : i.zero = some z) (h4 : i.size = size) (h5 : i.bytes = bytes) (h6 : z.cells.size = size) (h7 : 0 < size)
    (v : Value) (k : Nat) (xs : List Value) (hs : a.eval s = v) (hown : w.ownsRow base e size v k xs) (ad : Addr) (m c : Nat) (news : List Value) (hx : a.eval x = .slice (some ad) m c) (hn : news.length = m * size)
    (hc : ∀ j u, news[j]? = some u → w.cell? (ad.add j) = some u) (h1c : ∀ u ∈ news, u.oneCell' = true) (hm : 0 < m) (b1 : k + m ≤ maxLen) (b2 : (k + m) * bytes ≤ 140737488355328) (b3 : base ≤ w.heap.size)
    (hK : ∀ v' w', w'.ownsRow base e size v' (k + m) (xs ++ news) → w.grownBy w' v.ownBlock → (v'.ownBlock = v.ownBlock ∨ v'.ownBlock = some w.heap.size) → wpListIn F n P ops Q rest (a.put o.dst v') w') :
    wpListIn F n P ops Q (o :: rest) a w := by
  obtain ⟨v', w', hrun, r1, r2, r3⟩ := run_append_block (P := P) w base t o.type e i z size bytes h1 h2 h3 h4 h5 h6 h7 v k xs hown ad m c news hn hc h1c hm b1 b2 b3
  refine wpListIn_plain hg fun K hK' => ?_
  unfold Oper.wpIn
  refine ⟨by simp [Oper.about, hop, resolve, Target.leads, Sem.run_pure], ?_⟩
  rw [Oper.semAt_plain F _ _ (by rw [hop]; intro c hc'; cases hc')]
  simp [execOp, hop, resolve, invoke, builtin, hs, hx, hrun, Result.andThen]
  exact hK' _ _ (hK v' w' r1 r2 r3)

end Go.Proofs.YtbdkaobbfmgnhaaDoor
namespace Go.Proofs.YtbdkaobbfmgnhaaDoor
open Go.RowKit Go.Shelf
set_option linter.unusedVariables false
attribute [local go_sem] Oper.semAt_some

/-- What lay leaves. -/
def LayPost (w : World) (A : List Arr) (e : Ending) (W' : World) : Prop := Below w.heap.size w W' ∧ ((A.length ≤ 4096 ∧ ∃ v, e = .returned (.tuple #[v, .bool true]) ∧ OwnA W' w.heap.size v A) ∨ (¬ A.length ≤ 4096 ∧ e = .returned (.tuple #[.slice none 0 0, .bool false])))

theorem results_pair {fn : Func} {u v : Tmp} (h : fn.results = #[.tmp u, .tmp v]) (tmps : Array Value) (P : Program) (w : World) : (results fn tmps).run P w = .ok (.tuple #[tmps.getD u undef, tmps.getD v undef]) w := by
  simp [results, h]

set_option maxRecDepth 100000 in
set_option maxHeartbeats 4000000 in
theorem lay_in (seen : List Int) (N : Nat) (ars : List Arr) (K : Nat) (hN : N ≤ 256) (hK : K ≤ 8) (pg g : Nat) (w : World) (hT : Hid (Tab w)) (hS : Hid (TB w pg N (stillT seen N ars))) (hU : Hid (T2 w g K N K (lTab seen (stillT seen N ars) ars))) (hSb : Hid (∀ p, p < N → ∀ n ∈ allS ((stillT seen N ars) p), n < N)) :
    CallsIn Fence.wide 5 Tryd.prog 70 #[.slice (some ⟨pg, 0, none⟩) N N, .slice (some ⟨g, 0, none⟩) K K] w fun e W' => LayPost w (layA seen N ars K N 0) e W' := by
  obtain ⟨i0, hi, hz0, hz1, hz2⟩ := info_parts Tryd.infoArrow
  have Y0 := Hid.of (YI.start w)
  refine callsIn_of_wp_marks Tryd.func70 rfl trivial ?_ rfl
  simp only [Tryd.ntmps70, List.size_toArray, List.length_cons, List.length_nil, Nat.reduceAdd, Nat.reduceSub, Array.replicate_succ, Array.replicate_zero, List.push_toArray, List.append_toArray, List.nil_append, List.cons_append]
  refine wpIn_wide.2 ?_
  go_wp2
  revert Y0
  generalize w.alloc (.cells #[.slice none 0 0] 23) = W0
  intro Y0
  refine wp_loop (fun a' W' => ∃ (f : Nat) (Ds : List Nat) (u7 u8 u9 u14 u15 u16 u17 u18 u19 u20 u21 u22 u23 u24 u25 u26 u27 u28 u29 u38 u39 u40 u41 u42 : Value), f ≤ N ∧ Hid (YI w W' Ds (layA seen N ars K f 0)) ∧ Hid ((layA seen N ars K f 0).length ≤ 4096) ∧ a' = { tmps := #[.slice (some ⟨pg, 0, none⟩) N N, .slice (some ⟨g, 0, none⟩) K K, undef, undef, .slice none 0 0, .bool false, .pointer (some ⟨w.heap.size, 0, none⟩), u7, u8, u9, undef, .slice (some ⟨pg, 0, none⟩) N N, .int .i64 N, .int .i64 f, u14, u15, u16, u17, u18, u19, u20, u21, u22, u23, u24, u25, u26, u27, u28, u29, undef, undef, undef, undef, undef, undef, undef, undef, u38, u39, u40, u41, u42, undef], defers := Ds.map mark }) (fun a' _ => N - (intOf (a'.tmps[13]?.getD undef)).toNat) ?start ?round
  case start => exact ⟨0, [], _, _, _, _, _, _, _, _, _, _, _, _, _, _, _, _, _, _, _, _, _, _, _, _, by omega, by rw [layA_zero]; exact Y0, by show _ ≤ _; rw [layA_zero]; simp, rfl⟩
  case round =>
    clear Y0
    rintro a' W ⟨f, Ds, u7, u8, u9, u14, u15, u16, u17, u18, u19, u20, u21, u22, u23, u24, u25, u26, u27, u28, u29, u38, u39, u40, u41, u42, hf, HY, HL, rfl⟩
    by_cases hft : f < N
    · have Y1 := Hid.of (HY.out.alloc (.cells #[.int .i64 f] 3))
      have B1 := Hid.of (Blk.new W 3 #[.int .i64 f])
      have hw0 : w.heap.size < W.heap.size := by obtain ⟨v, h, -⟩ := HY.out.box; exact h.lt
      go_wp2
      revert Y1 B1
      generalize W.alloc (.cells #[.int .i64 f] 3) = W1
      intro Y1 B1
      obtain ⟨b7, hb7⟩ : ∃ b7, b7 = W.heap.size := ⟨_, rfl⟩
      rw [← hb7] at B1 hw0 ⊢
      clear hb7 HY
      refine wp_loop (fun a' W' => ∃ (k : Nat) (Ds : List Nat) (v8 v9 v19 v20 v21 v22 v23 v24 v25 v26 v27 v28 v29 v38 v39 v40 v41 : Value), k ≤ K ∧ Hid (YI w W' Ds (layA seen N ars K f k)) ∧ Hid (Blk W' b7 3 #[.int .i64 f]) ∧ Hid ((layA seen N ars K f k).length ≤ 4096) ∧ a' = { tmps := #[.slice (some ⟨pg, 0, none⟩) N N, .slice (some ⟨g, 0, none⟩) K K, undef, undef, .slice none 0 0, .bool false, .pointer (some ⟨w.heap.size, 0, none⟩), .pointer (some ⟨b7, 0, none⟩), v8, v9, undef, .slice (some ⟨pg, 0, none⟩) N N, .int .i64 N, .int .i64 f, .bool true, .int .i64 f, .slice (some ⟨g, 0, none⟩) K K, .int .i64 K, .int .i64 k, v19, v20, v21, v22, v23, v24, v25, v26, v27, v28, v29, undef, undef, undef, undef, undef, undef, undef, undef, v38, v39, v40, v41, u42, undef], defers := Ds.map mark }) (fun a' _ => K - (intOf (a'.tmps[18]?.getD undef)).toNat) ?start ?round
      case start => exact ⟨0, Ds, _, _, _, _, _, _, _, _, _, _, _, _, _, _, _, _, _, by omega, Y1, B1, HL, rfl⟩
      case round =>
        clear Y1 B1 HL
        rintro a' W ⟨k, Ds, v8, v9, v19, v20, v21, v22, v23, v24, v25, v26, v27, v28, v29, v38, v39, v40, v41, hk, HY, HB, HL, rfl⟩
        by_cases hkt : k < K
        · obtain ⟨S0, HS0⟩ : ∃ S0, Hid (S0 = (stillT seen N ars) f) := ⟨_, rfl⟩
          have ok0 : Hid (okS S0) := by show okS S0; rw [HS0.out]; exact okS_still _ _ _ _
          have U1 := hU.out.below (HY.out.bel)
          have r0 := U1.row hkt
          have YA := Hid.of (HY.out.alloc (.cells #[.int .i64 k] 3))
          have BA := Hid.of (HB.out.alloc (.cells #[.int .i64 k] 3))
          have BE := Hid.of (Blk.new W 3 #[.int .i64 k])
          obtain ⟨t0, t1, t2, t3⟩ := (hS.out.below YA.out.bel hS.out.lt).cells hft
          rw [← HS0.out] at t0 t1 t2 t3
          have c7 : (W.alloc (.cells #[.int .i64 k] 3)).cell? ⟨b7, 0, none⟩ = some (.int .i64 f) := BA.out.cell 0 rfl
          have hf0 : (0 : Int) ≤ (f : Int) := by omega
          have hfI : (f : Int) < (N : Int) := by omega
          have hk0 : (0 : Int) ≤ (k : Int) := by omega
          have hkI : (k : Int) < (K : Int) := by omega
          have hwW : b7 < W.heap.size := HB.out.lt
          clear U1
          go_wp2_with fail
          clear t0 t1 t2 t3 r0 c7
          revert YA BA BE
          generalize W.alloc (.cells #[.int .i64 k] 3) = W2
          intro YA BA BE
          obtain ⟨b8, hb8⟩ : ∃ b8, b8 = W.heap.size := ⟨_, rfl⟩
          rw [← hb8] at BE hwW ⊢
          clear hb8 HY HB
          refine (union_any S0 ok0.out N ((lTab seen (stillT seen N ars) ars) k) (fun p => okS_lTab (okS_still seen N ars) ars k p) (by rw [HS0.out]; exact hSb.out f hft) hN (g + 1 + k) _ (hT.out.below YA.out.bel hT.out.lt) ((hU.out.below YA.out.bel).tb k hkt)).mono ?_
          rintro e w1 ⟨rfl, hb1⟩
          obtain ⟨LS, HLS⟩ : ∃ LS, Hid (LS = layS seen N ars f k) := ⟨_, rfl⟩
          have e1 : toF ((lTab seen (stillT seen N ars) ars) k) (allS S0) = LS := by rw [HLS.out, HS0.out]; rfl
          rw [e1]
          clear e1
          have okL : Hid (okS LS) := by show okS LS; rw [HLS.out]; exact ok_toF (fun p => okS_lTab (okS_still seen N ars) ars k p) _
          have Y3 := YA.out.below hb1
          have B3 := BA.out.below hb1 BA.out.lt
          have E3 := BE.out.below hb1 BE.out.lt
          clear YA BA BE hb1
          go_wp2_with fail
          refine (all_any LS _).mono ?_
          rintro e w2 ⟨rfl, rfl⟩
          have YR := Hid.of (Y3.alloc (.cells (scells LS) 62))
          have BR := Hid.of (B3.alloc (.cells (scells LS) 62))
          have ER := Hid.of (E3.alloc (.cells (scells LS) 62))
          have SR := Hid.of (show SB (w1.alloc (.cells (scells LS) 62)) w1.heap.size LS from Blk.new w1 62 (scells LS))
          clear Y3 B3 E3
          obtain ⟨xs, hxs⟩ := nb_of (N := 256) (allS LS) (fun n hn => ((mem_allS LS n).1 hn).1)
          have hxl : xs.length ≤ 256 := by have := allS_len LS; rw [← hxs, List.length_map] at this; exact this
          go_wp2
          revert YR BR ER SR
          generalize w1.alloc (.cells (scells LS) 62) = W3
          intro YR BR ER SR
          obtain ⟨v0, hv0, ho0⟩ := YR.out.box
          obtain ⟨A0, HA0⟩ : ∃ A0, Hid (A0 = (layA seen N ars K f k)) := ⟨_, rfl⟩
          rw [← HA0.out] at ho0 HL
          have HO0 := Hid.of ho0
          have hz3 := YR.out.bel.size
          have n7 : b7 ≠ w.heap.size := by omega
          have n8 : b8 ≠ w.heap.size := by omega
          have T3 := Hid.of (hT.out.below YR.out.bel hT.out.lt)
          have hw3 := hT.out.lt
          have hl0 := HL.out
          refine (wpIn_wide (n := 5)).1 ?_
          refine wpIn_rangeFunc_ownG rfl (by omega) (gf := 126) (lb := #[.pointer (some ⟨w1.heap.size, 0, none⟩)]) rfl trivial (enters_of Tryd.func126 (by kernel_rfl) rfl)
            (all_stops 4 (by omega) w1.heap.size w.heap.size LS okL.out xs hxs (by omega) W3 hz3 SR.out T3.out) belowK_t (belowK_b hz3) (Below.refl _ _) (fun _ => rfl)
            (fun pre W' => (∃ v, Boxed W' w.heap.size 23 v ∧ W'.ownsRow w.heap.size 58 3 v (A0 ++ prA f k pre).length (aflat (A0 ++ prA f k pre)) ∧ NewB W3 v0 v) ∧ KB W3 W' w.heap.size v0 ∧ Below w.heap.size w W')
            (fun _ _ _ => False)
            (OwnFrom.and (Go.Own.from (holdsRow_own w.heap.size w.heap.size 23 58 3 (fun pre : List (NB 256) => (A0 ++ prA f k pre).length) (fun pre => aflat (A0 ++ prA f k pre)) (fun _ v => NewB W3 v0 v)) _) (OwnFrom.and kb_own (ownFrom_below (Nat.le_refl _) hz3)))
            (fun _ _ _ _ _ hs _ _ => hs)
            ⟨⟨v0, hv0, by have h := ho0; unfold OwnA at h; simpa [prA] using h, .inl rfl⟩, KB.refl _ _ _, YR.out.bel⟩
            (fun x => { tmps := #[.slice (some ⟨pg, 0, none⟩) N N, .slice (some ⟨g, 0, none⟩) K K, undef, undef, .slice none 0 0, .bool false, .pointer (some ⟨w.heap.size, 0, none⟩), .pointer (some ⟨b7, 0, none⟩), .pointer (some ⟨b8, 0, none⟩), .slice (some ⟨g + 1 + k, 0, none⟩) N N, .int .i64 (x.1 : Int), .slice (some ⟨pg, 0, none⟩) N N, .int .i64 N, .int .i64 f, .bool true, .int .i64 f, .slice (some ⟨g, 0, none⟩) K K, .int .i64 K, .int .i64 k, .bool true, .int .i64 k, .pointer (some ⟨g, k, none⟩), .slice (some ⟨g + 1 + k, 0, none⟩) N N, .slice (some ⟨pg, 0, none⟩) N N, .int .i64 f, .pointer (some ⟨pg, f * 4, none⟩), .agg #[.int .u64 (S0 0), .int .u64 (S0 1), .int .u64 (S0 2), .int .u64 (S0 3)], .slice (some ⟨g + 1 + k, 0, none⟩) N N, .agg #[.int .u64 (LS 0), .int .u64 (LS 1), .int .u64 (LS 2), .int .u64 (LS 3)], .func (.func 126) #[] #[.pointer (some ⟨w1.heap.size, 0, none⟩)], .int .i64 (x.1 : Int), undef, undef, undef, undef, undef, undef, undef, v38, v39, v40, v41, u42, undef], defers := [] }) ?assign ?body ?done ?stop
          case assign =>
            intro l x W K hK
            gi_wp2
            exact hK
          case body =>
            rintro l' pre x W' ⟨⟨v, hv, hrw, hnb⟩, hkb, hB⟩ hlt
            have hc := hv.cell
            have c7 : W'.cell? ⟨b7, 0, none⟩ = some (.int .i64 f) := (hkb.blk BR.out n7 HO0.out (by decide)).cell 0 rfl
            have c8 : W'.cell? ⟨b8, 0, none⟩ = some (.int .i64 k) := (hkb.blk ER.out n8 HO0.out (by decide)).cell 0 rfl
            have hpl := prA_len f k pre
            have hal : (A0 ++ prA f k pre).length ≤ 4352 := by rw [List.length_append]; omega
            have HKB := Hid.of hkb
            have HNB := Hid.of hnb
            have HB' := Hid.of hB
            have hz9 := hB.size
            clear hpl hkb hnb hB
            obtain ⟨ll, HLL⟩ : ∃ ll, Hid ((A0 ++ prA f k pre).length = ll) := ⟨_, rfl⟩
            rw [HLL.out] at hrw hal
            gi_wp2_with (gi_at_builtin; refine wpListIn_append_block _ rfl _ _ 23 rfl w.heap.size 58 i0 (aval arr0) 3 24 Tryd.underlying23 hi hz0 hz1 hz2 rfl (by decide) _ _ _ rfl (hrw.alloc _) ⟨W'.heap.size, 0, none⟩ 1 1 [.int .i64 f, .int .i64 k, .int .i64 (x.1 : Int)] rfl rfl (cell3_new _ _ _ _ _) (by simp [Value.oneCell']) (by omega) (by unfold maxLen; omega) (by omega) (by simp; omega) ?_; intro v' w9 hown' hgrow hblk; obtain ⟨g', cap', rfl⟩ := ownsRow_succ hown'; obtain ⟨hv1, hv2, hr2, hk2, hb2⟩ := hv.appended (by decide) hrw hz9 (Nat.le_refl _) hown' hgrow; have hc1 := hv1.cell; have hf1 := hv1.frozen)
            refine ⟨hk2.from _, hb2, ⟨_, hv2, ?_, HNB.out.step HKB.out.2 hblk⟩, HKB.out.step HNB.out hgrow, HB'.out.trans hb2⟩
            rw [prA_snoc, ← List.append_assoc, aflat_snoc, List.length_append, HLL.out]
            exact hr2
          case done =>
            rintro D ys W' hD rfl ⟨⟨v, hv, hrw, hnb⟩, hkb, hB⟩ hK'
            have HA : Hid (A0 ++ prA f k ys = (layA seen N ars K f (k + 1))) := by
              show _ = _
              rw [layA_event, HA0.out]
              congr 1
              unfold prA layR
              rw [← HLS.out, ← hxs, List.map_map]; rfl
            have hm4 := hkb.marks YR.out.mks ⟨v0, hv0⟩ HO0.out
            have hmk : Hid (Marks w.heap.size (D :: Ds) W') := by
              refine ⟨fun D' hD' => ?_, List.nodup_cons.2 ⟨fun hm => ?_, hm4.nd⟩⟩
              · rcases List.mem_cons.1 hD' with rfl | hD'
                · exact ⟨by omega, hK'⟩
                · exact hm4.at' D' hD'
              · have := YR.out.mks.lt D hm; omega
            have hb4 := Hid.of (hkb.blk BR.out n7 HO0.out (by decide))
            rw [HA.out] at hrw
            have Y4 : Hid (YI w W' (D :: Ds) (layA seen N ars K f (k + 1))) := ⟨⟨v, hv, hrw⟩, hB, hmk.out⟩
            have hl4 : (layA seen N ars K f (k + 1)).length ≤ 4352 := by
              rw [← HA.out, List.length_append, prA_len]; omega
            have c0 := hv.cell
            obtain ⟨av, cv, rfl⟩ : ∃ a c, v = .slice a (layA seen N ars K f (k + 1)).length c := by
              rcases hrw.2 with ⟨rfl, h0⟩ | ⟨g', cap', cur, rfl, -⟩
              · exact ⟨none, 0, by rw [h0]⟩
              · exact ⟨_, cap', rfl⟩
            have HLE := Hid.of (layA_le (seen := seen) (N := N) (ars := ars) (K := K) (f := f) (k := k + 1) hft (by omega))
            clear hm4 hmk hrw hkb hB hnb hv YR BR ER SR HA ho0 hv0 HO0
            obtain ⟨ln, HLN⟩ : ∃ ln, Hid ((layA seen N ars K f (k + 1)).length = ln) := ⟨_, rfl⟩
            rw [HLN.out] at c0 hl4 HLE
            by_cases hbig : 4096 < ln
            · go_wp2
              refine leaves_marks (B := w.heap.size) (fun W => Below w.heap.size w W) ?hJ ?hfin (D :: Ds) _ Y4.out.mks Y4.out.bel
              case hJ =>
                rintro W D h2 hD hk
                exact h2.trans (belowK_b (w := w) (Nat.le_refl _) W D _ _ hD hk rfl rfl)
              case hfin =>
                intro W h2
                exact ⟨_, results_pair (u := 4) (v := 5) rfl _ _ _, h2, .inr ⟨by have := HLE.out; omega, rfl⟩⟩
            · have HL4 : Hid ((layA seen N ars K f (k + 1)).length ≤ 4096) := by show _ ≤ _; rw [HLN.out]; omega
              go_wp2
              exact ⟨⟨k + 1, D :: Ds, _, _, _, _, _, _, _, _, _, _, _, _, _, _, _, _, _, by omega, Y4, hb4, HL4, rfl⟩, by simp [intOf]; omega⟩
          case stop =>
            rintro D c pre W' _ _ h _
            exact h.elim
        · have hk2 : K = k := by omega
          subst hk2
          rw [← layA_from] at HY HL
          go_wp2
          exact ⟨⟨f + 1, Ds, _, _, _, _, _, _, _, _, _, _, _, _, _, _, _, _, _, _, _, _, _, _, _, _, by omega, HY, HL, rfl⟩, by simp [intOf]; omega⟩
    · have hf2 : N = f := by omega
      subst hf2
      obtain ⟨v, hv, ho⟩ := HY.out.box
      have c0 := hv.cell
      have HO := Hid.of ho
      go_wp2
      refine leaves_marks (B := w.heap.size) (fun W => OwnA W w.heap.size v (layA seen N ars K N 0) ∧ Below w.heap.size w W) ?hJ ?hfin Ds _ HY.out.mks ⟨HO.out, HY.out.bel⟩
      case hJ =>
        rintro W D ⟨h1, h2⟩ hD hk
        exact ⟨ownsRow_putObj h1 _ hk rfl, h2.trans (belowK_b (w := w) (Nat.le_refl _) W D _ _ hD hk rfl rfl)⟩
      case hfin =>
        rintro W ⟨h1, h2⟩
        exact ⟨_, results_pair (u := 4) (v := 5) rfl _ _ _, h2, .inl ⟨HL.out, v, rfl, h1⟩⟩

theorem lay_any (seen : List Int) (N : Nat) (ars : List Arr) (K : Nat) (hN : N ≤ 256) (hK : K ≤ 8) (pg g : Nat) (w : World) (hT : Tab w) (hS : TB w pg N (stillT seen N ars)) (hU : T2 w g K N K (lTab seen (stillT seen N ars) ars)) (hSb : ∀ p, p < N → ∀ n ∈ allS ((stillT seen N ars) p), n < N) :
    Calls Tryd.prog 70 #[.slice (some ⟨pg, 0, none⟩) N N, .slice (some ⟨g, 0, none⟩) K K] w fun e W' => LayPost w (layA seen N ars K N 0) e W' :=
  callsIn_wide.1 (lay_in seen N ars K hN hK pg g w (Hid.of hT) (Hid.of hS) (Hid.of hU) (Hid.of hSb))

end Go.Proofs.YtbdkaobbfmgnhaaDoor
