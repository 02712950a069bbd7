/-
  The walk of diagnose's watcher.meet: two ranges over sets, one within the other.
-/
import Derived.Test.YtgebfkmfhpcdhaaDoorH18
import Derived.Test.YtgebfkmfhpcdhaaDoorH15
import Derived.Test.YtgebfkmfhpcdhaaDoorDSetIter
import Derived.Test.YtgebfkmfhpcdhaaDoorH13
namespace Go.Proofs.YtgebfkmfhpcdhaaDoor
open Go.RowKit Go.Shelf
set_option linter.unusedVariables false
attribute [local go_sem] Oper.semAt_some

theorem regQ_inD {φ : Act → World → Prop} : ¬ LetsOut (regQ φ) := fun ⟨_, _, h⟩ => h
/-- Twins of two rows, with one length. -/
def rowD (a : Int) (bs : List Int) (len : Int) : List (Pr × Int) := bs.map fun b => ((a, b), len)
def crsD (ps bs : List Int) (len : Int) : List (Pr × Int) := ps.flatMap fun a => rowD a bs len
theorem rowD_snoc (a : Int) (bs : List Int) (b len : Int) : rowD a (bs ++ [b]) len = rowD a bs len ++ [((a, b), len)] := by unfold rowD; rw [List.map_append]; rfl
theorem rowD_len (a : Int) (bs : List Int) (len : Int) : (rowD a bs len).length = bs.length := by unfold rowD; rw [List.length_map]
theorem crsD_snoc (ps bs : List Int) (a len : Int) : crsD (ps ++ [a]) bs len = crsD ps bs len ++ rowD a bs len := by unfold crsD; rw [List.flatMap_append]; simp
theorem crsD_len (bs : List Int) (len : Int) : ∀ ps : List Int, (crsD ps bs len).length = ps.length * bs.length
  | [] => by simp [crsD]
  | a :: r => by
    have ih := crsD_len bs len r
    unfold crsD at ih ⊢
    rw [List.flatMap_cons, List.length_append, ih, rowD_len, List.length_cons, Nat.succ_mul, Nat.add_comm]
def natI {N : Nat} (pre : List (NB N)) : List Int := pre.map fun x => (x.1 : Int)
theorem natI_snoc {N : Nat} (pre : List (NB N)) (x : NB N) : natI (pre ++ [x]) = natI pre ++ [(x.1 : Int)] := by unfold natI; rw [List.map_append]; rfl
theorem natI_len {N : Nat} (pre : List (NB N)) : (natI pre).length = pre.length := by unfold natI; rw [List.length_map]
theorem natI_all {N : Nat} {xs : List (NB N)} {S : Nat → Nat} (h : xs.map (·.1) = allS S) : natI xs = rowS S := by
  unfold natI rowS
  rw [← h, List.map_map]; rfl
/-- The map with a twin's length. -/
def MMX (M : List (Pr × Int)) (x : Pr) (n : Int) : List (Pr × Int) := match getP M x with
  | none => M ++ [(x, n)]
  | some _ => setP M x n
theorem MMX_ok {M : List (Pr × Int)} (hM : ∀ y ∈ M, okPD y.1) (hnd : (M.map (·.1)).Nodup) {x : Pr} (hx : okPD x) (n : Int) : (∀ y ∈ MMX M x n, okPD y.1) ∧ ((MMX M x n).map (·.1)).Nodup := by
  unfold MMX
  cases hg : getP M x with
  | none =>
    dsimp only
    refine ⟨fun y hy => ?_, ?_⟩
    · rcases List.mem_append.1 hy with q | q
      · exact hM y q
      · rw [List.mem_singleton.1 q]; exact hx
    · rw [List.map_append, List.nodup_append]
      refine ⟨hnd, by simp, fun a ha b hb e => ?_⟩
      obtain ⟨z, hz, rfl⟩ := List.mem_map.1 ha
      have hb : b = x := by simpa using hb
      exact getP_none.1 hg z hz (by rw [e, hb])
  | some k =>
    dsimp only
    refine ⟨fun y hy => ?_, by rw [keys_set]; exact hnd⟩
    rcases mem_set hy with q | q
    · exact hM y q
    · rw [q]; exact hx
theorem cell_setMap (W : World) {r k j : Nat} (o : Obj) (h : k ≠ r) : (setMap W r o).cell? ⟨k, j, none⟩ = W.cell? ⟨k, j, none⟩ := World.cell?_of_block (heap_setMap_ne W r o h)
theorem blk_setMap {W : World} {r k : Nat} {t : TypeId} {cs : Array Value} (hb : Blk W k t cs) (h : k ≠ r) (o : Obj) : Blk (setMap W r o) k t cs := (heap_setMap_ne W r o h).trans hb
theorem DW.drew {W : World} {B p r : Nat} {m : Mach} {l : ML} {SF FF : Nat → Bool} {TA TB : Nat → Nat → Nat} {qv : Value} {s : DSt} (h : DW W B p r m l SF FF TA TB qv s) : DW W.drew B p r m l SF FF TA TB qv s := h.same rfl rfl (fun _ _ => rfl)
/-- What is no cells, and lies behind, is kept. -/
theorem keeps_KD {W W' : World} {B p r B0 : Nat} {m : Mach} {l : ML} {SF FF : Nat → Bool} {TA TB : Nat → Nat → Nat} {v v' : Value} {s : DSt} (h : KDd B p r v v' W W') (hD : DW W B p r m l SF FF TA TB v s) (hr : r < B0) : KeepsFrom B0 W W' :=
  ⟨h.bel.size, fun k o hB hk ho => (h.blk k (Array.getElem?_eq_some_iff.1 hk).1 (fun e => by
    obtain ⟨cs, h1, -, -⟩ := hD.wb
    rw [e, show W.heap[p]? = _ from h1] at hk
    cases hk; cases ho) (by omega) (fun e => by
    obtain ⟨cs, h1⟩ := hD.qu.type k e
    rw [h1] at hk
    cases hk; cases ho)).trans hk⟩
theorem own_DWf {β : Type} {W0 : World} {B p r B0 : Nat} {m : Mach} {l : ML} {SF FF : Nat → Bool} {TA TB : Nat → Nat → Nat} {v : Value} (f : β → DSt) (hB0 : W0.heap.size ≤ B0) (hr : r < B0) (hB : B ≤ W0.heap.size) :
    OwnFrom B0 (fun (s : β) W => ∃ v', DW W B p r m l SF FF TA TB v' (f s) ∧ KDd B p r v v' W0 W) := fun s X Y row ⟨v', h1, h2⟩ hg hrow => by
  have kp : ∀ k o, X.heap[k]? = some o → (k < B0 ∨ o.isCells = true) → Y.heap[k]? = X.heap[k]? := fun k o hk hc => hg.block k (Array.getElem?_eq_some_iff.1 hk).1 (fun e => by
    obtain ⟨q1, o', q2, q3⟩ := hrow k e.symm
    rcases hc with c | c
    · omega
    · rw [hk] at q2
      cases q2
      rw [c] at q3; cases q3)
  refine ⟨v', h1.same ?_ (kp r _ h1.mp (.inl hr)) (fun k hk => ?_), ⟨h2.bel.grown hg (Nat.le_trans hB h2.bel.size) (fun k hk => by have := (hrow k hk).1; omega), fun k hk q1 q2 q3 => ?_, h2.own⟩⟩
  · obtain ⟨cs, q, -, -⟩ := h1.wb
    exact kp p _ q (.inr rfl)
  · obtain ⟨cs, q⟩ := h1.qu.type k hk
    exact kp k _ q (.inr rfl)
  · obtain ⟨o, ho⟩ : ∃ o, X.heap[k]? = some o := ⟨_, Array.getElem?_eq_getElem (Nat.lt_of_lt_of_le hk h2.bel.size)⟩
    exact (kp k o ho (.inl (by omega))).trans (h2.blk k hk q1 q2 q3)
section
variable {P : Program} {ops : Array Oper} {o : Oper} {a : Act} {w : World} {K : Act → World → Prop} {Q : Exit → Act → World → Prop} {E : Prop}
theorem step_append_PD (hg : o.guard = none) (s x : Operand) (hop : o.op = Op.call { callee := Callee.builtin Builtin.append, args := #[s, x], argTypes := #[193, 193] })
    {B : Nat} {v : Value} {L : List Pr} (hs : a.eval s = v) (hown : OwnQD w B v L) (ad : Addr) (c : Nat) (y : Pr) (hx : a.eval x = .slice (some ad) 1 c) (hc : ∀ j u, ([.int .i64 y.1, .int .i64 y.2] : List Value)[j]? = some u → w.cell? (ad.add j) = some u) (hL : L.length ≤ 1000000000) (hbase : B ≤ w.heap.size)
    (hK : ∀ v' w', OwnQD w' B v' (L ++ [y]) → w.grownBy w' v.ownBlock → (v'.ownBlock = v.ownBlock ∨ v'.ownBlock = some w.heap.size) → K (a.put o.dst v') w') :
    if Region.wanted o (yielded ops a.tmps) = true then Oper.wp Tryd.prog o a w K Q else E := by
  have hw : Region.wanted o (yielded ops a.tmps) = true := by simp [Region.wanted, hg]
  rw [if_pos hw]
  obtain ⟨v', w', hrun, r1, r2, r3⟩ := run_append_PD w o.type hown ad c y hc hL hbase
  unfold Oper.wp
  simp [execOp, hop, resolve, invoke, builtin, hs, hx, hrun, Result.andThen]
  exact hK v' w' r1 r2 r3
end

set_option maxRecDepth 100000 in
set_option maxHeartbeats 16000000 in
theorem dmeet_in (S T : Nat → Nat) (hS : okS S) (hTt : okS T) (hSb : ∀ k ∈ allS S, k < 6) (hTb : ∀ k ∈ allS T, k < 6) (len : Int) (s : DSt) (hsl : Hid (s.2.length ≤ 100000000)) (B p r : Nat) (hB0 : 0 < B) (m : Mach) (l : ML) (SF FF : Nat → Bool) (TA TB : Nat → Nat → Nat) (qv : Value) (w : World) (hT : Tab w) (h : DW w B p r m l SF FF TA TB qv s) :
    CallsIn Fence.wide 9 Tryd.prog 135 #[.pointer (some ⟨p, 0, none⟩), sval S, sval T, .int .i64 len] w fun e W' => e = .returned (.tuple #[]) ∧ ∃ v', DW W' B p r m l SF FF TA TB v' (relL s (crsD (rowS S) (rowS T) len)) ∧ KDd B p r qv v' w W' := by
  obtain ⟨xs, hxs⟩ := nb_of (N := 6) (allS S) hSb
  obtain ⟨zs, hzs⟩ := nb_of (N := 6) (allS T) hTb
  clear hSb hTb
  refine callsIn_of_wp_marks Tryd.func135 rfl trivial ?_ rfl
  simp only [Tryd.ntmps135, List.size_toArray, List.length_cons, List.length_nil, Nat.reduceAdd, Nat.reduceSub, Array.replicate_succ, Array.replicate_zero, List.push_toArray, List.append_toArray, List.nil_append, List.cons_append]
  have H := Hid.of h
  clear h
  gi_wp2_with (refine ⟨trivial, ?_⟩; refine CallsIn.mono (callsIn_wide.2 (all_any S _)) ?_; rintro e w1 ⟨rfl, rfl⟩)
  have hBB : Below w.heap.size w (((((w.alloc (.cells #[.pointer (some ⟨p, 0, none⟩)] 143)).alloc (.cells (scells S) 79)).alloc (.cells (scells T) 79)).alloc (.cells #[.int .i64 len] 3)).alloc (.cells (scells S) 79)) := (((((Below.refl _ _).alloc (Nat.le_refl _) _).alloc (by simp) _).alloc (by simp; omega) _).alloc (by simp; omega) _).alloc (by simp; omega) _
  have b4 : Blk (((((w.alloc (.cells #[.pointer (some ⟨p, 0, none⟩)] 143)).alloc (.cells (scells S) 79)).alloc (.cells (scells T) 79)).alloc (.cells #[.int .i64 len] 3)).alloc (.cells (scells S) 79)) (w.heap.size) 143 #[.pointer (some ⟨p, 0, none⟩)] := by
    have := (((((Blk.new w 143 #[.pointer (some ⟨p, 0, none⟩)]).alloc (.cells (scells S) 79)).alloc (.cells (scells T) 79)).alloc (.cells #[.int .i64 len] 3)).alloc (.cells (scells S) 79))
    exact this
  have b6 : Blk (((((w.alloc (.cells #[.pointer (some ⟨p, 0, none⟩)] 143)).alloc (.cells (scells S) 79)).alloc (.cells (scells T) 79)).alloc (.cells #[.int .i64 len] 3)).alloc (.cells (scells S) 79)) (w.heap.size + 1 + 1) 79 (scells T) := by
    have := (((Blk.new ((w.alloc (.cells #[.pointer (some ⟨p, 0, none⟩)] 143)).alloc (.cells (scells S) 79)) 79 (scells T)).alloc (.cells #[.int .i64 len] 3)).alloc (.cells (scells S) 79))
    rwa [World.size_alloc, World.size_alloc] at this
  have b7 : Blk (((((w.alloc (.cells #[.pointer (some ⟨p, 0, none⟩)] 143)).alloc (.cells (scells S) 79)).alloc (.cells (scells T) 79)).alloc (.cells #[.int .i64 len] 3)).alloc (.cells (scells S) 79)) (w.heap.size + 1 + 1 + 1) 3 #[.int .i64 len] := by
    have := ((Blk.new (((w.alloc (.cells #[.pointer (some ⟨p, 0, none⟩)] 143)).alloc (.cells (scells S) 79)).alloc (.cells (scells T) 79)) 3 #[.int .i64 len]).alloc (.cells (scells S) 79))
    rwa [World.size_alloc, World.size_alloc, World.size_alloc] at this
  have bN : Blk (((((w.alloc (.cells #[.pointer (some ⟨p, 0, none⟩)] 143)).alloc (.cells (scells S) 79)).alloc (.cells (scells T) 79)).alloc (.cells #[.int .i64 len] 3)).alloc (.cells (scells S) 79)) (w.heap.size + 1 + 1 + 1 + 1) 79 (scells S) := by
    have := (Blk.new ((((w.alloc (.cells #[.pointer (some ⟨p, 0, none⟩)] 143)).alloc (.cells (scells S) 79)).alloc (.cells (scells T) 79)).alloc (.cells #[.int .i64 len] 3)) 79 (scells S))
    rwa [World.size_alloc, World.size_alloc, World.size_alloc, World.size_alloc] at this
  have hsz0 : (((((w.alloc (.cells #[.pointer (some ⟨p, 0, none⟩)] 143)).alloc (.cells (scells S) 79)).alloc (.cells (scells T) 79)).alloc (.cells #[.int .i64 len] 3)).alloc (.cells (scells S) 79)).heap.size = w.heap.size + 5 := by simp
  revert hBB b4 b6 b7 bN hsz0
  generalize (((((w.alloc (.cells #[.pointer (some ⟨p, 0, none⟩)] 143)).alloc (.cells (scells S) 79)).alloc (.cells (scells T) 79)).alloc (.cells #[.int .i64 len] 3)).alloc (.cells (scells S) 79)) = W0
  intro hBB b4 b6 b7 bN hsz0
  have HSZ := Hid.of hsz0
  have HPW : Hid (p < w.heap.size) := H.out.lt.1
  have HRWw : Hid (r < w.heap.size) := H.out.lt.2
  have HRW : Hid (r < W0.heap.size) := by show _ < _; have := HRWw.out; omega
  have hBw : B ≤ w.heap.size := Nat.le_of_lt (Nat.lt_of_le_of_lt H.out.lp H.out.lt.1)
  have hT0 := hT.below hBB hT.lt
  have HT0 := Hid.of hT0
  have hD0 := H.out.below hBB
  have HBX : Hid (∀ Y v', KDd B p r qv v' W0 Y → Blk Y w.heap.size 143 #[.pointer (some ⟨p, 0, none⟩)] ∧ SB Y (w.heap.size + 1 + 1) T ∧ Blk Y (w.heap.size + 1 + 1 + 1) 3 #[.int .i64 len]) := fun Y v' hk => by
    have q : ∀ k, w.heap.size ≤ k → k < W0.heap.size → Y.heap[k]? = W0.heap[k]? := fun k h1 h2 => hk.blk k h2 (by have := HPW.out; omega) (by have := HRWw.out; omega) (fun e => by have := (H.out.qu.lt k e).2; omega)
    exact ⟨(q _ (by omega) (by omega)).trans b4, (q _ (by omega) (by omega)).trans b6, (q _ (by omega) (by omega)).trans b7⟩
  refine wpIn_rangeFunc_ownH rfl (by omega) (gf := 145) (lb := #[.pointer (some ⟨w.heap.size + 1 + 1 + 1 + 1, 0, none⟩)]) rfl trivial (enters_of Tryd.func145 (by kernel_rfl) rfl)
    (all_stops 8 (by omega) (w.heap.size + 1 + 1 + 1 + 1) B S hS xs hxs hB0 W0 (by omega) bN hT0) belowK_t (belowK_b (by omega)) (Below.refl _ _) (fun _ => rfl)
    (fun pre W' => ∃ v', DW W' B p r m l SF FF TA TB v' (relL s (crsD (natI pre) (rowS T) len)) ∧ KDd B p r qv v' W0 W')
    (fun _ _ _ => False)
    (own_DWf (fun pre => relL s (crsD (natI pre) (rowS T) len)) (Nat.le_refl _) HRW.out (by omega))
    (fun _ _ _ _ _ hs _ _ => hs)
    ⟨qv, hD0, KDd.refl _ _ _ _ _⟩
    (fun x a' W => ∃ pb, a' = { tmps := #[.pointer (some ⟨p, 0, none⟩), sval S, sval T, .int .i64 len, .pointer (some ⟨w.heap.size, 0, none⟩), .pointer (some ⟨w.heap.size + 1, 0, none⟩), .pointer (some ⟨w.heap.size + 1 + 1, 0, none⟩), .pointer (some ⟨w.heap.size + 1 + 1 + 1, 0, none⟩), .pointer (some ⟨pb, 0, none⟩), undef, undef, undef, undef, sval S, .func (.func 145) #[] #[.pointer (some ⟨w.heap.size + 1 + 1 + 1 + 1, 0, none⟩)], .int .i64 (x.1 : Int), undef, undef, undef, undef, undef, undef, undef, undef, undef, undef, undef, undef, undef, undef, undef, undef, undef, undef, undef, undef, undef, undef, undef, undef, undef, undef, undef, undef, undef, undef, undef, undef, undef, undef, undef, undef, undef, undef], defers := [] } ∧ Blk W pb 3 #[.int .i64 (x.1 : Int)] ∧ W0.heap.size ≤ pb)
    (fun x a' _ X Y row ⟨pb, e, hb, hp⟩ hg hr => ⟨pb, e, (grownBy_keeps_cells hg (fun q e => (hr q e).2) hb rfl).trans hb, hp⟩) ?assign ?body ?done ?stop
  case assign =>
    rintro l' pre x W K ⟨v', h1, h2⟩ hK
    have hW0 : W0.heap.size ≤ W.heap.size := h2.bel.size
    have hb : Below W.heap.size W (W.alloc (.cells #[.int .i64 (x.1 : Int)] 3)) := (Below.refl _ _).alloc (Nat.le_refl _) _
    have hk : KDd B p r v' v' W (W.alloc (.cells #[.int .i64 (x.1 : Int)] 3)) := KDd.of_below hb (by omega)
    have H1 := Hid.of (h1.below hb)
    have H2 := Hid.of (h2.trans hk)
    have H3 : Hid (KeepsFrom W0.heap.size W (W.alloc (.cells #[.int .i64 (x.1 : Int)] 3))) := keeps_KD hk h1 HRW.out
    have H4 := Hid.of hk.bel
    have H5 := Hid.of (Blk.new W 3 #[.int .i64 (x.1 : Int)])
    have H6 := Hid.of hK
    clear h1 h2 hb hk hK
    gi_wp2_with fail
    exact H6.out _ _ H3.out H4.out ⟨v', H1.out, H2.out⟩ ⟨W.heap.size, rfl, H5.out, hW0⟩
  case body =>
    rintro l' pre x a' W hl ⟨rl, hrl⟩ ⟨v1, hD1, hK1⟩ ⟨pb, rfl, hpb, hpb0⟩ hlt
    obtain ⟨k4, k6, k7⟩ := HBX.out W v1 hK1
    obtain ⟨a, ha⟩ : ∃ a, Hid (a = x.1) := ⟨_, rfl⟩
    have ha6 : a < 6 := by rw [ha.out]; exact x.2
    obtain ⟨s1, HS1⟩ : ∃ s1, Hid (s1 = relL s (crsD (natI pre) (rowS T) len)) := ⟨_, rfl⟩
    have HST1 : Hid (relL s (crsD (natI (pre ++ [x])) (rowS T) len) = relL s1 (rowD (a : Int) (rowS T) len)) := by show _ = _; rw [natI_snoc, crsD_snoc, relL_app, ← HS1.out, ha.out]
    have HQL1 : Hid (s1.2.length ≤ 100100000) := by
      have q1 := rel_len (crsD (natI pre) (rowS T) len) s
      rw [← HS1.out, crsD_len, natI_len] at q1
      have q2 := hsl.out
      have q3 : pre.length ≤ 256 := by
        have : xs.length = (allS S).length := by rw [← hxs, List.length_map]
        have := allS_len S
        omega
      have q4 : (rowS T).length ≤ 256 := by unfold rowS; rw [List.length_map]; exact allS_len T
      have q5 : pre.length * (rowS T).length ≤ 256 * 256 := Nat.mul_le_mul q3 q4
      show _ ≤ _; omega
    rw [← HS1.out] at hD1
    have HBW1 : Hid (Below W.heap.size W (W.alloc (.cells (scells T) 79))) := (Below.refl _ _).alloc (Nat.le_refl _) _
    have HW1 : Hid (W0.heap.size ≤ (W.alloc (.cells (scells T) 79)).heap.size) := by show _ ≤ _; rw [World.size_alloc]; have := hK1.bel.size; omega
    have D1 := Hid.of hD1
    have HK1 := Hid.of hK1
    have HPB0 := Hid.of hpb0
    have HPBl := Hid.of hpb.lt
    rw [← ha.out] at hpb
    have HPB := Hid.of (hpb.below HBW1.out hpb.lt)
    have HNB : Hid (v1.ownBlock ≠ some pb) := fun e => by
      obtain ⟨cs, q⟩ := hD1.qu.type _ e
      rw [show W.heap[pb]? = _ from hpb] at q
      injection q with q
      injection q with _ q _
      exact absurd q (by decide)
    have HRL : Hid ((W.alloc (.cells (scells T) 79)).heap[l']? = some (.loop rl)) := (HBW1.out.block l' (Array.getElem?_eq_some_iff.1 hrl).1).trans hrl
    have HBT : Hid (SB (W.alloc (.cells (scells T) 79)) W.heap.size T) := Blk.new W 79 (scells T)
    have HTW : Hid (Tab (W.alloc (.cells (scells T) 79))) := HT0.out.below (hK1.bel.trans (HBW1.out.mono (Nat.le_trans (by omega) hK1.bel.size))) hB0
    have HD11 := Hid.of (hD1.below HBW1.out)
    have HKW1 : Hid (KDd B p r v1 v1 W (W.alloc (.cells (scells T) 79))) := KDd.of_below HBW1.out (Nat.le_of_lt (Nat.lt_of_le_of_lt hD1.lp hD1.lt.1))
    obtain ⟨y0, y1, y2, y3⟩ := SB.cells k6
    rw [← ha.out]
    clear k4 k6 k7 hD1 hK1 hpb hrl hpb0
    gi_wp2_with (refine ⟨trivial, ?_⟩; refine CallsIn.mono (CallsIn.inRound l' (callsIn_wide.2 (all_any T _))) ?_; rintro e w1 ⟨rfl, rfl⟩)
    clear y0 y1 y2 y3
    have HPB1 : Hid (pb < (W.alloc (.cells (scells T) 79)).heap.size ∧ w.heap.size ≤ pb ∧ v1.ownBlock ≠ some pb) := ⟨by rw [World.size_alloc]; have := HPBl.out; omega, by have := HPB0.out; omega, HNB.out⟩
    obtain ⟨bT, HbT⟩ : ∃ bT, Hid (bT = W.heap.size) := ⟨_, rfl⟩
    rw [← HbT.out] at HBT
    rw [← HbT.out]
    revert HBW1 HW1 HPB HRL HBT HTW HD11 HKW1 HPB1
    generalize (W.alloc (.cells (scells T) 79)) = W1
    intro HBW1 HW1 HPB HRL HTW HD11 HKW1 HPB1 HBT
    have hBW1 : B ≤ W1.heap.size := Nat.le_of_lt (Nat.lt_of_le_of_lt HD11.out.lp HD11.out.lt.1)
    refine wpIn_rangeFunc_ownN (l₀ := l') (r₀ := rl) rfl HRL.out (by omega) (gf := 145) (lb := #[.pointer (some ⟨bT, 0, none⟩)]) rfl trivial (enters_of Tryd.func145 (by kernel_rfl) rfl)
      (SeqStopsK.inRound l' (all_stops 6 (by omega) bT B T hTt zs hzs hB0 W1 hBW1 HBT.out HTW.out)) belowK_t (belowK_b hBW1) (Below.refl _ _) (fun _ => rfl)
      (fun pre2 X => ∃ v2, DW X B p r m l SF FF TA TB v2 (relL s1 (rowD (a : Int) (natI pre2) len)) ∧ KDd B p r v1 v2 W1 X ∧ KeepsFrom W0.heap.size W1 X)
      (fun _ _ _ => False)
      (fun q X Y row ⟨v2, g1, g2, g3⟩ hg hr => by
        obtain ⟨v3, e1, e2⟩ := own_DWf (W0 := W1) (B := B) (p := p) (r := r) (m := m) (l := l) (SF := SF) (FF := FF) (TA := TA) (TB := TB) (v := v1) (fun pre2 : List (NB 6) => relL s1 (rowD (a : Int) (natI pre2) len)) (Nat.le_refl _) HD11.out.lt.2 hBW1 q X Y row ⟨v2, g1, g2⟩ hg hr
        exact ⟨v3, e1, e2, ownFrom_keepsFrom (β := Unit) (B := W0.heap.size) (w₀ := W1) (Nat.le_refl _) () X Y row g3 hg hr⟩)
      (fun _ _ _ _ _ hs _ _ => hs)
      ⟨v1, HD11.out, KDd.refl _ _ _ _ _, KeepsFrom.refl _ _⟩
      (fun y a' X => a' = { tmps := #[.pointer (some ⟨p, 0, none⟩), sval S, sval T, .int .i64 len, .pointer (some ⟨w.heap.size, 0, none⟩), .pointer (some ⟨w.heap.size + 1, 0, none⟩), .pointer (some ⟨w.heap.size + 1 + 1, 0, none⟩), .pointer (some ⟨w.heap.size + 1 + 1 + 1, 0, none⟩), .pointer (some ⟨pb, 0, none⟩), .int .i64 (y.1 : Int), undef, undef, undef, sval S, .func (.func 145) #[] #[.pointer (some ⟨w.heap.size + 1 + 1 + 1 + 1, 0, none⟩)], .int .i64 (a : Int), sval T, .func (.func 145) #[] #[.pointer (some ⟨bT, 0, none⟩)], .int .i64 (y.1 : Int), undef, undef, undef, undef, undef, undef, undef, undef, undef, undef, undef, undef, undef, undef, undef, undef, undef, undef, undef, undef, undef, undef, undef, undef, undef, undef, undef, undef, undef, undef, undef, undef, undef, undef, undef], defers := [] })
      (fun _ _ _ _ _ _ hs _ _ => hs) ?assign2 ?body2 ?done2 ?stop2
    case assign2 =>
      rintro l2 pre2 y X K ⟨v2, g1, g2, g3⟩ hK
      have H6 := Hid.of hK
      have H1 := Hid.of g1
      have H2 := Hid.of g2
      have H3 := Hid.of g3
      clear hK g1 g2 g3
      gi_wp2_with fail
      exact H6.out _ _ (KeepsFrom.refl _ _) (Below.refl _ _) ⟨v2, H1.out, H2.out, H3.out⟩ rfl
    case body2 =>
      rintro l2 pre2 y a2 X hl2 - ⟨v2, hD2, hK2, hF2⟩ rfl hlt2
      obtain ⟨b, hb⟩ : ∃ b, Hid (b = y.1) := ⟨_, rfl⟩
      have hb6 : b < 6 := by rw [hb.out]; exact y.2
      obtain ⟨s2, HS2⟩ : ∃ s2, Hid (s2 = relL s1 (rowD (a : Int) (natI pre2) len)) := ⟨_, rfl⟩
      have HST : Hid (relL s1 (rowD (a : Int) (natI (pre2 ++ [y])) len) = rel1 s2 (((a : Int), (b : Int)), len)) := by show _ = _; rw [natI_snoc, rowD_snoc, relL_snoc, ← HS2.out, hb.out]
      have HQL : Hid (s2.2.length ≤ 1000000000) := by
        have q1 := rel_len (rowD (a : Int) (natI pre2) len) s1
        rw [← HS2.out, rowD_len, natI_len] at q1
        have q2 := HQL1.out
        have q3 : pre2.length ≤ 256 := by
          have : zs.length = (allS T).length := by rw [← hzs, List.length_map]
          have := allS_len T
          omega
        show _ ≤ _; omega
      rw [← HS2.out] at hD2
      have D2 := Hid.of hD2
      have HK2 := Hid.of hK2
      have HF2 := Hid.of hF2
      have hKX := HK1.out.trans ((KDd.of_below HBW1.out (Nat.le_of_lt (Nat.lt_of_le_of_lt D1.out.lp D1.out.lt.1))).trans hK2)
      obtain ⟨k4, k6, k7⟩ := HBX.out X v2 hKX
      have k8 : Blk X pb 3 #[.int .i64 (a : Int)] := (hK2.blk pb HPB1.out.1 (by have := HPB1.out.2.1; have := HPW.out; omega) (by have := HPB1.out.2.1; have := HRWw.out; omega) HPB1.out.2.2).trans HPB.out
      have HBX5 : Hid (Below X.heap.size X (X.alloc (.cells (pcellsD ((a : Int), (b : Int))) 198))) := (Below.refl _ _).alloc (Nat.le_refl _) _
      have K4 := Hid.of (k4.below HBX5.out k4.lt)
      have K7 := Hid.of (k7.below HBX5.out k7.lt)
      have D5 := Hid.of (hD2.below HBX5.out)
      have KH5 := Hid.of (Blk.new X 198 (pcellsD ((a : Int), (b : Int))))
      have HWX : Hid (W1.heap.size ≤ X.heap.size) := hK2.bel.size
      have HNQ : Hid (v2.ownBlock ≠ some w.heap.size ∧ v2.ownBlock ≠ some X.heap.size) := ⟨fun e => by
        obtain ⟨cs, q⟩ := hD2.qu.type _ e
        rw [show X.heap[w.heap.size]? = _ from k4] at q
        injection q with q
        injection q with _ q _
        exact absurd q (by decide), fun e => by have := (hD2.qu.lt _ e).2; omega⟩
      have x8 := k8.cell 0 rfl
      rw [← hb.out]
      clear hD2 hK2 hF2 hKX k4 k6 k7 k8 hS hTt hzs hxs hlt hlt2
      clear HBX
      have HBX : Hid (B ≤ X.heap.size) := Nat.le_of_lt (Nat.lt_of_le_of_lt D2.out.lp D2.out.lt.1)
      gi_wp2_with fail
      clear x8
      have HPH : Hid (p < X.heap.size ∧ r < X.heap.size) := D2.out.lt
      revert HBX5 K4 K7 D5 KH5 HNQ HPH
      generalize (X.alloc (.cells (pcellsD ((a : Int), (b : Int))) 198)) = X5
      intro HBX5 K4 K7 D5 KH5 HNQ HPH
      obtain ⟨ph, HPE⟩ : ∃ ph, Hid (ph = X.heap.size) := ⟨_, rfl⟩
      rw [← HPE.out] at KH5 HNQ HPH
      rw [← HPE.out]
      have HRN : Hid (w.heap.size ≠ r ∧ w.heap.size + 1 + 1 + 1 ≠ r ∧ p ≠ r ∧ ph ≠ r) := ⟨by have := HRWw.out; omega, by have := HRWw.out; omega, D2.out.pr.1, by have := HPH.out.2; omega⟩
      have HOK : Hid (okPD ((a : Int), (b : Int))) := by show (0 ≤ (a : Int) ∧ (a : Int) < 256) ∧ 0 ≤ (b : Int) ∧ (b : Int) < 256; omega
      have SA : Hid (∀ Z, DW Z B p r m l SF FF TA TB v2 s2 → Blk Z ph 198 (pcellsD ((a : Int), (b : Int))) → Blk Z w.heap.size 143 #[.pointer (some ⟨p, 0, none⟩)] → Blk Z (w.heap.size + 1 + 1 + 1) 3 #[.int .i64 len] → Z.cell? ⟨w.heap.size, 0, none⟩ = some (.pointer (some ⟨p, 0, none⟩)) ∧ Z.cell? ⟨p, 405, none⟩ = some (.map (some r)) ∧ Z.cell? ⟨ph, 0, none⟩ = some (.int .i64 (a : Int)) ∧ Z.cell? ⟨ph, 1, none⟩ = some (.int .i64 (b : Int)) ∧ Z.cell? ⟨w.heap.size + 1 + 1 + 1, 0, none⟩ = some (.int .i64 len)) := fun Z h1 h2 h3 h4 => ⟨h3.cell 0 rfl, h1.wb.mp, h2.cell 0 rfl, h2.cell 1 rfl, h4.cell 0 rfl⟩
      have SAM : Hid (∀ Z, Z.cell? ⟨w.heap.size, 0, none⟩ = some (.pointer (some ⟨p, 0, none⟩)) ∧ Z.cell? ⟨p, 405, none⟩ = some (.map (some r)) ∧ Z.cell? ⟨ph, 0, none⟩ = some (.int .i64 (a : Int)) ∧ Z.cell? ⟨ph, 1, none⟩ = some (.int .i64 (b : Int)) ∧ Z.cell? ⟨w.heap.size + 1 + 1 + 1, 0, none⟩ = some (.int .i64 len) → (setMap Z r (.map (entsD (MMX s2.1 ((a : Int), (b : Int)) len)) (MMX s2.1 ((a : Int), (b : Int)) len).length)).cell? ⟨w.heap.size, 0, none⟩ = some (.pointer (some ⟨p, 0, none⟩)) ∧ (setMap Z r (.map (entsD (MMX s2.1 ((a : Int), (b : Int)) len)) (MMX s2.1 ((a : Int), (b : Int)) len).length)).cell? ⟨p, 405, none⟩ = some (.map (some r)) ∧ (setMap Z r (.map (entsD (MMX s2.1 ((a : Int), (b : Int)) len)) (MMX s2.1 ((a : Int), (b : Int)) len).length)).cell? ⟨ph, 0, none⟩ = some (.int .i64 (a : Int)) ∧ (setMap Z r (.map (entsD (MMX s2.1 ((a : Int), (b : Int)) len)) (MMX s2.1 ((a : Int), (b : Int)) len).length)).cell? ⟨ph, 1, none⟩ = some (.int .i64 (b : Int)) ∧ (setMap Z r (.map (entsD (MMX s2.1 ((a : Int), (b : Int)) len)) (MMX s2.1 ((a : Int), (b : Int)) len).length)).cell? ⟨w.heap.size + 1 + 1 + 1, 0, none⟩ = some (.int .i64 len)) := fun Z ⟨h1, h2, h3, h4, h5⟩ => ⟨(cell_setMap Z _ HRN.out.1).trans h1, (cell_setMap Z _ HRN.out.2.2.1).trans h2, (cell_setMap Z _ HRN.out.2.2.2).trans h3, (cell_setMap Z _ HRN.out.2.2.2).trans h4, (cell_setMap Z _ HRN.out.2.1).trans h5⟩
      have HUP : Hid (∀ Z : World, Z.heap[r]? = some (.map (entsD s2.1) s2.1.length) → (Instr.mapUpdate 188 (.map (some r)) (pvalD ((a : Int), (b : Int))) (.int .i64 len)).run Tryd.prog Z = .ok () (setMap Z r (.map (entsD (MMX s2.1 ((a : Int), (b : Int)) len)) (MMX s2.1 ((a : Int), (b : Int)) len).length))) := fun Z hz => by
        obtain ⟨M', e1, e2⟩ := updD D2.out.ok D2.out.nd HOK.out hz len
        rw [e2, e1]; rfl
      have HMO := Hid.of (MMX_ok D2.out.ok D2.out.nd HOK.out len)
      cases hg : getP s2.1 ((a : Int), (b : Int)) with
      | none =>
        have HM2 : Hid (rel1 s2 (((a : Int), (b : Int)), len) = (MMX s2.1 ((a : Int), (b : Int)) len, s2.2 ++ [((a : Int), (b : Int))]) ∧ _ ∧ _) := ⟨(by rw [rel1_new hg]; unfold MMX; rw [hg]), HMO.out.1, HMO.out.2⟩
        have HLK : Hid (∀ Z : World, Z.heap[r]? = some (.map (entsD s2.1) s2.1.length) → (Instr.lookup 188 (.map (some r)) (pvalD ((a : Int), (b : Int))) true).run Tryd.prog Z = .ok (.tuple #[.int .i64 0, .bool false]) Z) := fun Z hz => lookD_new D2.out.ok D2.out.nd HOK.out hz hg
        clear hg HMO
        obtain ⟨M2, HMM⟩ : ∃ M2, Hid (M2 = MMX s2.1 ((a : Int), (b : Int)) len) := ⟨_, rfl⟩
        rw [← HMM.out] at HM2 SAM HUP
        clear HMM
        refine Code.wpIn_mono (Q := regQ fun a' Y => a' = { tmps := #[.pointer (some ⟨p, 0, none⟩), sval S, sval T, .int .i64 len, .pointer (some ⟨w.heap.size, 0, none⟩), .pointer (some ⟨w.heap.size + 1, 0, none⟩), .pointer (some ⟨w.heap.size + 1 + 1, 0, none⟩), .pointer (some ⟨w.heap.size + 1 + 1 + 1, 0, none⟩), .pointer (some ⟨pb, 0, none⟩), .int .i64 (b : Int), .pointer (some ⟨ph, 0, none⟩), .int .i64 0, .bool false, sval S, .func (.func 145) #[] #[.pointer (some ⟨w.heap.size + 1 + 1 + 1 + 1, 0, none⟩)], .int .i64 (a : Int), sval T, .func (.func 145) #[] #[.pointer (some ⟨bT, 0, none⟩)], .int .i64 (b : Int), .int .i64 (a : Int), .int .i64 (b : Int), pvalD ((a : Int), (b : Int)), .tuple #[.int .i64 0, .bool false], .pointer (some ⟨p, 0, none⟩), .pointer (some ⟨p, 0, none⟩), .pointer (some ⟨p, 405, none⟩), .map (some r), pvalD ((a : Int), (b : Int)), .tuple #[.int .i64 0, .bool false], .int .i64 0, .bool false, undef, undef, undef, undef, undef, undef, undef, undef, undef, undef, undef, undef, undef, undef, undef, undef, undef, undef, undef, undef, undef, undef, undef], defers := [] } ∧ Y = X5.drew) ?aft ?reg
        case reg =>
          refine wpIn_region_round (S := fun w' => w'.cell? ⟨w.heap.size, 0, none⟩ = some (.pointer (some ⟨p, 0, none⟩)) ∧ w'.cell? ⟨p, 405, none⟩ = some (.map (some r)) ∧ w'.cell? ⟨ph, 0, none⟩ = some (.int .i64 (a : Int)) ∧ w'.cell? ⟨ph, 1, none⟩ = some (.int .i64 (b : Int)) ∧ w'.cell? ⟨w.heap.size + 1 + 1 + 1, 0, none⟩ = some (.int .i64 len)) (by kernel_rfl) (noDefer_spec (by kernel_rfl)) regQ_inD (SA.out _ D5.out.drew (KH5.out.drew) K4.out.drew K7.out.drew) (fun hS => ?_)
          have HSY := Hid.of hS
          have HMY : Hid (X5.drew.heap[r]? = some (.map (entsD s2.1) s2.1.length)) := D5.out.mp
          obtain ⟨Y0, HYE⟩ : ∃ Y0, Hid (Y0 = X5.drew) := ⟨_, rfl⟩
          rw [← HYE.out] at hS HSY HMY
          rw [← HYE.out]
          refine wpAnyH_take (i := 0) (v := .pointer (some ⟨p, 0, none⟩)) rfl (by kernel_rfl) (by kernel_rfl) (by kernel_rfl) (fun _ _ _ h => h) (Or.inl ⟨by kernel_rfl, fun w' hw' => by obtain ⟨q0, q1, q2, q3, q4⟩ := hw'; go_simp⟩) hS ?_
          refine wpAnyH_take (i := 1) (v := .pointer (some ⟨p, 0, none⟩)) rfl (by kernel_rfl) (by kernel_rfl) (by kernel_rfl) (fun _ _ _ h => h) (Or.inl ⟨by kernel_rfl, fun w' hw' => by obtain ⟨q0, q1, q2, q3, q4⟩ := hw'; go_simp⟩) hS ?_
          refine wpAnyH_take (i := 2) (v := .pointer (some ⟨p, 405, none⟩)) rfl (by kernel_rfl) (by kernel_rfl) (by kernel_rfl) (fun _ _ _ h => h) (Or.inl ⟨by kernel_rfl, fun w' hw' => by obtain ⟨q0, q1, q2, q3, q4⟩ := hw'; go_simp⟩) hS ?_
          refine wpAnyH_take (i := 3) (v := .map (some r)) rfl (by kernel_rfl) (by kernel_rfl) (by kernel_rfl) (fun _ _ _ h => h) (Or.inl ⟨by kernel_rfl, fun w' hw' => by obtain ⟨q0, q1, q2, q3, q4⟩ := hw'; go_simp⟩) hS ?_
          refine wpAnyH_take (i := 4) (v := pvalD ((a : Int), (b : Int))) rfl (by kernel_rfl) (by kernel_rfl) (by kernel_rfl) (fun _ _ _ h => h) (Or.inl ⟨by kernel_rfl, fun w' hw' => by obtain ⟨q0, q1, q2, q3, q4⟩ := hw'; go_simp⟩) hS ?_
          simp only [Act.put, List.setIfInBounds_toArray]
          refine wpAnyH_ready (rs := [5]) (by kernel_rfl) (by simp) ?_
          refine AllReadyH.cons rfl (fun K' hK' => ?_) AllReadyH.nil
          clear hS
          have lk := HLK.out Y0 HMY.out
          go_simp
          refine hK'.out _ _ (HSY.out) (fun hS => ?_)
          clear hK' K' lk
          refine wpAnyH_take (i := 6) (v := .tuple #[.int .i64 0, .bool false]) rfl (by kernel_rfl) (by kernel_rfl) (by kernel_rfl) (fun _ _ _ h => h) (Or.inl ⟨by kernel_rfl, fun w' hw' => by obtain ⟨q0, q1, q2, q3, q4⟩ := hw'; go_simp⟩) hS ?_
          refine wpAnyH_take (i := 7) (v := .int .i64 0) rfl (by kernel_rfl) (by kernel_rfl) (by kernel_rfl) (fun _ _ _ h => h) (Or.inl ⟨by kernel_rfl, fun w' hw' => by obtain ⟨q0, q1, q2, q3, q4⟩ := hw'; go_simp⟩) hS ?_
          refine wpAnyH_take (i := 8) (v := .bool false) rfl (by kernel_rfl) (by kernel_rfl) (by kernel_rfl) (fun _ _ _ h => h) (Or.inl ⟨by kernel_rfl, fun w' hw' => by obtain ⟨q0, q1, q2, q3, q4⟩ := hw'; go_simp⟩) hS ?_
          refine wpAnyH_take (i := 9) (v := .int .i64 0) rfl (by kernel_rfl) (by kernel_rfl) (by kernel_rfl) (fun _ _ _ h => h) (Or.inl ⟨by kernel_rfl, fun w' hw' => by obtain ⟨q0, q1, q2, q3, q4⟩ := hw'; go_simp⟩) hS ?_
          refine wpAnyH_take (i := 10) (v := .bool false) rfl (by kernel_rfl) (by kernel_rfl) (by kernel_rfl) (fun _ _ _ h => h) (Or.inl ⟨by kernel_rfl, fun w' hw' => by obtain ⟨q0, q1, q2, q3, q4⟩ := hw'; go_simp⟩) hS ?_
          refine wpAnyH_done (by kernel_rfl) ?_ _
          exact ⟨by kernel_rfl, rfl⟩
        case aft =>
          refine regQ_imp ?_
          rintro a' Y6 ⟨rfl, rfl⟩
          gi_wp2_with fail
          refine Code.wpIn_mono (Q := regQ fun a' Y => a' = { tmps := #[.pointer (some ⟨p, 0, none⟩), sval S, sval T, .int .i64 len, .pointer (some ⟨w.heap.size, 0, none⟩), .pointer (some ⟨w.heap.size + 1, 0, none⟩), .pointer (some ⟨w.heap.size + 1 + 1, 0, none⟩), .pointer (some ⟨w.heap.size + 1 + 1 + 1, 0, none⟩), .pointer (some ⟨pb, 0, none⟩), .int .i64 (b : Int), .pointer (some ⟨ph, 0, none⟩), .int .i64 0, .bool false, sval S, .func (.func 145) #[] #[.pointer (some ⟨w.heap.size + 1 + 1 + 1 + 1, 0, none⟩)], .int .i64 (a : Int), sval T, .func (.func 145) #[] #[.pointer (some ⟨bT, 0, none⟩)], .int .i64 (b : Int), .int .i64 (a : Int), .int .i64 (b : Int), pvalD ((a : Int), (b : Int)), .tuple #[.int .i64 0, .bool false], .pointer (some ⟨p, 0, none⟩), .pointer (some ⟨p, 0, none⟩), .pointer (some ⟨p, 405, none⟩), .map (some r), pvalD ((a : Int), (b : Int)), .tuple #[.int .i64 0, .bool false], .int .i64 0, .bool false, .bool false, .bool true, .bool true, undef, undef, undef, .bool true, .pointer (some ⟨p, 0, none⟩), .pointer (some ⟨p, 0, none⟩), .pointer (some ⟨p, 405, none⟩), .map (some r), pvalD ((a : Int), (b : Int)), .int .i64 len, undef, undef, undef, undef, undef, undef, undef, undef, undef, undef], defers := [] } ∧ Y = setMap X5.drew.drew r (.map (entsD M2) M2.length)) ?aft ?reg
          case reg =>
            refine wpIn_region_round (S := fun w' => w'.cell? ⟨w.heap.size, 0, none⟩ = some (.pointer (some ⟨p, 0, none⟩)) ∧ w'.cell? ⟨p, 405, none⟩ = some (.map (some r)) ∧ w'.cell? ⟨ph, 0, none⟩ = some (.int .i64 (a : Int)) ∧ w'.cell? ⟨ph, 1, none⟩ = some (.int .i64 (b : Int)) ∧ w'.cell? ⟨w.heap.size + 1 + 1 + 1, 0, none⟩ = some (.int .i64 len)) (by kernel_rfl) (noDefer_spec (by kernel_rfl)) regQ_inD (SA.out _ D5.out.drew.drew KH5.out.drew.drew K4.out.drew.drew K7.out.drew.drew) (fun hS => ?_)
            have HSY := Hid.of hS
            have HMY : Hid (X5.drew.drew.heap[r]? = some (.map (entsD s2.1) s2.1.length)) := D5.out.mp
            obtain ⟨Y0, HYE⟩ : ∃ Y0, Hid (Y0 = X5.drew.drew) := ⟨_, rfl⟩
            rw [← HYE.out] at hS HSY HMY
            rw [← HYE.out]
            refine wpAnyH_take (i := 0) (v := .pointer (some ⟨p, 0, none⟩)) rfl (by kernel_rfl) (by kernel_rfl) (by kernel_rfl) (fun _ _ _ h => h) (Or.inl ⟨by kernel_rfl, fun w' hw' => by obtain ⟨q0, q1, q2, q3, q4⟩ := hw'; go_simp⟩) hS ?_
            refine wpAnyH_take (i := 1) (v := .pointer (some ⟨p, 0, none⟩)) rfl (by kernel_rfl) (by kernel_rfl) (by kernel_rfl) (fun _ _ _ h => h) (Or.inl ⟨by kernel_rfl, fun w' hw' => by obtain ⟨q0, q1, q2, q3, q4⟩ := hw'; go_simp⟩) hS ?_
            refine wpAnyH_take (i := 2) (v := .pointer (some ⟨p, 405, none⟩)) rfl (by kernel_rfl) (by kernel_rfl) (by kernel_rfl) (fun _ _ _ h => h) (Or.inl ⟨by kernel_rfl, fun w' hw' => by obtain ⟨q0, q1, q2, q3, q4⟩ := hw'; go_simp⟩) hS ?_
            refine wpAnyH_take (i := 3) (v := .map (some r)) rfl (by kernel_rfl) (by kernel_rfl) (by kernel_rfl) (fun _ _ _ h => h) (Or.inl ⟨by kernel_rfl, fun w' hw' => by obtain ⟨q0, q1, q2, q3, q4⟩ := hw'; go_simp⟩) hS ?_
            refine wpAnyH_take (i := 4) (v := pvalD ((a : Int), (b : Int))) rfl (by kernel_rfl) (by kernel_rfl) (by kernel_rfl) (fun _ _ _ h => h) (Or.inl ⟨by kernel_rfl, fun w' hw' => by obtain ⟨q0, q1, q2, q3, q4⟩ := hw'; go_simp⟩) hS ?_
            refine wpAnyH_take (i := 5) (v := .int .i64 len) rfl (by kernel_rfl) (by kernel_rfl) (by kernel_rfl) (fun _ _ _ h => h) (Or.inl ⟨by kernel_rfl, fun w' hw' => by obtain ⟨q0, q1, q2, q3, q4⟩ := hw'; go_simp⟩) hS ?_
            simp only [Act.put, List.setIfInBounds_toArray]
            refine wpAnyH_ready (rs := [6]) (by kernel_rfl) (by simp) ?_
            refine AllReadyH.cons rfl (fun K' hK' => ?_) AllReadyH.nil
            clear hS
            have up := HUP.out Y0 HMY.out
            go_simp
            refine hK'.out _ _ (SAM.out Y0 HSY.out) (fun hS => ?_)
            clear hK' K' up
            refine wpAnyH_done (by kernel_rfl) ?_ _
            exact ⟨by kernel_rfl, rfl⟩
          case aft =>
            refine regQ_imp ?_
            rintro a' Y8 ⟨rfl, rfl⟩
            gi_wp2_with fail
            obtain ⟨X6, HX6⟩ : ∃ X6, Hid (X6 = X5.drew.drew) := ⟨_, rfl⟩
            have D6 : Hid (DW X6 B p r m l SF FF TA TB v2 s2) := by show DW _ _ _ _ _ _ _ _ _ _ _ _; rw [HX6.out]; exact D5.out.drew.drew
            have KH6 : Hid (Blk X6 ph 198 (pcellsD ((a : Int), (b : Int)))) := by show Blk _ _ _ _; rw [HX6.out]; exact KH5.out.drew.drew
            have K46 : Hid (Blk X6 w.heap.size 143 #[.pointer (some ⟨p, 0, none⟩)]) := by show Blk _ _ _ _; rw [HX6.out]; exact K4.out.drew.drew
            have K76 : Hid (Blk X6 (w.heap.size + 1 + 1 + 1) 3 #[.int .i64 len]) := by show Blk _ _ _ _; rw [HX6.out]; exact K7.out.drew.drew
            have B56 : Hid (Below X5.heap.size X5 X6) := by show Below _ _ _; rw [HX6.out]; exact ((Below.refl _ _).drew).drew
            rw [← HX6.out]
            obtain ⟨X7, HX7⟩ : ∃ X7, Hid (X7 = setMap X6 r (.map (entsD M2) M2.length)) := ⟨_, rfl⟩
            have KH7 : Hid (Blk X7 ph 198 (pcellsD ((a : Int), (b : Int)))) := by show Blk _ _ _ _; rw [HX7.out]; exact blk_setMap KH6.out HRN.out.2.2.2 _
            have K47 : Hid (Blk X7 w.heap.size 143 #[.pointer (some ⟨p, 0, none⟩)]) := by show Blk _ _ _ _; rw [HX7.out]; exact blk_setMap K46.out HRN.out.1 _
            have K77 : Hid (Blk X7 (w.heap.size + 1 + 1 + 1) 3 #[.int .i64 len]) := by show Blk _ _ _ _; rw [HX7.out]; exact blk_setMap K76.out HRN.out.2.1 _
            have WB7 : Hid (WtB X7 p m l SF FF TA TB (.map (some r)) v2) := by show RowC _ _ _ _ _; rw [HX7.out]; exact RowC.same D6.out.wb (heap_setMap_ne _ _ _ HRN.out.2.2.1)
            have Q7 : Hid (OwnQD X7 B v2 s2.2) := by show OwnQD _ _ _ _; rw [HX7.out]; exact D6.out.qu.same (fun k hk => heap_setMap_ne _ _ _ (fun e => D6.out.pr.2.2 (by rw [← e]; exact hk)))
            rw [← HX7.out]
            clear HX6
            obtain ⟨qa, qc, HQF⟩ := D6.out.qu.form
            subst HQF
            have SA9 : Hid (∀ Z, Below X7.heap.size X7 Z → Z.cell? ⟨w.heap.size, 0, none⟩ = some (.pointer (some ⟨p, 0, none⟩)) ∧ Z.cell? ⟨ph, 0, none⟩ = some (.int .i64 (a : Int)) ∧ Z.cell? ⟨ph, 1, none⟩ = some (.int .i64 (b : Int))) := fun Z hb => ⟨(K47.out.below hb K47.out.lt).cell 0 rfl, (KH7.out.below hb KH7.out.lt).cell 0 rfl, (KH7.out.below hb KH7.out.lt).cell 1 rfl⟩
            have HB7 : Hid (B ≤ X7.heap.size) := by show _ ≤ _; exact Nat.le_of_lt (Nat.lt_of_le_of_lt D6.out.lp WB7.out.lt)
            have HN4 : Hid ((Value.slice qa s2.2.length qc).ownBlock ≠ some w.heap.size) := HNQ.out.1
            have HNH : Hid ((Value.slice qa s2.2.length qc).ownBlock ≠ some ph) := HNQ.out.2
            have HPN : Hid (w.heap.size ≠ p ∧ ph ≠ p) := ⟨by have := HPW.out; omega, by have := HPH.out; omega⟩
            refine Code.wpIn_mono (Q := regQ fun a' Z => ∃ (Y1 Y2 : World) (v9 : Value), Below X7.heap.size X7 Y1 ∧ OwnQD Y2 B v9 (s2.2 ++ [((a : Int), (b : Int))]) ∧ Y1.grownBy Y2 (Value.slice qa s2.2.length qc).ownBlock ∧ (v9.ownBlock = (Value.slice qa s2.2.length qc).ownBlock ∨ v9.ownBlock = some Y1.heap.size) ∧ Z = Y2.setCell ⟨p, 406, none⟩ v9) ?aft ?reg
            case reg =>
              refine wpIn_region_round (S := fun w' => w'.cell? ⟨w.heap.size, 0, none⟩ = some (.pointer (some ⟨p, 0, none⟩)) ∧ w'.cell? ⟨ph, 0, none⟩ = some (.int .i64 (a : Int)) ∧ w'.cell? ⟨ph, 1, none⟩ = some (.int .i64 (b : Int))) (by kernel_rfl) (noDefer_spec (by kernel_rfl)) regQ_inD (SA9.out _ (Below.refl _ _).drew) (fun hS => ?_)
              have BF : Hid (Below X7.heap.size X7 X7.drew) := (Below.refl _ _).drew
              revert hS BF
              generalize X7.drew = Y0
              intro hS BF
              refine wpAnyH_take (i := 0) (v := .pointer (some ⟨p, 0, none⟩)) rfl (by kernel_rfl) (by kernel_rfl) (by kernel_rfl) (fun _ _ _ h => h) (Or.inl ⟨by kernel_rfl, fun w' hw' => by obtain ⟨q0, q1, q2⟩ := hw'; go_simp⟩) hS ?_
              refine wpAnyH_take (i := 1) (v := .pointer (some ⟨p, 0, none⟩)) rfl (by kernel_rfl) (by kernel_rfl) (by kernel_rfl) (fun _ _ _ h => h) (Or.inl ⟨by kernel_rfl, fun w' hw' => by obtain ⟨q0, q1, q2⟩ := hw'; go_simp⟩) hS ?_
              refine wpAnyH_take (i := 2) (v := .pointer (some ⟨p, 0, none⟩)) rfl (by kernel_rfl) (by kernel_rfl) (by kernel_rfl) (fun _ _ _ h => h) (Or.inl ⟨by kernel_rfl, fun w' hw' => by obtain ⟨q0, q1, q2⟩ := hw'; go_simp⟩) hS ?_
              refine wpAnyH_take (i := 3) (v := .pointer (some ⟨p, 406, none⟩)) rfl (by kernel_rfl) (by kernel_rfl) (by kernel_rfl) (fun _ _ _ h => h) (Or.inl ⟨by kernel_rfl, fun w' hw' => by obtain ⟨q0, q1, q2⟩ := hw'; go_simp⟩) hS ?_
              refine wpAnyH_take (i := 5) (v := pvalD ((a : Int), (b : Int))) rfl (by kernel_rfl) (by kernel_rfl) (by kernel_rfl) (fun _ _ _ h => h) (Or.inl ⟨by kernel_rfl, fun w' hw' => by obtain ⟨q0, q1, q2⟩ := hw'; go_simp⟩) hS ?_
              simp only [Act.put, List.setIfInBounds_toArray]
              refine wpAnyH_ready (rs := [4, 6]) (by kernel_rfl) (by simp) ?_
              refine AllReadyH.cons rfl (fun K' hK' => ?_) (AllReadyH.cons rfl (fun K' hK' => ?_) AllReadyH.nil)
              · clear hS
                have cq := WtB.qu (RowC.below WB7.out BF.out WB7.out.lt)
                go_simp
                refine hK'.out _ _ (SA9.out _ BF.out) (fun hS => ?_)
                clear hK' K' cq
                refine wpAnyH_ready (rs := [6]) (by kernel_rfl) (by simp) ?_
                refine AllReadyH.cons rfl (fun K' hK' => ?_) AllReadyH.nil
                clear hS
                go_simp
                have hb : Below Y0.heap.size Y0 (Y0.alloc (.cells #[.int .i64 (a : Int), .int .i64 (b : Int)] 198)) := (Below.refl _ _).alloc (Nat.le_refl _) _
                replace BF := Hid.of (BF.out.trans (hb.mono BF.out.size))
                have K50 := Hid.of (Blk.new Y0 198 #[.int .i64 (a : Int), .int .i64 (b : Int)])
                refine hK'.out _ _ (SA9.out _ BF.out) (fun hS => ?_)
                clear hK' K' hb
                revert BF K50 hS
                generalize Y0.alloc (.cells #[.int .i64 (a : Int), .int .i64 (b : Int)] 198) = Y2
                generalize Y0.heap.size = p50
                intro BF K50 hS
                refine wpAnyH_ready (rs := [7]) (by kernel_rfl) (by simp) ?_
                refine AllReadyH.cons rfl (fun K' hK' => ?_) AllReadyH.nil
                clear hS
                have qo : OwnQD Y2 B (.slice qa s2.2.length qc) s2.2 := Q7.out.same (fun k hk => BF.out.block k (Q7.out.lt k hk).2)
                have hcf : ∀ j u, ([.int .i64 (a : Int), .int .i64 (b : Int)] : List Value)[j]? = some u → Y2.cell? ((⟨p50, 0, none⟩ : Addr).add j) = some u := fun j u hu => by
                  rw [addr0_add, Nat.zero_add]
                  exact K50.out.cell j (by rw [← Array.getElem?_toList]; exact hu)
                refine step_append_PD rfl (.tmp 48) (.tmp 50) rfl (B := B) (v := .slice qa s2.2.length qc) (L := s2.2) rfl qo ⟨p50, 0, none⟩ 1 ((a : Int), (b : Int)) rfl hcf HQL.out (Nat.le_trans HB7.out BF.out.size) ?_
                intro v9 Y3 oq gr on
                obtain ⟨va, vc, hv0⟩ := oq.form
                rw [List.length_append] at hv0
                have hv9 : v9 = .slice va (s2.2.length + 1) vc := hv0
                clear hv0
                subst hv9
                have hw9 : WtB Y3 p m l SF FF TA TB (.map (some r)) (.slice qa s2.2.length qc) := RowC.same (RowC.below WB7.out BF.out WB7.out.lt) (gr.block p (Nat.lt_of_lt_of_le WB7.out.lt BF.out.size) (fun e => D6.out.pr.2.1 e.symm))
                have gk : ∀ k t cs, Blk Y2 k t cs → (Value.slice qa s2.2.length qc).ownBlock ≠ some k → Blk Y3 k t cs := fun k t cs hk hn => (gr.block k hk.lt (fun e => hn e.symm)).trans hk
                have W9 := Hid.of hw9
                have OQ := Hid.of oq
                have GR := Hid.of gr
                have ON := Hid.of on
                have c4 := gk _ _ _ (K47.out.below BF.out K47.out.lt) HN4.out
                have ch := gk _ _ _ (KH7.out.below BF.out KH7.out.lt) HNH.out
                have KT9 := Hid.of c4
                have KH9 := Hid.of ch
                refine hK'.out _ _ ⟨KT9.out.cell 0 rfl, KH9.out.cell 0 rfl, KH9.out.cell 1 rfl⟩ (fun hS => ?_)
                clear hK' K' qo hcf oq gr on hw9 gk c4 ch
                refine wpAnyH_take (i := 8) (v := .pointer (some ⟨p, 0, none⟩)) rfl (by kernel_rfl) (by kernel_rfl) (by kernel_rfl) (fun _ _ _ h => h) (Or.inl ⟨by kernel_rfl, fun w' hw' => by obtain ⟨q0, q1, q2⟩ := hw'; go_simp⟩) hS ?_
                refine wpAnyH_take (i := 9) (v := .pointer (some ⟨p, 406, none⟩)) rfl (by kernel_rfl) (by kernel_rfl) (by kernel_rfl) (fun _ _ _ h => h) (Or.inl ⟨by kernel_rfl, fun w' hw' => by obtain ⟨q0, q1, q2⟩ := hw'; go_simp⟩) hS ?_
                refine wpAnyH_ready (rs := [10]) (by kernel_rfl) (by simp) ?_
                refine AllReadyH.cons rfl (fun K' hK' => ?_) AllReadyH.nil
                clear hS
                have cq := WtB.qu W9.out
                have fz := WtB.frozen W9.out 406
                go_simp
                refine hK'.out _ _ ⟨(Blk.other KT9.out HPN.out.1 _).cell 0 rfl, (Blk.other KH9.out HPN.out.2 _).cell 0 rfl, (Blk.other KH9.out HPN.out.2 _).cell 1 rfl⟩ (fun hS => ?_)
                clear hK' K' cq fz
                refine wpAnyH_done (by kernel_rfl) ?_ _
                exact ⟨_, _, _, BF.out, OQ.out, GR.out, ON.out, rfl⟩
              · clear hS
                go_simp
                have hb : Below Y0.heap.size Y0 (Y0.alloc (.cells #[.int .i64 (a : Int), .int .i64 (b : Int)] 198)) := (Below.refl _ _).alloc (Nat.le_refl _) _
                replace BF := Hid.of (BF.out.trans (hb.mono BF.out.size))
                have K50 := Hid.of (Blk.new Y0 198 #[.int .i64 (a : Int), .int .i64 (b : Int)])
                refine hK'.out _ _ (SA9.out _ BF.out) (fun hS => ?_)
                clear hK' K' hb
                revert BF K50 hS
                generalize Y0.alloc (.cells #[.int .i64 (a : Int), .int .i64 (b : Int)] 198) = Y4
                generalize Y0.heap.size = p50
                intro BF K50 hS
                refine wpAnyH_ready (rs := [4]) (by kernel_rfl) (by simp) ?_
                refine AllReadyH.cons rfl (fun K' hK' => ?_) AllReadyH.nil
                clear hS
                have cq := WtB.qu (RowC.below WB7.out BF.out WB7.out.lt)
                go_simp
                refine hK'.out _ _ (SA9.out _ BF.out) (fun hS => ?_)
                clear hK' K' cq
                refine wpAnyH_ready (rs := [7]) (by kernel_rfl) (by simp) ?_
                refine AllReadyH.cons rfl (fun K' hK' => ?_) AllReadyH.nil
                clear hS
                have qo : OwnQD Y4 B (.slice qa s2.2.length qc) s2.2 := Q7.out.same (fun k hk => BF.out.block k (Q7.out.lt k hk).2)
                have hcf : ∀ j u, ([.int .i64 (a : Int), .int .i64 (b : Int)] : List Value)[j]? = some u → Y4.cell? ((⟨p50, 0, none⟩ : Addr).add j) = some u := fun j u hu => by
                  rw [addr0_add, Nat.zero_add]
                  exact K50.out.cell j (by rw [← Array.getElem?_toList]; exact hu)
                refine step_append_PD rfl (.tmp 48) (.tmp 50) rfl (B := B) (v := .slice qa s2.2.length qc) (L := s2.2) rfl qo ⟨p50, 0, none⟩ 1 ((a : Int), (b : Int)) rfl hcf HQL.out (Nat.le_trans HB7.out BF.out.size) ?_
                intro v9 Y6 oq gr on
                obtain ⟨va, vc, hv0⟩ := oq.form
                rw [List.length_append] at hv0
                have hv9 : v9 = .slice va (s2.2.length + 1) vc := hv0
                clear hv0
                subst hv9
                have hw9 : WtB Y6 p m l SF FF TA TB (.map (some r)) (.slice qa s2.2.length qc) := RowC.same (RowC.below WB7.out BF.out WB7.out.lt) (gr.block p (Nat.lt_of_lt_of_le WB7.out.lt BF.out.size) (fun e => D6.out.pr.2.1 e.symm))
                have gk : ∀ k t cs, Blk Y4 k t cs → (Value.slice qa s2.2.length qc).ownBlock ≠ some k → Blk Y6 k t cs := fun k t cs hk hn => (gr.block k hk.lt (fun e => hn e.symm)).trans hk
                have W9 := Hid.of hw9
                have OQ := Hid.of oq
                have GR := Hid.of gr
                have ON := Hid.of on
                have c4 := gk _ _ _ (K47.out.below BF.out K47.out.lt) HN4.out
                have ch := gk _ _ _ (KH7.out.below BF.out KH7.out.lt) HNH.out
                have KT9 := Hid.of c4
                have KH9 := Hid.of ch
                refine hK'.out _ _ ⟨KT9.out.cell 0 rfl, KH9.out.cell 0 rfl, KH9.out.cell 1 rfl⟩ (fun hS => ?_)
                clear hK' K' qo hcf oq gr on hw9 gk c4 ch
                refine wpAnyH_take (i := 8) (v := .pointer (some ⟨p, 0, none⟩)) rfl (by kernel_rfl) (by kernel_rfl) (by kernel_rfl) (fun _ _ _ h => h) (Or.inl ⟨by kernel_rfl, fun w' hw' => by obtain ⟨q0, q1, q2⟩ := hw'; go_simp⟩) hS ?_
                refine wpAnyH_take (i := 9) (v := .pointer (some ⟨p, 406, none⟩)) rfl (by kernel_rfl) (by kernel_rfl) (by kernel_rfl) (fun _ _ _ h => h) (Or.inl ⟨by kernel_rfl, fun w' hw' => by obtain ⟨q0, q1, q2⟩ := hw'; go_simp⟩) hS ?_
                refine wpAnyH_ready (rs := [10]) (by kernel_rfl) (by simp) ?_
                refine AllReadyH.cons rfl (fun K' hK' => ?_) AllReadyH.nil
                clear hS
                have cq := WtB.qu W9.out
                have fz := WtB.frozen W9.out 406
                go_simp
                refine hK'.out _ _ ⟨(Blk.other KT9.out HPN.out.1 _).cell 0 rfl, (Blk.other KH9.out HPN.out.2 _).cell 0 rfl, (Blk.other KH9.out HPN.out.2 _).cell 1 rfl⟩ (fun hS => ?_)
                clear hK' K' cq fz
                refine wpAnyH_done (by kernel_rfl) ?_ _
                exact ⟨_, _, _, BF.out, OQ.out, GR.out, ON.out, rfl⟩
            case aft =>
              refine regQ_imp ?_
              rintro a' Z ⟨Y1, Y2, v9, z1, z2, z3, z4, rfl⟩
              have hb7 := z1
              rw [HX7.out] at hb7
              obtain ⟨e1, e2⟩ := D6.out.push HM2.out.2.1 HM2.out.2.2 hb7 z2 z3 z4 (Nat.le_of_lt (Nat.lt_of_le_of_lt D6.out.lp D6.out.lt.1))
              have hk6 : KDd B p r (.slice qa s2.2.length qc) (.slice qa s2.2.length qc) X X6 := KDd.of_below (HBX5.out.trans (B56.out.mono HBX5.out.size)) HBX.out
              have hk7 := hk6.trans e2
              gi_wp2_with fail
              exact ⟨keeps_KD hk7 D2.out (by have := HRW.out; have := HW1.out; omega), hk7.bel, _, by rw [HST.out, HM2.out.1]; exact e1, HK2.out.trans hk7, HF2.out.trans (keeps_KD hk7 D2.out HRW.out)⟩

      | some k =>
        by_cases hk : k < len
        · have HM2 : Hid (rel1 s2 (((a : Int), (b : Int)), len) = (MMX s2.1 ((a : Int), (b : Int)) len, s2.2 ++ [((a : Int), (b : Int))]) ∧ _ ∧ _) := ⟨(by rw [rel1_more hg hk]; unfold MMX; rw [hg]), HMO.out.1, HMO.out.2⟩
          have HLK : Hid (∀ Z : World, Z.heap[r]? = some (.map (entsD s2.1) s2.1.length) → (Instr.lookup 188 (.map (some r)) (pvalD ((a : Int), (b : Int))) true).run Tryd.prog Z = .ok (.tuple #[.int .i64 k, .bool true]) Z) := fun Z hz => (lookD_known D2.out.ok D2.out.nd HOK.out hz hg).1
          have hdk : decide (k < len) = true := by simp [hk]
          clear hg HMO
          obtain ⟨M2, HMM⟩ : ∃ M2, Hid (M2 = MMX s2.1 ((a : Int), (b : Int)) len) := ⟨_, rfl⟩
          rw [← HMM.out] at HM2 SAM HUP
          clear HMM
          refine Code.wpIn_mono (Q := regQ fun a' Y => a' = { tmps := #[.pointer (some ⟨p, 0, none⟩), sval S, sval T, .int .i64 len, .pointer (some ⟨w.heap.size, 0, none⟩), .pointer (some ⟨w.heap.size + 1, 0, none⟩), .pointer (some ⟨w.heap.size + 1 + 1, 0, none⟩), .pointer (some ⟨w.heap.size + 1 + 1 + 1, 0, none⟩), .pointer (some ⟨pb, 0, none⟩), .int .i64 (b : Int), .pointer (some ⟨ph, 0, none⟩), .int .i64 k, .bool true, sval S, .func (.func 145) #[] #[.pointer (some ⟨w.heap.size + 1 + 1 + 1 + 1, 0, none⟩)], .int .i64 (a : Int), sval T, .func (.func 145) #[] #[.pointer (some ⟨bT, 0, none⟩)], .int .i64 (b : Int), .int .i64 (a : Int), .int .i64 (b : Int), pvalD ((a : Int), (b : Int)), .tuple #[.int .i64 k, .bool true], .pointer (some ⟨p, 0, none⟩), .pointer (some ⟨p, 0, none⟩), .pointer (some ⟨p, 405, none⟩), .map (some r), pvalD ((a : Int), (b : Int)), .tuple #[.int .i64 k, .bool true], .int .i64 k, .bool true, undef, undef, undef, undef, undef, undef, undef, undef, undef, undef, undef, undef, undef, undef, undef, undef, undef, undef, undef, undef, undef, undef, undef], defers := [] } ∧ Y = X5.drew) ?aft ?reg
          case reg =>
            refine wpIn_region_round (S := fun w' => w'.cell? ⟨w.heap.size, 0, none⟩ = some (.pointer (some ⟨p, 0, none⟩)) ∧ w'.cell? ⟨p, 405, none⟩ = some (.map (some r)) ∧ w'.cell? ⟨ph, 0, none⟩ = some (.int .i64 (a : Int)) ∧ w'.cell? ⟨ph, 1, none⟩ = some (.int .i64 (b : Int)) ∧ w'.cell? ⟨w.heap.size + 1 + 1 + 1, 0, none⟩ = some (.int .i64 len)) (by kernel_rfl) (noDefer_spec (by kernel_rfl)) regQ_inD (SA.out _ D5.out.drew (KH5.out.drew) K4.out.drew K7.out.drew) (fun hS => ?_)
            have HSY := Hid.of hS
            have HMY : Hid (X5.drew.heap[r]? = some (.map (entsD s2.1) s2.1.length)) := D5.out.mp
            obtain ⟨Y0, HYE⟩ : ∃ Y0, Hid (Y0 = X5.drew) := ⟨_, rfl⟩
            rw [← HYE.out] at hS HSY HMY
            rw [← HYE.out]
            refine wpAnyH_take (i := 0) (v := .pointer (some ⟨p, 0, none⟩)) rfl (by kernel_rfl) (by kernel_rfl) (by kernel_rfl) (fun _ _ _ h => h) (Or.inl ⟨by kernel_rfl, fun w' hw' => by obtain ⟨q0, q1, q2, q3, q4⟩ := hw'; go_simp⟩) hS ?_
            refine wpAnyH_take (i := 1) (v := .pointer (some ⟨p, 0, none⟩)) rfl (by kernel_rfl) (by kernel_rfl) (by kernel_rfl) (fun _ _ _ h => h) (Or.inl ⟨by kernel_rfl, fun w' hw' => by obtain ⟨q0, q1, q2, q3, q4⟩ := hw'; go_simp⟩) hS ?_
            refine wpAnyH_take (i := 2) (v := .pointer (some ⟨p, 405, none⟩)) rfl (by kernel_rfl) (by kernel_rfl) (by kernel_rfl) (fun _ _ _ h => h) (Or.inl ⟨by kernel_rfl, fun w' hw' => by obtain ⟨q0, q1, q2, q3, q4⟩ := hw'; go_simp⟩) hS ?_
            refine wpAnyH_take (i := 3) (v := .map (some r)) rfl (by kernel_rfl) (by kernel_rfl) (by kernel_rfl) (fun _ _ _ h => h) (Or.inl ⟨by kernel_rfl, fun w' hw' => by obtain ⟨q0, q1, q2, q3, q4⟩ := hw'; go_simp⟩) hS ?_
            refine wpAnyH_take (i := 4) (v := pvalD ((a : Int), (b : Int))) rfl (by kernel_rfl) (by kernel_rfl) (by kernel_rfl) (fun _ _ _ h => h) (Or.inl ⟨by kernel_rfl, fun w' hw' => by obtain ⟨q0, q1, q2, q3, q4⟩ := hw'; go_simp⟩) hS ?_
            simp only [Act.put, List.setIfInBounds_toArray]
            refine wpAnyH_ready (rs := [5]) (by kernel_rfl) (by simp) ?_
            refine AllReadyH.cons rfl (fun K' hK' => ?_) AllReadyH.nil
            clear hS
            have lk := HLK.out Y0 HMY.out
            go_simp
            refine hK'.out _ _ (HSY.out) (fun hS => ?_)
            clear hK' K' lk
            refine wpAnyH_take (i := 6) (v := .tuple #[.int .i64 k, .bool true]) rfl (by kernel_rfl) (by kernel_rfl) (by kernel_rfl) (fun _ _ _ h => h) (Or.inl ⟨by kernel_rfl, fun w' hw' => by obtain ⟨q0, q1, q2, q3, q4⟩ := hw'; go_simp⟩) hS ?_
            refine wpAnyH_take (i := 7) (v := .int .i64 k) rfl (by kernel_rfl) (by kernel_rfl) (by kernel_rfl) (fun _ _ _ h => h) (Or.inl ⟨by kernel_rfl, fun w' hw' => by obtain ⟨q0, q1, q2, q3, q4⟩ := hw'; go_simp⟩) hS ?_
            refine wpAnyH_take (i := 8) (v := .bool true) rfl (by kernel_rfl) (by kernel_rfl) (by kernel_rfl) (fun _ _ _ h => h) (Or.inl ⟨by kernel_rfl, fun w' hw' => by obtain ⟨q0, q1, q2, q3, q4⟩ := hw'; go_simp⟩) hS ?_
            refine wpAnyH_take (i := 9) (v := .int .i64 k) rfl (by kernel_rfl) (by kernel_rfl) (by kernel_rfl) (fun _ _ _ h => h) (Or.inl ⟨by kernel_rfl, fun w' hw' => by obtain ⟨q0, q1, q2, q3, q4⟩ := hw'; go_simp⟩) hS ?_
            refine wpAnyH_take (i := 10) (v := .bool true) rfl (by kernel_rfl) (by kernel_rfl) (by kernel_rfl) (fun _ _ _ h => h) (Or.inl ⟨by kernel_rfl, fun w' hw' => by obtain ⟨q0, q1, q2, q3, q4⟩ := hw'; go_simp⟩) hS ?_
            refine wpAnyH_done (by kernel_rfl) ?_ _
            exact ⟨by kernel_rfl, rfl⟩
          case aft =>
            refine regQ_imp ?_
            rintro a' Y6 ⟨rfl, rfl⟩
            have q7 := K7.out.drew.cell 0 rfl
            gi_wp2_with fail
            clear q7
            refine Code.wpIn_mono (Q := regQ fun a' Y => a' = { tmps := #[.pointer (some ⟨p, 0, none⟩), sval S, sval T, .int .i64 len, .pointer (some ⟨w.heap.size, 0, none⟩), .pointer (some ⟨w.heap.size + 1, 0, none⟩), .pointer (some ⟨w.heap.size + 1 + 1, 0, none⟩), .pointer (some ⟨w.heap.size + 1 + 1 + 1, 0, none⟩), .pointer (some ⟨pb, 0, none⟩), .int .i64 (b : Int), .pointer (some ⟨ph, 0, none⟩), .int .i64 k, .bool true, sval S, .func (.func 145) #[] #[.pointer (some ⟨w.heap.size + 1 + 1 + 1 + 1, 0, none⟩)], .int .i64 (a : Int), sval T, .func (.func 145) #[] #[.pointer (some ⟨bT, 0, none⟩)], .int .i64 (b : Int), .int .i64 (a : Int), .int .i64 (b : Int), pvalD ((a : Int), (b : Int)), .tuple #[.int .i64 k, .bool true], .pointer (some ⟨p, 0, none⟩), .pointer (some ⟨p, 0, none⟩), .pointer (some ⟨p, 405, none⟩), .map (some r), pvalD ((a : Int), (b : Int)), .tuple #[.int .i64 k, .bool true], .int .i64 k, .bool true, .bool true, .bool false, .bool false, .int .i64 k, .int .i64 len, .bool true, .bool true, .pointer (some ⟨p, 0, none⟩), .pointer (some ⟨p, 0, none⟩), .pointer (some ⟨p, 405, none⟩), .map (some r), pvalD ((a : Int), (b : Int)), .int .i64 len, undef, undef, undef, undef, undef, undef, undef, undef, undef, undef], defers := [] } ∧ Y = setMap X5.drew.drew r (.map (entsD M2) M2.length)) ?aft ?reg
            case reg =>
              refine wpIn_region_round (S := fun w' => w'.cell? ⟨w.heap.size, 0, none⟩ = some (.pointer (some ⟨p, 0, none⟩)) ∧ w'.cell? ⟨p, 405, none⟩ = some (.map (some r)) ∧ w'.cell? ⟨ph, 0, none⟩ = some (.int .i64 (a : Int)) ∧ w'.cell? ⟨ph, 1, none⟩ = some (.int .i64 (b : Int)) ∧ w'.cell? ⟨w.heap.size + 1 + 1 + 1, 0, none⟩ = some (.int .i64 len)) (by kernel_rfl) (noDefer_spec (by kernel_rfl)) regQ_inD (SA.out _ D5.out.drew.drew KH5.out.drew.drew K4.out.drew.drew K7.out.drew.drew) (fun hS => ?_)
              have HSY := Hid.of hS
              have HMY : Hid (X5.drew.drew.heap[r]? = some (.map (entsD s2.1) s2.1.length)) := D5.out.mp
              obtain ⟨Y0, HYE⟩ : ∃ Y0, Hid (Y0 = X5.drew.drew) := ⟨_, rfl⟩
              rw [← HYE.out] at hS HSY HMY
              rw [← HYE.out]
              refine wpAnyH_take (i := 0) (v := .pointer (some ⟨p, 0, none⟩)) rfl (by kernel_rfl) (by kernel_rfl) (by kernel_rfl) (fun _ _ _ h => h) (Or.inl ⟨by kernel_rfl, fun w' hw' => by obtain ⟨q0, q1, q2, q3, q4⟩ := hw'; go_simp⟩) hS ?_
              refine wpAnyH_take (i := 1) (v := .pointer (some ⟨p, 0, none⟩)) rfl (by kernel_rfl) (by kernel_rfl) (by kernel_rfl) (fun _ _ _ h => h) (Or.inl ⟨by kernel_rfl, fun w' hw' => by obtain ⟨q0, q1, q2, q3, q4⟩ := hw'; go_simp⟩) hS ?_
              refine wpAnyH_take (i := 2) (v := .pointer (some ⟨p, 405, none⟩)) rfl (by kernel_rfl) (by kernel_rfl) (by kernel_rfl) (fun _ _ _ h => h) (Or.inl ⟨by kernel_rfl, fun w' hw' => by obtain ⟨q0, q1, q2, q3, q4⟩ := hw'; go_simp⟩) hS ?_
              refine wpAnyH_take (i := 3) (v := .map (some r)) rfl (by kernel_rfl) (by kernel_rfl) (by kernel_rfl) (fun _ _ _ h => h) (Or.inl ⟨by kernel_rfl, fun w' hw' => by obtain ⟨q0, q1, q2, q3, q4⟩ := hw'; go_simp⟩) hS ?_
              refine wpAnyH_take (i := 4) (v := pvalD ((a : Int), (b : Int))) rfl (by kernel_rfl) (by kernel_rfl) (by kernel_rfl) (fun _ _ _ h => h) (Or.inl ⟨by kernel_rfl, fun w' hw' => by obtain ⟨q0, q1, q2, q3, q4⟩ := hw'; go_simp⟩) hS ?_
              refine wpAnyH_take (i := 5) (v := .int .i64 len) rfl (by kernel_rfl) (by kernel_rfl) (by kernel_rfl) (fun _ _ _ h => h) (Or.inl ⟨by kernel_rfl, fun w' hw' => by obtain ⟨q0, q1, q2, q3, q4⟩ := hw'; go_simp⟩) hS ?_
              simp only [Act.put, List.setIfInBounds_toArray]
              refine wpAnyH_ready (rs := [6]) (by kernel_rfl) (by simp) ?_
              refine AllReadyH.cons rfl (fun K' hK' => ?_) AllReadyH.nil
              clear hS
              have up := HUP.out Y0 HMY.out
              go_simp
              refine hK'.out _ _ (SAM.out Y0 HSY.out) (fun hS => ?_)
              clear hK' K' up
              refine wpAnyH_done (by kernel_rfl) ?_ _
              exact ⟨by kernel_rfl, rfl⟩
            case aft =>
              refine regQ_imp ?_
              rintro a' Y8 ⟨rfl, rfl⟩
              gi_wp2_with fail
              obtain ⟨X6, HX6⟩ : ∃ X6, Hid (X6 = X5.drew.drew) := ⟨_, rfl⟩
              have D6 : Hid (DW X6 B p r m l SF FF TA TB v2 s2) := by show DW _ _ _ _ _ _ _ _ _ _ _ _; rw [HX6.out]; exact D5.out.drew.drew
              have KH6 : Hid (Blk X6 ph 198 (pcellsD ((a : Int), (b : Int)))) := by show Blk _ _ _ _; rw [HX6.out]; exact KH5.out.drew.drew
              have K46 : Hid (Blk X6 w.heap.size 143 #[.pointer (some ⟨p, 0, none⟩)]) := by show Blk _ _ _ _; rw [HX6.out]; exact K4.out.drew.drew
              have K76 : Hid (Blk X6 (w.heap.size + 1 + 1 + 1) 3 #[.int .i64 len]) := by show Blk _ _ _ _; rw [HX6.out]; exact K7.out.drew.drew
              have B56 : Hid (Below X5.heap.size X5 X6) := by show Below _ _ _; rw [HX6.out]; exact ((Below.refl _ _).drew).drew
              rw [← HX6.out]
              obtain ⟨X7, HX7⟩ : ∃ X7, Hid (X7 = setMap X6 r (.map (entsD M2) M2.length)) := ⟨_, rfl⟩
              have KH7 : Hid (Blk X7 ph 198 (pcellsD ((a : Int), (b : Int)))) := by show Blk _ _ _ _; rw [HX7.out]; exact blk_setMap KH6.out HRN.out.2.2.2 _
              have K47 : Hid (Blk X7 w.heap.size 143 #[.pointer (some ⟨p, 0, none⟩)]) := by show Blk _ _ _ _; rw [HX7.out]; exact blk_setMap K46.out HRN.out.1 _
              have K77 : Hid (Blk X7 (w.heap.size + 1 + 1 + 1) 3 #[.int .i64 len]) := by show Blk _ _ _ _; rw [HX7.out]; exact blk_setMap K76.out HRN.out.2.1 _
              have WB7 : Hid (WtB X7 p m l SF FF TA TB (.map (some r)) v2) := by show RowC _ _ _ _ _; rw [HX7.out]; exact RowC.same D6.out.wb (heap_setMap_ne _ _ _ HRN.out.2.2.1)
              have Q7 : Hid (OwnQD X7 B v2 s2.2) := by show OwnQD _ _ _ _; rw [HX7.out]; exact D6.out.qu.same (fun k hk => heap_setMap_ne _ _ _ (fun e => D6.out.pr.2.2 (by rw [← e]; exact hk)))
              rw [← HX7.out]
              clear HX6
              obtain ⟨qa, qc, HQF⟩ := D6.out.qu.form
              subst HQF
              have SA9 : Hid (∀ Z, Below X7.heap.size X7 Z → Z.cell? ⟨w.heap.size, 0, none⟩ = some (.pointer (some ⟨p, 0, none⟩)) ∧ Z.cell? ⟨ph, 0, none⟩ = some (.int .i64 (a : Int)) ∧ Z.cell? ⟨ph, 1, none⟩ = some (.int .i64 (b : Int))) := fun Z hb => ⟨(K47.out.below hb K47.out.lt).cell 0 rfl, (KH7.out.below hb KH7.out.lt).cell 0 rfl, (KH7.out.below hb KH7.out.lt).cell 1 rfl⟩
              have HB7 : Hid (B ≤ X7.heap.size) := by show _ ≤ _; exact Nat.le_of_lt (Nat.lt_of_le_of_lt D6.out.lp WB7.out.lt)
              have HN4 : Hid ((Value.slice qa s2.2.length qc).ownBlock ≠ some w.heap.size) := HNQ.out.1
              have HNH : Hid ((Value.slice qa s2.2.length qc).ownBlock ≠ some ph) := HNQ.out.2
              have HPN : Hid (w.heap.size ≠ p ∧ ph ≠ p) := ⟨by have := HPW.out; omega, by have := HPH.out; omega⟩
              refine Code.wpIn_mono (Q := regQ fun a' Z => ∃ (Y1 Y2 : World) (v9 : Value), Below X7.heap.size X7 Y1 ∧ OwnQD Y2 B v9 (s2.2 ++ [((a : Int), (b : Int))]) ∧ Y1.grownBy Y2 (Value.slice qa s2.2.length qc).ownBlock ∧ (v9.ownBlock = (Value.slice qa s2.2.length qc).ownBlock ∨ v9.ownBlock = some Y1.heap.size) ∧ Z = Y2.setCell ⟨p, 406, none⟩ v9) ?aft ?reg
              case reg =>
                refine wpIn_region_round (S := fun w' => w'.cell? ⟨w.heap.size, 0, none⟩ = some (.pointer (some ⟨p, 0, none⟩)) ∧ w'.cell? ⟨ph, 0, none⟩ = some (.int .i64 (a : Int)) ∧ w'.cell? ⟨ph, 1, none⟩ = some (.int .i64 (b : Int))) (by kernel_rfl) (noDefer_spec (by kernel_rfl)) regQ_inD (SA9.out _ (Below.refl _ _).drew) (fun hS => ?_)
                have BF : Hid (Below X7.heap.size X7 X7.drew) := (Below.refl _ _).drew
                revert hS BF
                generalize X7.drew = Y0
                intro hS BF
                refine wpAnyH_take (i := 0) (v := .pointer (some ⟨p, 0, none⟩)) rfl (by kernel_rfl) (by kernel_rfl) (by kernel_rfl) (fun _ _ _ h => h) (Or.inl ⟨by kernel_rfl, fun w' hw' => by obtain ⟨q0, q1, q2⟩ := hw'; go_simp⟩) hS ?_
                refine wpAnyH_take (i := 1) (v := .pointer (some ⟨p, 0, none⟩)) rfl (by kernel_rfl) (by kernel_rfl) (by kernel_rfl) (fun _ _ _ h => h) (Or.inl ⟨by kernel_rfl, fun w' hw' => by obtain ⟨q0, q1, q2⟩ := hw'; go_simp⟩) hS ?_
                refine wpAnyH_take (i := 2) (v := .pointer (some ⟨p, 0, none⟩)) rfl (by kernel_rfl) (by kernel_rfl) (by kernel_rfl) (fun _ _ _ h => h) (Or.inl ⟨by kernel_rfl, fun w' hw' => by obtain ⟨q0, q1, q2⟩ := hw'; go_simp⟩) hS ?_
                refine wpAnyH_take (i := 3) (v := .pointer (some ⟨p, 406, none⟩)) rfl (by kernel_rfl) (by kernel_rfl) (by kernel_rfl) (fun _ _ _ h => h) (Or.inl ⟨by kernel_rfl, fun w' hw' => by obtain ⟨q0, q1, q2⟩ := hw'; go_simp⟩) hS ?_
                refine wpAnyH_take (i := 5) (v := pvalD ((a : Int), (b : Int))) rfl (by kernel_rfl) (by kernel_rfl) (by kernel_rfl) (fun _ _ _ h => h) (Or.inl ⟨by kernel_rfl, fun w' hw' => by obtain ⟨q0, q1, q2⟩ := hw'; go_simp⟩) hS ?_
                simp only [Act.put, List.setIfInBounds_toArray]
                refine wpAnyH_ready (rs := [4, 6]) (by kernel_rfl) (by simp) ?_
                refine AllReadyH.cons rfl (fun K' hK' => ?_) (AllReadyH.cons rfl (fun K' hK' => ?_) AllReadyH.nil)
                · clear hS
                  have cq := WtB.qu (RowC.below WB7.out BF.out WB7.out.lt)
                  go_simp
                  refine hK'.out _ _ (SA9.out _ BF.out) (fun hS => ?_)
                  clear hK' K' cq
                  refine wpAnyH_ready (rs := [6]) (by kernel_rfl) (by simp) ?_
                  refine AllReadyH.cons rfl (fun K' hK' => ?_) AllReadyH.nil
                  clear hS
                  go_simp
                  have hb : Below Y0.heap.size Y0 (Y0.alloc (.cells #[.int .i64 (a : Int), .int .i64 (b : Int)] 198)) := (Below.refl _ _).alloc (Nat.le_refl _) _
                  replace BF := Hid.of (BF.out.trans (hb.mono BF.out.size))
                  have K50 := Hid.of (Blk.new Y0 198 #[.int .i64 (a : Int), .int .i64 (b : Int)])
                  refine hK'.out _ _ (SA9.out _ BF.out) (fun hS => ?_)
                  clear hK' K' hb
                  revert BF K50 hS
                  generalize Y0.alloc (.cells #[.int .i64 (a : Int), .int .i64 (b : Int)] 198) = Y2
                  generalize Y0.heap.size = p50
                  intro BF K50 hS
                  refine wpAnyH_ready (rs := [7]) (by kernel_rfl) (by simp) ?_
                  refine AllReadyH.cons rfl (fun K' hK' => ?_) AllReadyH.nil
                  clear hS
                  have qo : OwnQD Y2 B (.slice qa s2.2.length qc) s2.2 := Q7.out.same (fun k hk => BF.out.block k (Q7.out.lt k hk).2)
                  have hcf : ∀ j u, ([.int .i64 (a : Int), .int .i64 (b : Int)] : List Value)[j]? = some u → Y2.cell? ((⟨p50, 0, none⟩ : Addr).add j) = some u := fun j u hu => by
                    rw [addr0_add, Nat.zero_add]
                    exact K50.out.cell j (by rw [← Array.getElem?_toList]; exact hu)
                  refine step_append_PD rfl (.tmp 48) (.tmp 50) rfl (B := B) (v := .slice qa s2.2.length qc) (L := s2.2) rfl qo ⟨p50, 0, none⟩ 1 ((a : Int), (b : Int)) rfl hcf HQL.out (Nat.le_trans HB7.out BF.out.size) ?_
                  intro v9 Y3 oq gr on
                  obtain ⟨va, vc, hv0⟩ := oq.form
                  rw [List.length_append] at hv0
                  have hv9 : v9 = .slice va (s2.2.length + 1) vc := hv0
                  clear hv0
                  subst hv9
                  have hw9 : WtB Y3 p m l SF FF TA TB (.map (some r)) (.slice qa s2.2.length qc) := RowC.same (RowC.below WB7.out BF.out WB7.out.lt) (gr.block p (Nat.lt_of_lt_of_le WB7.out.lt BF.out.size) (fun e => D6.out.pr.2.1 e.symm))
                  have gk : ∀ k t cs, Blk Y2 k t cs → (Value.slice qa s2.2.length qc).ownBlock ≠ some k → Blk Y3 k t cs := fun k t cs hk hn => (gr.block k hk.lt (fun e => hn e.symm)).trans hk
                  have W9 := Hid.of hw9
                  have OQ := Hid.of oq
                  have GR := Hid.of gr
                  have ON := Hid.of on
                  have c4 := gk _ _ _ (K47.out.below BF.out K47.out.lt) HN4.out
                  have ch := gk _ _ _ (KH7.out.below BF.out KH7.out.lt) HNH.out
                  have KT9 := Hid.of c4
                  have KH9 := Hid.of ch
                  refine hK'.out _ _ ⟨KT9.out.cell 0 rfl, KH9.out.cell 0 rfl, KH9.out.cell 1 rfl⟩ (fun hS => ?_)
                  clear hK' K' qo hcf oq gr on hw9 gk c4 ch
                  refine wpAnyH_take (i := 8) (v := .pointer (some ⟨p, 0, none⟩)) rfl (by kernel_rfl) (by kernel_rfl) (by kernel_rfl) (fun _ _ _ h => h) (Or.inl ⟨by kernel_rfl, fun w' hw' => by obtain ⟨q0, q1, q2⟩ := hw'; go_simp⟩) hS ?_
                  refine wpAnyH_take (i := 9) (v := .pointer (some ⟨p, 406, none⟩)) rfl (by kernel_rfl) (by kernel_rfl) (by kernel_rfl) (fun _ _ _ h => h) (Or.inl ⟨by kernel_rfl, fun w' hw' => by obtain ⟨q0, q1, q2⟩ := hw'; go_simp⟩) hS ?_
                  refine wpAnyH_ready (rs := [10]) (by kernel_rfl) (by simp) ?_
                  refine AllReadyH.cons rfl (fun K' hK' => ?_) AllReadyH.nil
                  clear hS
                  have cq := WtB.qu W9.out
                  have fz := WtB.frozen W9.out 406
                  go_simp
                  refine hK'.out _ _ ⟨(Blk.other KT9.out HPN.out.1 _).cell 0 rfl, (Blk.other KH9.out HPN.out.2 _).cell 0 rfl, (Blk.other KH9.out HPN.out.2 _).cell 1 rfl⟩ (fun hS => ?_)
                  clear hK' K' cq fz
                  refine wpAnyH_done (by kernel_rfl) ?_ _
                  exact ⟨_, _, _, BF.out, OQ.out, GR.out, ON.out, rfl⟩
                · clear hS
                  go_simp
                  have hb : Below Y0.heap.size Y0 (Y0.alloc (.cells #[.int .i64 (a : Int), .int .i64 (b : Int)] 198)) := (Below.refl _ _).alloc (Nat.le_refl _) _
                  replace BF := Hid.of (BF.out.trans (hb.mono BF.out.size))
                  have K50 := Hid.of (Blk.new Y0 198 #[.int .i64 (a : Int), .int .i64 (b : Int)])
                  refine hK'.out _ _ (SA9.out _ BF.out) (fun hS => ?_)
                  clear hK' K' hb
                  revert BF K50 hS
                  generalize Y0.alloc (.cells #[.int .i64 (a : Int), .int .i64 (b : Int)] 198) = Y4
                  generalize Y0.heap.size = p50
                  intro BF K50 hS
                  refine wpAnyH_ready (rs := [4]) (by kernel_rfl) (by simp) ?_
                  refine AllReadyH.cons rfl (fun K' hK' => ?_) AllReadyH.nil
                  clear hS
                  have cq := WtB.qu (RowC.below WB7.out BF.out WB7.out.lt)
                  go_simp
                  refine hK'.out _ _ (SA9.out _ BF.out) (fun hS => ?_)
                  clear hK' K' cq
                  refine wpAnyH_ready (rs := [7]) (by kernel_rfl) (by simp) ?_
                  refine AllReadyH.cons rfl (fun K' hK' => ?_) AllReadyH.nil
                  clear hS
                  have qo : OwnQD Y4 B (.slice qa s2.2.length qc) s2.2 := Q7.out.same (fun k hk => BF.out.block k (Q7.out.lt k hk).2)
                  have hcf : ∀ j u, ([.int .i64 (a : Int), .int .i64 (b : Int)] : List Value)[j]? = some u → Y4.cell? ((⟨p50, 0, none⟩ : Addr).add j) = some u := fun j u hu => by
                    rw [addr0_add, Nat.zero_add]
                    exact K50.out.cell j (by rw [← Array.getElem?_toList]; exact hu)
                  refine step_append_PD rfl (.tmp 48) (.tmp 50) rfl (B := B) (v := .slice qa s2.2.length qc) (L := s2.2) rfl qo ⟨p50, 0, none⟩ 1 ((a : Int), (b : Int)) rfl hcf HQL.out (Nat.le_trans HB7.out BF.out.size) ?_
                  intro v9 Y6 oq gr on
                  obtain ⟨va, vc, hv0⟩ := oq.form
                  rw [List.length_append] at hv0
                  have hv9 : v9 = .slice va (s2.2.length + 1) vc := hv0
                  clear hv0
                  subst hv9
                  have hw9 : WtB Y6 p m l SF FF TA TB (.map (some r)) (.slice qa s2.2.length qc) := RowC.same (RowC.below WB7.out BF.out WB7.out.lt) (gr.block p (Nat.lt_of_lt_of_le WB7.out.lt BF.out.size) (fun e => D6.out.pr.2.1 e.symm))
                  have gk : ∀ k t cs, Blk Y4 k t cs → (Value.slice qa s2.2.length qc).ownBlock ≠ some k → Blk Y6 k t cs := fun k t cs hk hn => (gr.block k hk.lt (fun e => hn e.symm)).trans hk
                  have W9 := Hid.of hw9
                  have OQ := Hid.of oq
                  have GR := Hid.of gr
                  have ON := Hid.of on
                  have c4 := gk _ _ _ (K47.out.below BF.out K47.out.lt) HN4.out
                  have ch := gk _ _ _ (KH7.out.below BF.out KH7.out.lt) HNH.out
                  have KT9 := Hid.of c4
                  have KH9 := Hid.of ch
                  refine hK'.out _ _ ⟨KT9.out.cell 0 rfl, KH9.out.cell 0 rfl, KH9.out.cell 1 rfl⟩ (fun hS => ?_)
                  clear hK' K' qo hcf oq gr on hw9 gk c4 ch
                  refine wpAnyH_take (i := 8) (v := .pointer (some ⟨p, 0, none⟩)) rfl (by kernel_rfl) (by kernel_rfl) (by kernel_rfl) (fun _ _ _ h => h) (Or.inl ⟨by kernel_rfl, fun w' hw' => by obtain ⟨q0, q1, q2⟩ := hw'; go_simp⟩) hS ?_
                  refine wpAnyH_take (i := 9) (v := .pointer (some ⟨p, 406, none⟩)) rfl (by kernel_rfl) (by kernel_rfl) (by kernel_rfl) (fun _ _ _ h => h) (Or.inl ⟨by kernel_rfl, fun w' hw' => by obtain ⟨q0, q1, q2⟩ := hw'; go_simp⟩) hS ?_
                  refine wpAnyH_ready (rs := [10]) (by kernel_rfl) (by simp) ?_
                  refine AllReadyH.cons rfl (fun K' hK' => ?_) AllReadyH.nil
                  clear hS
                  have cq := WtB.qu W9.out
                  have fz := WtB.frozen W9.out 406
                  go_simp
                  refine hK'.out _ _ ⟨(Blk.other KT9.out HPN.out.1 _).cell 0 rfl, (Blk.other KH9.out HPN.out.2 _).cell 0 rfl, (Blk.other KH9.out HPN.out.2 _).cell 1 rfl⟩ (fun hS => ?_)
                  clear hK' K' cq fz
                  refine wpAnyH_done (by kernel_rfl) ?_ _
                  exact ⟨_, _, _, BF.out, OQ.out, GR.out, ON.out, rfl⟩
              case aft =>
                refine regQ_imp ?_
                rintro a' Z ⟨Y1, Y2, v9, z1, z2, z3, z4, rfl⟩
                have hb7 := z1
                rw [HX7.out] at hb7
                obtain ⟨e1, e2⟩ := D6.out.push HM2.out.2.1 HM2.out.2.2 hb7 z2 z3 z4 (Nat.le_of_lt (Nat.lt_of_le_of_lt D6.out.lp D6.out.lt.1))
                have hk6 : KDd B p r (.slice qa s2.2.length qc) (.slice qa s2.2.length qc) X X6 := KDd.of_below (HBX5.out.trans (B56.out.mono HBX5.out.size)) HBX.out
                have hk7 := hk6.trans e2
                gi_wp2_with fail
                exact ⟨keeps_KD hk7 D2.out (by have := HRW.out; have := HW1.out; omega), hk7.bel, _, by rw [HST.out, HM2.out.1]; exact e1, HK2.out.trans hk7, HF2.out.trans (keeps_KD hk7 D2.out HRW.out)⟩

        · have HM2 : Hid (rel1 s2 (((a : Int), (b : Int)), len) = s2) := rel1_less hg hk
          have HLK : Hid (∀ Z : World, Z.heap[r]? = some (.map (entsD s2.1) s2.1.length) → (Instr.lookup 188 (.map (some r)) (pvalD ((a : Int), (b : Int))) true).run Tryd.prog Z = .ok (.tuple #[.int .i64 k, .bool true]) Z) := fun Z hz => (lookD_known D2.out.ok D2.out.nd HOK.out hz hg).1
          have hdk : decide (k < len) = false := by simp; omega
          have hlk : len ≤ k := by omega
          clear hg HMO hk
          refine Code.wpIn_mono (Q := regQ fun a' Y => a' = { tmps := #[.pointer (some ⟨p, 0, none⟩), sval S, sval T, .int .i64 len, .pointer (some ⟨w.heap.size, 0, none⟩), .pointer (some ⟨w.heap.size + 1, 0, none⟩), .pointer (some ⟨w.heap.size + 1 + 1, 0, none⟩), .pointer (some ⟨w.heap.size + 1 + 1 + 1, 0, none⟩), .pointer (some ⟨pb, 0, none⟩), .int .i64 (b : Int), .pointer (some ⟨ph, 0, none⟩), .int .i64 k, .bool true, sval S, .func (.func 145) #[] #[.pointer (some ⟨w.heap.size + 1 + 1 + 1 + 1, 0, none⟩)], .int .i64 (a : Int), sval T, .func (.func 145) #[] #[.pointer (some ⟨bT, 0, none⟩)], .int .i64 (b : Int), .int .i64 (a : Int), .int .i64 (b : Int), pvalD ((a : Int), (b : Int)), .tuple #[.int .i64 k, .bool true], .pointer (some ⟨p, 0, none⟩), .pointer (some ⟨p, 0, none⟩), .pointer (some ⟨p, 405, none⟩), .map (some r), pvalD ((a : Int), (b : Int)), .tuple #[.int .i64 k, .bool true], .int .i64 k, .bool true, undef, undef, undef, undef, undef, undef, undef, undef, undef, undef, undef, undef, undef, undef, undef, undef, undef, undef, undef, undef, undef, undef, undef], defers := [] } ∧ Y = X5.drew) ?aft ?reg
          case reg =>
            refine wpIn_region_round (S := fun w' => w'.cell? ⟨w.heap.size, 0, none⟩ = some (.pointer (some ⟨p, 0, none⟩)) ∧ w'.cell? ⟨p, 405, none⟩ = some (.map (some r)) ∧ w'.cell? ⟨ph, 0, none⟩ = some (.int .i64 (a : Int)) ∧ w'.cell? ⟨ph, 1, none⟩ = some (.int .i64 (b : Int)) ∧ w'.cell? ⟨w.heap.size + 1 + 1 + 1, 0, none⟩ = some (.int .i64 len)) (by kernel_rfl) (noDefer_spec (by kernel_rfl)) regQ_inD (SA.out _ D5.out.drew (KH5.out.drew) K4.out.drew K7.out.drew) (fun hS => ?_)
            have HSY := Hid.of hS
            have HMY : Hid (X5.drew.heap[r]? = some (.map (entsD s2.1) s2.1.length)) := D5.out.mp
            obtain ⟨Y0, HYE⟩ : ∃ Y0, Hid (Y0 = X5.drew) := ⟨_, rfl⟩
            rw [← HYE.out] at hS HSY HMY
            rw [← HYE.out]
            refine wpAnyH_take (i := 0) (v := .pointer (some ⟨p, 0, none⟩)) rfl (by kernel_rfl) (by kernel_rfl) (by kernel_rfl) (fun _ _ _ h => h) (Or.inl ⟨by kernel_rfl, fun w' hw' => by obtain ⟨q0, q1, q2, q3, q4⟩ := hw'; go_simp⟩) hS ?_
            refine wpAnyH_take (i := 1) (v := .pointer (some ⟨p, 0, none⟩)) rfl (by kernel_rfl) (by kernel_rfl) (by kernel_rfl) (fun _ _ _ h => h) (Or.inl ⟨by kernel_rfl, fun w' hw' => by obtain ⟨q0, q1, q2, q3, q4⟩ := hw'; go_simp⟩) hS ?_
            refine wpAnyH_take (i := 2) (v := .pointer (some ⟨p, 405, none⟩)) rfl (by kernel_rfl) (by kernel_rfl) (by kernel_rfl) (fun _ _ _ h => h) (Or.inl ⟨by kernel_rfl, fun w' hw' => by obtain ⟨q0, q1, q2, q3, q4⟩ := hw'; go_simp⟩) hS ?_
            refine wpAnyH_take (i := 3) (v := .map (some r)) rfl (by kernel_rfl) (by kernel_rfl) (by kernel_rfl) (fun _ _ _ h => h) (Or.inl ⟨by kernel_rfl, fun w' hw' => by obtain ⟨q0, q1, q2, q3, q4⟩ := hw'; go_simp⟩) hS ?_
            refine wpAnyH_take (i := 4) (v := pvalD ((a : Int), (b : Int))) rfl (by kernel_rfl) (by kernel_rfl) (by kernel_rfl) (fun _ _ _ h => h) (Or.inl ⟨by kernel_rfl, fun w' hw' => by obtain ⟨q0, q1, q2, q3, q4⟩ := hw'; go_simp⟩) hS ?_
            simp only [Act.put, List.setIfInBounds_toArray]
            refine wpAnyH_ready (rs := [5]) (by kernel_rfl) (by simp) ?_
            refine AllReadyH.cons rfl (fun K' hK' => ?_) AllReadyH.nil
            clear hS
            have lk := HLK.out Y0 HMY.out
            go_simp
            refine hK'.out _ _ (HSY.out) (fun hS => ?_)
            clear hK' K' lk
            refine wpAnyH_take (i := 6) (v := .tuple #[.int .i64 k, .bool true]) rfl (by kernel_rfl) (by kernel_rfl) (by kernel_rfl) (fun _ _ _ h => h) (Or.inl ⟨by kernel_rfl, fun w' hw' => by obtain ⟨q0, q1, q2, q3, q4⟩ := hw'; go_simp⟩) hS ?_
            refine wpAnyH_take (i := 7) (v := .int .i64 k) rfl (by kernel_rfl) (by kernel_rfl) (by kernel_rfl) (fun _ _ _ h => h) (Or.inl ⟨by kernel_rfl, fun w' hw' => by obtain ⟨q0, q1, q2, q3, q4⟩ := hw'; go_simp⟩) hS ?_
            refine wpAnyH_take (i := 8) (v := .bool true) rfl (by kernel_rfl) (by kernel_rfl) (by kernel_rfl) (fun _ _ _ h => h) (Or.inl ⟨by kernel_rfl, fun w' hw' => by obtain ⟨q0, q1, q2, q3, q4⟩ := hw'; go_simp⟩) hS ?_
            refine wpAnyH_take (i := 9) (v := .int .i64 k) rfl (by kernel_rfl) (by kernel_rfl) (by kernel_rfl) (fun _ _ _ h => h) (Or.inl ⟨by kernel_rfl, fun w' hw' => by obtain ⟨q0, q1, q2, q3, q4⟩ := hw'; go_simp⟩) hS ?_
            refine wpAnyH_take (i := 10) (v := .bool true) rfl (by kernel_rfl) (by kernel_rfl) (by kernel_rfl) (fun _ _ _ h => h) (Or.inl ⟨by kernel_rfl, fun w' hw' => by obtain ⟨q0, q1, q2, q3, q4⟩ := hw'; go_simp⟩) hS ?_
            refine wpAnyH_done (by kernel_rfl) ?_ _
            exact ⟨by kernel_rfl, rfl⟩
          case aft =>
            refine regQ_imp ?_
            rintro a' Y6 ⟨rfl, rfl⟩
            have q7 := K7.out.drew.cell 0 rfl
            gi_wp2_with fail
            have hk7 : KDd B p r v2 v2 X X5.drew := KDd.of_below HBX5.out.drew HBX.out
            exact ⟨keeps_KD hk7 D2.out (by have := HRW.out; have := HW1.out; omega), hk7.bel, _, by rw [HST.out, HM2.out]; exact D5.out.drew, HK2.out.trans hk7, HF2.out.trans (keeps_KD hk7 D2.out HRW.out)⟩
    case done2 =>
      rintro ys X rfl ⟨v2, g1, g2, g3⟩
      have H1 := Hid.of g1
      have H2 := Hid.of g2
      have H3 := Hid.of g3
      clear g1 g2 g3
      gi_wp2_with fail
      refine ⟨(keeps_KD HKW1.out D1.out HRW.out).trans H3.out, HKW1.out.bel.trans H2.out.bel, v2, ?_, HK1.out.trans (HKW1.out.trans H2.out)⟩
      have := H1.out
      rw [natI_all hzs] at this
      rw [HST1.out]; exact this
    case stop2 =>
      rintro c pre2 X _ hx
      exact hx.elim
  case done =>
    rintro D ys W hD rfl ⟨v', h1, h2⟩ hK
    have hMk : Marks w.heap.size [D] W := by
      refine ⟨fun D' hD' => ?_, by simp⟩
      have e : D' = D := by simpa using hD'
      rw [e]
      exact ⟨by omega, hK⟩
    have H1 := Hid.of h1
    have H2 := Hid.of h2
    have HM := Hid.of hMk
    clear h1 h2 hMk hK
    gi_wp2
    refine leaves_marks (B := w.heap.size) (fun W => DW W B p r m l SF FF TA TB v' (relL s (crsD (rowS S) (rowS T) len)) ∧ KDd B p r qv v' w W) ?hJ ?hfin [D] _ HM.out ⟨by have := H1.out; rw [natI_all hxs] at this; exact this, (KDd.of_below hBB hBw).trans H2.out⟩
    case hJ =>
      rintro W D ⟨q1, q2⟩ hD hk
      have q3 : ∀ k o, W.heap[k]? = some o → (k < w.heap.size ∨ o.isCells = true) → (W.putObj D (.deferred none)).heap[k]? = W.heap[k]? := fun k o ho hc => World.putObj_heap_other (fun e => by
        rcases hc with c | c
        · omega
        · rw [e, hk] at ho
          cases ho; cases c)
      refine ⟨q1.same ?_ (q3 r _ q1.mp (.inl HRWw.out)) (fun k hk => ?_), ⟨q2.bel.trans (belowK_b (w := w) hBw W D _ _ hD hk rfl rfl), fun k hk a1 a2 a3 => ?_, q2.own⟩⟩
      · obtain ⟨cs, q, -, -⟩ := q1.wb
        exact q3 p _ q (.inr rfl)
      · obtain ⟨cs, q⟩ := q1.qu.type k hk
        exact q3 k _ q (.inr rfl)
      · obtain ⟨o, ho⟩ : ∃ o, W.heap[k]? = some o := ⟨_, Array.getElem?_eq_getElem (Nat.lt_of_lt_of_le hk q2.bel.size)⟩
        exact (q3 k o ho (.inl hk)).trans (q2.blk k hk a1 a2 a3)
    case hfin =>
      rintro W ⟨q1, q2⟩
      exact ⟨_, results_none rfl _ _ _, rfl, v', q1, q2⟩
  case stop =>
    rintro D c pre W _ _ hx _
    exact hx.elim

theorem dmeet_any (S T : Nat → Nat) (hS : okS S) (hTt : okS T) (hSb : ∀ k ∈ allS S, k < 6) (hTb : ∀ k ∈ allS T, k < 6) (len : Int) (s : DSt) (hsl : s.2.length ≤ 100000000) (B p r : Nat) (hB0 : 0 < B) (m : Mach) (l : ML) (SF FF : Nat → Bool) (TA TB : Nat → Nat → Nat) (qv : Value) (w : World) (hT : Tab w) (h : DW w B p r m l SF FF TA TB qv s) :
    Calls Tryd.prog 135 #[.pointer (some ⟨p, 0, none⟩), sval S, sval T, .int .i64 len] w fun e W' => e = .returned (.tuple #[]) ∧ ∃ v', DW W' B p r m l SF FF TA TB v' (relL s (crsD (rowS S) (rowS T) len)) ∧ KDd B p r qv v' w W' :=
  callsIn_wide.1 (dmeet_in S T hS hTt hSb hTb len s hsl B p r hB0 m l SF FF TA TB qv w hT h)

end Go.Proofs.YtgebfkmfhpcdhaaDoor
