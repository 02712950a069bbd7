/-
  The walk of secret.watch.
-/
import Derived.Test.YtmlkpdeidpcidaaDoorEQWa1
import Derived.Test.YtmlkpdeidpcidaaDoorI06
import Derived.Test.YtmlkpdeidpcidaaDoorI05
import Derived.Test.YtmlkpdeidpcidaaDoorI04
import Derived.Test.YtmlkpdeidpcidaaDoorI12
namespace Go.Proofs.YtmlkpdeidpcidaaDoor
open Go.RowKit
set_option linter.unusedVariables false

theorem blk_differ {W : World} {p q : Nat} {t : TypeId} {cs cs' : Array Value} (h : Blk W p t cs) (h' : Blk W q t cs') (hn : cs ≠ cs') : p ≠ q := fun e => by
  have h1 : W.heap[p]? = some (.cells cs t (0, 0)) := h
  have h2 : W.heap[q]? = some (.cells cs' t (0, 0)) := h'
  rw [e, h2] at h1
  cases h1; exact hn rfl
theorem LD.setI {W : World} {L : LB} {ev N p : Nat} {T : Nat → Nat → Nat} {v : Value} {cs : Array Value} (h : LD W L ev N T) (hp : Blk W p 22 cs) : LD (W.setCell ⟨p, 0, none⟩ v) L ev N T := by
  obtain ⟨cs', h1, h2, h3⟩ := h.tab
  exact ⟨Blk.other h.is (blk_apart h.is hp (by decide)) v, Blk.other h.evb (blk_apart h.evb hp (by decide)) v, Blk.other h.to (blk_apart h.to hp (by decide)) v, ⟨cs', h1.other (blk_apart h1 hp (by decide)) v, h2, h3⟩, Blk.other h.bd (blk_apart h.bd hp (by decide)) v⟩
theorem WL.setI {W : World} {pA pB : Nat} {LA LC : LB} {ev sa sb p : Nat} {TA TC : Nat → Nat → Nat} {v : Value} {cs : Array Value} (h : WL W pA pB LA LC ev sa sb TA TC) (hp : Blk W p 22 cs) : WL (W.setCell ⟨p, 0, none⟩ v) pA pB LA LC ev sa sb TA TC :=
  ⟨h.ca.other (blk_apart h.ca hp (by decide)) v, h.cb.other (blk_apart h.cb hp (by decide)) v, h.la.setI hp, h.lb.setI hp⟩
theorem WL.setF {W : World} {pA pB : Nat} {LA LC : LB} {ev sa sb p : Nat} {TA TC : Nat → Nat → Nat} {v : Value} (h : WL W pA pB LA LC ev sa sb TA TC) (hp : Blk W p 108 #[.nilFunc]) : WL (W.setCell ⟨p, 0, none⟩ v) pA pB LA LC ev sa sb TA TC :=
  ⟨h.ca.other (blk_differ h.ca hp (by simp)) v, h.cb.other (blk_differ h.cb hp (by simp)) v, h.la.setF hp, h.lb.setF hp⟩
theorem own_setQ {W : World} {B p : Nat} {v : Value} {us : List Int} {t : TypeId} {cs : Array Value} (h : Own W B v us) (hp : Blk W p t cs) (ht : t ≠ 3) (x : Value) : Own (W.setCell ⟨p, 0, none⟩ x) B v us :=
  own_same h (fun k hk => Below.heap_setCell W ⟨p, 0, none⟩ x k (fun e => by
    obtain ⟨c2, h2⟩ := own_type h hk
    rw [e, show W.heap[p]? = _ from hp] at h2
    cases h2; exact ht rfl))
theorem LD.hi4 {W : World} {L : LB} {ev N n b : Nat} {T : Nat → Nat → Nat} (h : LD W L ev N T) (hl : L.all (n ≤ ·)) (hb : b < n) (v0 v1 v2 v3 : Value) : LD ((((W.setCell ⟨b, 0, none⟩ v0).setCell ⟨b, 1, none⟩ v1).setCell ⟨b, 2, none⟩ v2).setCell ⟨b, 3, none⟩ v3) L ev N T :=
  LD.other4 h (hl.imp (fun k hk => by omega)) v0 v1 v2 v3
theorem WL.hi4 {W : World} {pA pB : Nat} {LA LC : LB} {ev sa sb n b : Nat} {TA TC : Nat → Nat → Nat} (h : WL W pA pB LA LC ev sa sb TA TC) (hh : HiQ n pA pB LA LC) (hb : b < n) (v0 v1 v2 v3 : Value) : WL ((((W.setCell ⟨b, 0, none⟩ v0).setCell ⟨b, 1, none⟩ v1).setCell ⟨b, 2, none⟩ v2).setCell ⟨b, 3, none⟩ v3) pA pB LA LC ev sa sb TA TC :=
  ⟨h.ca.other4 (by have := hh.1; omega) v0 v1 v2 v3, h.cb.other4 (by have := hh.2.1; omega) v0 v1 v2 v3, h.la.hi4 hh.2.2.1 hb v0 v1 v2 v3, h.lb.hi4 hh.2.2.2 hb v0 v1 v2 v3⟩
theorem own_hi4 {W : World} {B b : Nat} {v : Value} {us : List Int} (h : Own W B v us) (hb : b < B) (v0 v1 v2 v3 : Value) : Own ((((W.setCell ⟨b, 0, none⟩ v0).setCell ⟨b, 1, none⟩ v1).setCell ⟨b, 2, none⟩ v2).setCell ⟨b, 3, none⟩ v3) B v us :=
  own_same h (fun k hk => by
    have hne : k ≠ b := by have := (World.ownsRow.lt h k hk).1; omega
    rw [Below.heap_setCell _ _ _ k hne, Below.heap_setCell _ _ _ k hne, Below.heap_setCell _ _ _ k hne, Below.heap_setCell _ _ _ k hne])
theorem Own.at_len {W : World} {B : Nat} {a : Option Addr} {c : Nat} {us : List Int} (h : Own W B (.slice a us.length c) us) : At W a us := by
  obtain ⟨a', c', e, h1, -⟩ := h.at
  cases e; exact h1

theorem results_setOne {fn : Func} {p u : Tmp} (h : fn.results = #[.cell p 85, .tmp u]) (tmps : Array Value) (w : World) (g : Nat) (S : Nat → Nat) (x : Value) (hp : tmps.getD p undef = .pointer (some ⟨g, 0, none⟩)) (hu : tmps.getD u undef = x) (hB : SB w g S) :
    (results fn tmps).run Tryd.prog w = .ok (.tuple #[sval S, x]) w := by
  obtain ⟨x0, x1, x2, x3⟩ := SB.cells hB
  have e : (results fn tmps).run Tryd.prog w = ((asAddr (tmps.getD p undef)).run Tryd.prog w).andThen fun a w₁ => ((loadVar 85 a).run Tryd.prog w₁).andThen fun r w₂ => .ok (.tuple #[r, tmps.getD u undef]) w₂ := by
    simp only [results, h]
    simp [Sem.run_bind, Result.andThen]
  rw [e, hp, hu]
  go_simp

set_option maxRecDepth 100000 in
set_option maxHeartbeats 16000000 in
theorem qwatch_go (st sb ev : Nat) (starts startsB : List Int) (ars arsB : List Arr) (ends endsB : List Int) (a1 : Option Addr) (c1 : Nat) (a2 : Option Addr) (c2 : Nat) (a3 : Option Addr) (c3 : Nat) (b1 : Option Addr) (d1 : Nat) (b2 : Option Addr) (d2 : Nat) (b3 : Option Addr) (d3 : Nat) (sa : Option Addr) (sc : Nat) (seen : List Int) (hma : Hid (mayB ⟨(st : Int), (ev : Int), starts, ars, ends⟩ = true)) (hmb : Hid (mayB ⟨(sb : Int), (ev : Int), startsB, arsB, endsB⟩ = true)) (z6 : st ≤ 6) (z4 : sb ≤ 4) (w : World) (hT : Hid (Tab w)) (h : Hid (MAt w ⟨(st : Int), (ev : Int), starts, ars, ends⟩ ⟨a1, c1, a2, c2, a3, c3⟩)) (h' : Hid (MAt w ⟨(sb : Int), (ev : Int), startsB, arsB, endsB⟩ ⟨b1, d1, b2, d2, b3, d3⟩)) (hs : Hid (At w sa seen)) (hsl : Hid (seen.length ≤ maxLen)) :
    Calls Tryd.prog 94 #[mval ⟨(st : Int), (ev : Int), starts, ars, ends⟩ ⟨a1, c1, a2, c2, a3, c3⟩, mval ⟨(sb : Int), (ev : Int), startsB, arsB, endsB⟩ ⟨b1, d1, b2, d2, b3, d3⟩, .slice sa seen.length sc] w fun e w' => ∃ F p8 p9 pA pB LA LC ua uc, e = .returned (.tuple #[sval F, qwatV p8 p9]) ∧ Rep F ((firstQ ⟨(st : Int), (ev : Int), starts, ars, ends⟩ ⟨(sb : Int), (ev : Int), startsB, arsB, endsB⟩ seen).map encQ) ∧ WatQ w' p8 p9 pA pB LA LC ua uc ⟨(st : Int), (ev : Int), starts, ars, ends⟩ ⟨(sb : Int), (ev : Int), startsB, arsB, endsB⟩ seen ∧ Below w.heap.size w w' := by
  have hmf : ∀ (fn : Fn) (first cap : Array Value) (w : World), (Instr.makeFunc fn first cap).run Tryd.prog w = .ok (.func fn first cap) w := fun _ _ _ _ => rfl
  have B : Hid (Below w.heap.size w (((w.alloc (.cells (mcells ⟨(st : Int), (ev : Int), starts, ars, ends⟩ ⟨a1, c1, a2, c2, a3, c3⟩) 25)).alloc (.cells (mcells ⟨(sb : Int), (ev : Int), startsB, arsB, endsB⟩ ⟨b1, d1, b2, d2, b3, d3⟩) 25)).alloc (.cells #[.int .u64 0, .int .u64 0, .int .u64 0, .int .u64 0] 85))) := (((Below.refl _ _).alloc (Nat.le_refl _) _).alloc (by simp) _).alloc (by simp; omega) _
  have KA : Hid (Blk (((w.alloc (.cells (mcells ⟨(st : Int), (ev : Int), starts, ars, ends⟩ ⟨a1, c1, a2, c2, a3, c3⟩) 25)).alloc (.cells (mcells ⟨(sb : Int), (ev : Int), startsB, arsB, endsB⟩ ⟨b1, d1, b2, d2, b3, d3⟩) 25)).alloc (.cells #[.int .u64 0, .int .u64 0, .int .u64 0, .int .u64 0] 85)) w.heap.size 25 (mcells ⟨(st : Int), (ev : Int), starts, ars, ends⟩ ⟨a1, c1, a2, c2, a3, c3⟩)) := ((Blk.new w _ _).alloc _).alloc _
  have KB : Hid (Blk (((w.alloc (.cells (mcells ⟨(st : Int), (ev : Int), starts, ars, ends⟩ ⟨a1, c1, a2, c2, a3, c3⟩) 25)).alloc (.cells (mcells ⟨(sb : Int), (ev : Int), startsB, arsB, endsB⟩ ⟨b1, d1, b2, d2, b3, d3⟩) 25)).alloc (.cells #[.int .u64 0, .int .u64 0, .int .u64 0, .int .u64 0] 85)) (w.heap.size + 1) 25 (mcells ⟨(sb : Int), (ev : Int), startsB, arsB, endsB⟩ ⟨b1, d1, b2, d2, b3, d3⟩)) := by
    have := (Blk.new (w.alloc (.cells (mcells ⟨(st : Int), (ev : Int), starts, ars, ends⟩ ⟨a1, c1, a2, c2, a3, c3⟩) 25)) 25 (mcells ⟨(sb : Int), (ev : Int), startsB, arsB, endsB⟩ ⟨b1, d1, b2, d2, b3, d3⟩)).alloc (.cells #[.int .u64 0, .int .u64 0, .int .u64 0, .int .u64 0] 85)
    rwa [World.size_alloc] at this
  have KR : Hid (SB (((w.alloc (.cells (mcells ⟨(st : Int), (ev : Int), starts, ars, ends⟩ ⟨a1, c1, a2, c2, a3, c3⟩) 25)).alloc (.cells (mcells ⟨(sb : Int), (ev : Int), startsB, arsB, endsB⟩ ⟨b1, d1, b2, d2, b3, d3⟩) 25)).alloc (.cells #[.int .u64 0, .int .u64 0, .int .u64 0, .int .u64 0] 85)) (w.heap.size + 1 + 1) zeroS) := by
    have := Blk.new ((w.alloc (.cells (mcells ⟨(st : Int), (ev : Int), starts, ars, ends⟩ ⟨a1, c1, a2, c2, a3, c3⟩) 25)).alloc (.cells (mcells ⟨(sb : Int), (ev : Int), startsB, arsB, endsB⟩ ⟨b1, d1, b2, d2, b3, d3⟩) 25)) 85 #[.int .u64 0, .int .u64 0, .int .u64 0, .int .u64 0]
    rwa [World.size_alloc, World.size_alloc] at this
  have hza := mayB_size hma.out
  have hzb := mayB_size hmb.out
  unfold sizeOk at hza hzb
  dsimp only at hza hzb
  have hev : ev ≤ 8 := by omega
  clear hza hzb
  have SA : Hid (∀ W, Blk W w.heap.size 25 (mcells ⟨(st : Int), (ev : Int), starts, ars, ends⟩ ⟨a1, c1, a2, c2, a3, c3⟩) → Blk W (w.heap.size + 1) 25 (mcells ⟨(sb : Int), (ev : Int), startsB, arsB, endsB⟩ ⟨b1, d1, b2, d2, b3, d3⟩) → W.cell? ⟨w.heap.size, 0, none⟩ = some (.int .i64 st) ∧ W.cell? ⟨w.heap.size, 1, none⟩ = some (.int .i64 ev) ∧ W.cell? ⟨w.heap.size, 2, none⟩ = some (.slice a1 starts.length c1) ∧ W.cell? ⟨w.heap.size, 3, none⟩ = some (.slice a2 ars.length c2) ∧ W.cell? ⟨w.heap.size, 4, none⟩ = some (.slice a3 ends.length c3) ∧ W.cell? ⟨w.heap.size + 1, 0, none⟩ = some (.int .i64 sb) ∧ W.cell? ⟨w.heap.size + 1, 1, none⟩ = some (.int .i64 ev) ∧ W.cell? ⟨w.heap.size + 1, 2, none⟩ = some (.slice b1 startsB.length d1) ∧ W.cell? ⟨w.heap.size + 1, 3, none⟩ = some (.slice b2 arsB.length d2) ∧ W.cell? ⟨w.heap.size + 1, 4, none⟩ = some (.slice b3 endsB.length d3)) := fun W h1 h2 => by
    obtain ⟨x0, x1, x2, x3, x4⟩ := mcell_at h1
    obtain ⟨y0, y1, y2, y3, y4⟩ := mcell_at h2
    exact ⟨x0, x1, x2, x3, x4, y0, y1, y2, y3, y4⟩
  go_enter Tryd.func94, Tryd.ntmps94
  go_wp2_with fail
  revert B KA KB KR
  generalize (((w.alloc (.cells (mcells ⟨(st : Int), (ev : Int), starts, ars, ends⟩ ⟨a1, c1, a2, c2, a3, c3⟩) 25)).alloc (.cells (mcells ⟨(sb : Int), (ev : Int), startsB, arsB, endsB⟩ ⟨b1, d1, b2, d2, b3, d3⟩) 25)).alloc (.cells #[.int .u64 0, .int .u64 0, .int .u64 0, .int .u64 0] 85)) = V0
  intro B KA KB KR
  refine Code.wp_mono (Q := regQ fun a' W' => ∃ (p8 p9 pA pB : Nat) (LA LC : LB) (ua : Option Addr) (uc : Nat), a' = { tmps := #[mval ⟨(st : Int), (ev : Int), starts, ars, ends⟩ ⟨a1, c1, a2, c2, a3, c3⟩, mval ⟨(sb : Int), (ev : Int), startsB, arsB, endsB⟩ ⟨b1, d1, b2, d2, b3, d3⟩, .slice sa seen.length sc, .pointer (some ⟨w.heap.size, 0, none⟩), .pointer (some ⟨w.heap.size + 1, 0, none⟩), undef, .pointer (some ⟨w.heap.size + 1 + 1, 0, none⟩), .nilFunc, .pointer (some ⟨p8, 0, none⟩), .pointer (some ⟨p9, 0, none⟩), undef, .agg #[.int .i64 st, .int .i64 ev, .slice a1 starts.length c1, .slice a2 ars.length c2, .slice a3 ends.length c3], .agg #[.int .i64 sb, .int .i64 ev, .slice b1 startsB.length d1, .slice b2 arsB.length d2, .slice b3 endsB.length d3], qleadV pA pB, .pointer (some ⟨w.heap.size, 1, none⟩), .int .i64 ev, .slice sa seen.length sc, .slice ua (othL ev seen).length uc, undef, undef, undef, undef, undef, undef, undef, undef, undef, undef, undef, undef], defers := [] } ∧ Below w.heap.size w W' ∧ Blk W' w.heap.size 25 (mcells ⟨(st : Int), (ev : Int), starts, ars, ends⟩ ⟨a1, c1, a2, c2, a3, c3⟩) ∧ Blk W' (w.heap.size + 1) 25 (mcells ⟨(sb : Int), (ev : Int), startsB, arsB, endsB⟩ ⟨b1, d1, b2, d2, b3, d3⟩) ∧ SB W' (w.heap.size + 1 + 1) zeroS ∧ WatQ W' p8 p9 pA pB LA LC ua uc ⟨(st : Int), (ev : Int), starts, ars, ends⟩ ⟨(sb : Int), (ev : Int), startsB, arsB, endsB⟩ seen ∧ Own W' (w.heap.size + 3) (.slice ua (othL ev seen).length uc) (othL ev seen) ∧ HiQ (w.heap.size + 3) pA pB LA LC ∧ w.heap.size + 1 + 1 < p8 ∧ w.heap.size + 1 + 1 < p9) ?aft ?reg
  case reg =>
    refine wp_region_held_drew (S := fun w' => w'.cell? ⟨w.heap.size, 0, none⟩ = some (.int .i64 st) ∧ w'.cell? ⟨w.heap.size, 1, none⟩ = some (.int .i64 ev) ∧ w'.cell? ⟨w.heap.size, 2, none⟩ = some (.slice a1 starts.length c1) ∧ w'.cell? ⟨w.heap.size, 3, none⟩ = some (.slice a2 ars.length c2) ∧ w'.cell? ⟨w.heap.size, 4, none⟩ = some (.slice a3 ends.length c3) ∧ w'.cell? ⟨w.heap.size + 1, 0, none⟩ = some (.int .i64 sb) ∧ w'.cell? ⟨w.heap.size + 1, 1, none⟩ = some (.int .i64 ev) ∧ w'.cell? ⟨w.heap.size + 1, 2, none⟩ = some (.slice b1 startsB.length d1) ∧ w'.cell? ⟨w.heap.size + 1, 3, none⟩ = some (.slice b2 arsB.length d2) ∧ w'.cell? ⟨w.heap.size + 1, 4, none⟩ = some (.slice b3 endsB.length d3)) (by kernel_rfl) (SA.out _ (Blk.drew KA.out) (Blk.drew KB.out)) (fun hS => ?_)
    replace B : Hid (Below w.heap.size w V0.drew) := B.out.drew
    replace KA : Hid (Blk V0.drew w.heap.size 25 (mcells ⟨(st : Int), (ev : Int), starts, ars, ends⟩ ⟨a1, c1, a2, c2, a3, c3⟩)) := Blk.drew KA.out
    replace KB : Hid (Blk V0.drew (w.heap.size + 1) 25 (mcells ⟨(sb : Int), (ev : Int), startsB, arsB, endsB⟩ ⟨b1, d1, b2, d2, b3, d3⟩)) := Blk.drew KB.out
    replace KR : Hid (SB V0.drew (w.heap.size + 1 + 1) zeroS) := Blk.drew KR.out
    revert hS B KA KB KR
    generalize V0.drew = Y0
    intro hS B KA KB KR
    refine wpAnyH_take (i := 0) (v := .agg #[.int .i64 st, .int .i64 ev, .slice a1 starts.length c1, .slice a2 ars.length c2, .slice a3 ends.length c3]) rfl (by kernel_rfl) (by kernel_rfl) (by kernel_rfl) (fun _ _ _ h => h) (Or.inl ⟨by kernel_rfl, fun w' hw' => by obtain ⟨q0, q1, q2, q3, q4, q5, q6, q7, q8, q9⟩ := hw'; go_simp⟩) hS ?_
    refine wpAnyH_take (i := 1) (v := .agg #[.int .i64 sb, .int .i64 ev, .slice b1 startsB.length d1, .slice b2 arsB.length d2, .slice b3 endsB.length d3]) rfl (by kernel_rfl) (by kernel_rfl) (by kernel_rfl) (fun _ _ _ h => h) (Or.inl ⟨by kernel_rfl, fun w' hw' => by obtain ⟨q0, q1, q2, q3, q4, q5, q6, q7, q8, q9⟩ := hw'; go_simp⟩) hS ?_
    refine wpAnyH_take (i := 3) (v := .pointer (some ⟨w.heap.size, 1, none⟩)) rfl (by kernel_rfl) (by kernel_rfl) (by kernel_rfl) (fun _ _ _ h => h) (Or.inl ⟨by kernel_rfl, fun w' hw' => by obtain ⟨q0, q1, q2, q3, q4, q5, q6, q7, q8, q9⟩ := hw'; go_simp⟩) hS ?_
    refine wpAnyH_take (i := 4) (v := .int .i64 ev) rfl (by kernel_rfl) (by kernel_rfl) (by kernel_rfl) (fun _ _ _ h => h) (Or.inl ⟨by kernel_rfl, fun w' hw' => by obtain ⟨q0, q1, q2, q3, q4, q5, q6, q7, q8, q9⟩ := hw'; go_simp⟩) hS ?_
    refine wpAnyH_take (i := 5) (v := .slice sa seen.length sc) rfl (by kernel_rfl) (by kernel_rfl) (by kernel_rfl) (fun _ _ _ h => h) (Or.inl ⟨by kernel_rfl, fun w' hw' => by obtain ⟨q0, q1, q2, q3, q4, q5, q6, q7, q8, q9⟩ := hw'; go_simp⟩) hS ?_
    simp only [Act.put, List.setIfInBounds_toArray]
    refine wpAnyH_ready (rs := [2, 7, 8]) (by kernel_rfl) (by simp) ?_
    refine AllReadyH.cons rfl (fun K' hK' => ?_) (AllReadyH.cons rfl (fun K' hK' => ?_) (AllReadyH.cons rfl (fun K' hK' => ?_) AllReadyH.nil))
    · clear hS
      go_simp
      refine (qleader_any st sb ev starts startsB ars arsB ends endsB a1 c1 a2 c2 a3 c3 b1 d1 b2 d2 b3 d3 hma hmb Y0 (Hid.of (h.out.below B.out (Nat.le_refl _))) (Hid.of (h'.out.below B.out (Nat.le_refl _)))).mono ?_
      rintro e Y1 ⟨pA, pB, LA, LC, rfl, wl, hi, hb⟩
      have HHI : Hid (HiQ (w.heap.size + 3) pA pB LA LC) := hi.mono (Nat.succ_le_of_lt KR.out.lt)
      replace B := Hid.of (B.out.trans (hb.mono B.out.size))
      replace KA := Hid.of (KA.out.below hb KA.out.lt)
      replace KB := Hid.of (KB.out.below hb KB.out.lt)
      replace KR := Hid.of (KR.out.below hb KR.out.lt)
      have WLq := Hid.of wl
      refine hK'.out _ _ (SA.out _ KA.out KB.out) (fun hS => ?_)
      clear hK' K' hb wl hi
      refine wpAnyH_ready (rs := [6, 7, 8]) (by kernel_rfl) (by simp) ?_
      refine AllReadyH.cons rfl (fun K' hK' => ?_) (AllReadyH.cons rfl (fun K' hK' => ?_) (AllReadyH.cons rfl (fun K' hK' => ?_) AllReadyH.nil))
      · clear hS
        go_simp
        refine (others_any ev sa sc seen Y1 hev (hs.out.below B.out (Nat.le_refl _)) hsl.out).mono ?_
        rintro e Y2 ⟨vu, rfl, ov, hb⟩
        obtain ⟨ua, uc, rfl, -, -, -, -⟩ := ov.at2
        have OU0 : Hid (Own _ (w.heap.size + 3) (.slice ua (othL ev seen).length uc) (othL ev seen)) := Own.low ov (Nat.succ_le_of_lt KR.out.lt)
        replace B := Hid.of (B.out.trans (hb.mono B.out.size))
        replace KA := Hid.of (KA.out.below hb KA.out.lt)
        replace KB := Hid.of (KB.out.below hb KB.out.lt)
        replace KR := Hid.of (KR.out.below hb KR.out.lt)
        replace WLq := Hid.of (WLq.out.kept hb)
        have OU := OU0
        refine hK'.out _ _ (SA.out _ KA.out KB.out) (fun hS => ?_)
        clear hK' K' hb ov
        refine wpAnyH_ready (rs := [7, 8]) (by kernel_rfl) (by simp) ?_
        refine AllReadyH.cons rfl (fun K' hK' => ?_) (AllReadyH.cons rfl (fun K' hK' => ?_) AllReadyH.nil)
        · clear hS
          go_simp
          have hb : Below Y2.heap.size Y2 (Y2.alloc (.cells #[.nilFunc] 108)) := (Below.refl _ _).alloc (Nat.le_refl _) _
          have P8 := Hid.of (Nat.le_trans (Nat.succ_le_of_lt KR.out.lt) (Nat.le_refl Y2.heap.size))
          replace B := Hid.of (B.out.trans (hb.mono B.out.size))
          replace KA := Hid.of (KA.out.below hb KA.out.lt)
          replace KB := Hid.of (KB.out.below hb KB.out.lt)
          replace KR := Hid.of (KR.out.below hb KR.out.lt)
          replace WLq := Hid.of (WLq.out.kept hb)
          replace OU := Hid.of (own_same OU.out (fun k hk => hb.block k (World.ownsRow.lt OU.out k hk).2))
          have K8 := Hid.of (Blk.new Y2 108 #[.nilFunc])
          refine hK'.out _ _ (SA.out _ KA.out KB.out) (fun hS => ?_)
          clear hK' K' hb
          revert P8 B KA KB KR WLq OU K8 hS
          generalize Y2.alloc (.cells #[.nilFunc] 108) = Y3
          generalize Y2.heap.size = p8
          intro P8 B KA KB KR WLq OU K8 hS
          refine wpAnyH_ready (rs := [8]) (by kernel_rfl) (by simp) ?_
          refine AllReadyH.cons rfl (fun K' hK' => ?_) AllReadyH.nil
          clear hS
          go_simp
          have hb : Below Y3.heap.size Y3 (Y3.alloc (.cells #[.slice none 0 0] 22)) := (Below.refl _ _).alloc (Nat.le_refl _) _
          have P9 := Hid.of (Nat.le_trans (Nat.succ_le_of_lt KR.out.lt) (Nat.le_refl Y3.heap.size))
          replace B := Hid.of (B.out.trans (hb.mono B.out.size))
          replace KA := Hid.of (KA.out.below hb KA.out.lt)
          replace KB := Hid.of (KB.out.below hb KB.out.lt)
          replace KR := Hid.of (KR.out.below hb KR.out.lt)
          replace WLq := Hid.of (WLq.out.kept hb)
          replace OU := Hid.of (own_same OU.out (fun k hk => hb.block k (World.ownsRow.lt OU.out k hk).2))
          replace K8 := Hid.of (K8.out.below hb K8.out.lt)
          have K9 := Hid.of (Blk.new Y3 22 #[.slice none 0 0])
          refine hK'.out _ _ (SA.out _ KA.out KB.out) (fun hS => ?_)
          clear hK' K' hb
          revert P9 B KA KB KR WLq OU K8 K9 hS
          generalize Y3.alloc (.cells #[.slice none 0 0] 22) = Y4
          generalize Y3.heap.size = p9
          intro P9 B KA KB KR WLq OU K8 K9 hS
          refine wpAnyH_ready (rs := [9]) (by kernel_rfl) (by simp) ?_
          refine AllReadyH.cons rfl (fun K' hK' => ?_) AllReadyH.nil
          have f8 := K8.out.frozen 0
          have e8 := K8.out.cell 0 rfl
          go_simp
          have N89 : Hid (p9 ≠ p8) := blk_apart K9.out K8.out (by decide)
          replace OU := Hid.of (own_setQ OU.out K8.out (by decide) (qleadV pA pB))
          replace WLq := Hid.of (WLq.out.setF K8.out (v := qleadV pA pB))
          replace B := Hid.of (B.out.setCell (p := ⟨p8, 0, none⟩) (show w.heap.size ≤ p8 by have := P8.out; omega) (qleadV pA pB))
          replace KA := Hid.of (KA.out.other (j := 0) (show w.heap.size ≠ p8 by have := P8.out; omega) (qleadV pA pB))
          replace KB := Hid.of (KB.out.other (j := 0) (show w.heap.size + 1 ≠ p8 by have := P8.out; omega) (qleadV pA pB))
          replace KR := Hid.of (KR.out.other (j := 0) (show w.heap.size + 1 + 1 ≠ p8 by have := P8.out; omega) (qleadV pA pB))
          replace K9 := Hid.of (K9.out.other (j := 0) N89.out (qleadV pA pB))
          replace K8 := Hid.of (K8.out.set 0 (qleadV pA pB))
          refine hK'.out _ _ (SA.out _ KA.out KB.out) (fun hS6 => ?_)
          clear hK' K' f8 e8 hS
          refine wpAnyH_ready (rs := [10]) (by kernel_rfl) (by simp) ?_
          refine AllReadyH.cons rfl (fun K' hK' => ?_) AllReadyH.nil
          have f9 := K9.out.frozen 0
          have e9 := K9.out.cell 0 rfl
          go_simp
          replace OU := Hid.of (own_setQ OU.out K9.out (by decide) (.slice ua (othL ev seen).length uc))
          replace WLq := Hid.of (WLq.out.setI K9.out (v := .slice ua (othL ev seen).length uc))
          replace B := Hid.of (B.out.setCell (p := ⟨p9, 0, none⟩) (show w.heap.size ≤ p9 by have := P9.out; omega) (.slice ua (othL ev seen).length uc))
          replace KA := Hid.of (KA.out.other (j := 0) (show w.heap.size ≠ p9 by have := P9.out; omega) (.slice ua (othL ev seen).length uc))
          replace KB := Hid.of (KB.out.other (j := 0) (show w.heap.size + 1 ≠ p9 by have := P9.out; omega) (.slice ua (othL ev seen).length uc))
          replace KR := Hid.of (KR.out.other (j := 0) (show w.heap.size + 1 + 1 ≠ p9 by have := P9.out; omega) (.slice ua (othL ev seen).length uc))
          replace K8 := Hid.of (K8.out.other (j := 0) (Ne.symm N89.out) (.slice ua (othL ev seen).length uc))
          replace K9 := Hid.of (K9.out.set 0 (.slice ua (othL ev seen).length uc))
          refine hK'.out _ _ (SA.out _ KA.out KB.out) (fun hS7 => ?_)
          clear hK' K' f9 e9 hS6 hS7
          refine wpAnyH_done (by kernel_rfl) ?_ _
          exact ⟨p8, p9, pA, pB, LA, LC, ua, uc, rfl, B.out, KA.out, KB.out, KR.out, ⟨K8.out, K9.out, WLq.out, OU.out.at_len⟩, OU.out, HHI.out, by have := P8.out; omega, by have := P9.out; omega⟩
        · clear hS
          go_simp
          have hb : Below Y2.heap.size Y2 (Y2.alloc (.cells #[.slice none 0 0] 22)) := (Below.refl _ _).alloc (Nat.le_refl _) _
          have P9 := Hid.of (Nat.le_trans (Nat.succ_le_of_lt KR.out.lt) (Nat.le_refl Y2.heap.size))
          replace B := Hid.of (B.out.trans (hb.mono B.out.size))
          replace KA := Hid.of (KA.out.below hb KA.out.lt)
          replace KB := Hid.of (KB.out.below hb KB.out.lt)
          replace KR := Hid.of (KR.out.below hb KR.out.lt)
          replace WLq := Hid.of (WLq.out.kept hb)
          replace OU := Hid.of (own_same OU.out (fun k hk => hb.block k (World.ownsRow.lt OU.out k hk).2))
          have K9 := Hid.of (Blk.new Y2 22 #[.slice none 0 0])
          refine hK'.out _ _ (SA.out _ KA.out KB.out) (fun hS => ?_)
          clear hK' K' hb
          revert P9 B KA KB KR WLq OU K9 hS
          generalize Y2.alloc (.cells #[.slice none 0 0] 22) = Y5
          generalize Y2.heap.size = p9
          intro P9 B KA KB KR WLq OU K9 hS
          refine wpAnyH_ready (rs := [7]) (by kernel_rfl) (by simp) ?_
          refine AllReadyH.cons rfl (fun K' hK' => ?_) AllReadyH.nil
          clear hS
          go_simp
          have hb : Below Y5.heap.size Y5 (Y5.alloc (.cells #[.nilFunc] 108)) := (Below.refl _ _).alloc (Nat.le_refl _) _
          have P8 := Hid.of (Nat.le_trans (Nat.succ_le_of_lt KR.out.lt) (Nat.le_refl Y5.heap.size))
          replace B := Hid.of (B.out.trans (hb.mono B.out.size))
          replace KA := Hid.of (KA.out.below hb KA.out.lt)
          replace KB := Hid.of (KB.out.below hb KB.out.lt)
          replace KR := Hid.of (KR.out.below hb KR.out.lt)
          replace WLq := Hid.of (WLq.out.kept hb)
          replace OU := Hid.of (own_same OU.out (fun k hk => hb.block k (World.ownsRow.lt OU.out k hk).2))
          replace K9 := Hid.of (K9.out.below hb K9.out.lt)
          have K8 := Hid.of (Blk.new Y5 108 #[.nilFunc])
          refine hK'.out _ _ (SA.out _ KA.out KB.out) (fun hS => ?_)
          clear hK' K' hb
          revert P8 B KA KB KR WLq OU K9 K8 hS
          generalize Y5.alloc (.cells #[.nilFunc] 108) = Y6
          generalize Y5.heap.size = p8
          intro P8 B KA KB KR WLq OU K9 K8 hS
          refine wpAnyH_ready (rs := [9]) (by kernel_rfl) (by simp) ?_
          refine AllReadyH.cons rfl (fun K' hK' => ?_) AllReadyH.nil
          have f8 := K8.out.frozen 0
          have e8 := K8.out.cell 0 rfl
          go_simp
          have N89 : Hid (p9 ≠ p8) := blk_apart K9.out K8.out (by decide)
          replace OU := Hid.of (own_setQ OU.out K8.out (by decide) (qleadV pA pB))
          replace WLq := Hid.of (WLq.out.setF K8.out (v := qleadV pA pB))
          replace B := Hid.of (B.out.setCell (p := ⟨p8, 0, none⟩) (show w.heap.size ≤ p8 by have := P8.out; omega) (qleadV pA pB))
          replace KA := Hid.of (KA.out.other (j := 0) (show w.heap.size ≠ p8 by have := P8.out; omega) (qleadV pA pB))
          replace KB := Hid.of (KB.out.other (j := 0) (show w.heap.size + 1 ≠ p8 by have := P8.out; omega) (qleadV pA pB))
          replace KR := Hid.of (KR.out.other (j := 0) (show w.heap.size + 1 + 1 ≠ p8 by have := P8.out; omega) (qleadV pA pB))
          replace K9 := Hid.of (K9.out.other (j := 0) N89.out (qleadV pA pB))
          replace K8 := Hid.of (K8.out.set 0 (qleadV pA pB))
          refine hK'.out _ _ (SA.out _ KA.out KB.out) (fun hS6 => ?_)
          clear hK' K' f8 e8 hS
          refine wpAnyH_ready (rs := [10]) (by kernel_rfl) (by simp) ?_
          refine AllReadyH.cons rfl (fun K' hK' => ?_) AllReadyH.nil
          have f9 := K9.out.frozen 0
          have e9 := K9.out.cell 0 rfl
          go_simp
          replace OU := Hid.of (own_setQ OU.out K9.out (by decide) (.slice ua (othL ev seen).length uc))
          replace WLq := Hid.of (WLq.out.setI K9.out (v := .slice ua (othL ev seen).length uc))
          replace B := Hid.of (B.out.setCell (p := ⟨p9, 0, none⟩) (show w.heap.size ≤ p9 by have := P9.out; omega) (.slice ua (othL ev seen).length uc))
          replace KA := Hid.of (KA.out.other (j := 0) (show w.heap.size ≠ p9 by have := P9.out; omega) (.slice ua (othL ev seen).length uc))
          replace KB := Hid.of (KB.out.other (j := 0) (show w.heap.size + 1 ≠ p9 by have := P9.out; omega) (.slice ua (othL ev seen).length uc))
          replace KR := Hid.of (KR.out.other (j := 0) (show w.heap.size + 1 + 1 ≠ p9 by have := P9.out; omega) (.slice ua (othL ev seen).length uc))
          replace K8 := Hid.of (K8.out.other (j := 0) (Ne.symm N89.out) (.slice ua (othL ev seen).length uc))
          replace K9 := Hid.of (K9.out.set 0 (.slice ua (othL ev seen).length uc))
          refine hK'.out _ _ (SA.out _ KA.out KB.out) (fun hS7 => ?_)
          clear hK' K' f9 e9 hS6 hS7
          refine wpAnyH_done (by kernel_rfl) ?_ _
          exact ⟨p8, p9, pA, pB, LA, LC, ua, uc, rfl, B.out, KA.out, KB.out, KR.out, ⟨K8.out, K9.out, WLq.out, OU.out.at_len⟩, OU.out, HHI.out, by have := P8.out; omega, by have := P9.out; omega⟩
      · clear hS
        go_simp
        have hb : Below Y1.heap.size Y1 (Y1.alloc (.cells #[.nilFunc] 108)) := (Below.refl _ _).alloc (Nat.le_refl _) _
        have P8 := Hid.of (Nat.le_trans (Nat.succ_le_of_lt KR.out.lt) (Nat.le_refl Y1.heap.size))
        replace B := Hid.of (B.out.trans (hb.mono B.out.size))
        replace KA := Hid.of (KA.out.below hb KA.out.lt)
        replace KB := Hid.of (KB.out.below hb KB.out.lt)
        replace KR := Hid.of (KR.out.below hb KR.out.lt)
        replace WLq := Hid.of (WLq.out.kept hb)
        have K8 := Hid.of (Blk.new Y1 108 #[.nilFunc])
        refine hK'.out _ _ (SA.out _ KA.out KB.out) (fun hS => ?_)
        clear hK' K' hb
        revert P8 B KA KB KR WLq K8 hS
        generalize Y1.alloc (.cells #[.nilFunc] 108) = Y7
        generalize Y1.heap.size = p8
        intro P8 B KA KB KR WLq K8 hS
        refine wpAnyH_ready (rs := [6, 8]) (by kernel_rfl) (by simp) ?_
        refine AllReadyH.cons rfl (fun K' hK' => ?_) (AllReadyH.cons rfl (fun K' hK' => ?_) AllReadyH.nil)
        · clear hS
          go_simp
          refine (others_any ev sa sc seen Y7 hev (hs.out.below B.out (Nat.le_refl _)) hsl.out).mono ?_
          rintro e Y8 ⟨vu, rfl, ov, hb⟩
          obtain ⟨ua, uc, rfl, -, -, -, -⟩ := ov.at2
          have OU0 : Hid (Own _ (w.heap.size + 3) (.slice ua (othL ev seen).length uc) (othL ev seen)) := Own.low ov (Nat.succ_le_of_lt KR.out.lt)
          replace B := Hid.of (B.out.trans (hb.mono B.out.size))
          replace KA := Hid.of (KA.out.below hb KA.out.lt)
          replace KB := Hid.of (KB.out.below hb KB.out.lt)
          replace KR := Hid.of (KR.out.below hb KR.out.lt)
          replace WLq := Hid.of (WLq.out.kept hb)
          replace K8 := Hid.of (K8.out.below hb K8.out.lt)
          have OU := OU0
          refine hK'.out _ _ (SA.out _ KA.out KB.out) (fun hS => ?_)
          clear hK' K' hb ov
          refine wpAnyH_ready (rs := [8]) (by kernel_rfl) (by simp) ?_
          refine AllReadyH.cons rfl (fun K' hK' => ?_) AllReadyH.nil
          clear hS
          go_simp
          have hb : Below Y8.heap.size Y8 (Y8.alloc (.cells #[.slice none 0 0] 22)) := (Below.refl _ _).alloc (Nat.le_refl _) _
          have P9 := Hid.of (Nat.le_trans (Nat.succ_le_of_lt KR.out.lt) (Nat.le_refl Y8.heap.size))
          replace B := Hid.of (B.out.trans (hb.mono B.out.size))
          replace KA := Hid.of (KA.out.below hb KA.out.lt)
          replace KB := Hid.of (KB.out.below hb KB.out.lt)
          replace KR := Hid.of (KR.out.below hb KR.out.lt)
          replace WLq := Hid.of (WLq.out.kept hb)
          replace K8 := Hid.of (K8.out.below hb K8.out.lt)
          replace OU := Hid.of (own_same OU.out (fun k hk => hb.block k (World.ownsRow.lt OU.out k hk).2))
          have K9 := Hid.of (Blk.new Y8 22 #[.slice none 0 0])
          refine hK'.out _ _ (SA.out _ KA.out KB.out) (fun hS => ?_)
          clear hK' K' hb
          revert P9 B KA KB KR WLq K8 OU K9 hS
          generalize Y8.alloc (.cells #[.slice none 0 0] 22) = Y9
          generalize Y8.heap.size = p9
          intro P9 B KA KB KR WLq K8 OU K9 hS
          refine wpAnyH_ready (rs := [9]) (by kernel_rfl) (by simp) ?_
          refine AllReadyH.cons rfl (fun K' hK' => ?_) AllReadyH.nil
          have f8 := K8.out.frozen 0
          have e8 := K8.out.cell 0 rfl
          go_simp
          have N89 : Hid (p9 ≠ p8) := blk_apart K9.out K8.out (by decide)
          replace OU := Hid.of (own_setQ OU.out K8.out (by decide) (qleadV pA pB))
          replace WLq := Hid.of (WLq.out.setF K8.out (v := qleadV pA pB))
          replace B := Hid.of (B.out.setCell (p := ⟨p8, 0, none⟩) (show w.heap.size ≤ p8 by have := P8.out; omega) (qleadV pA pB))
          replace KA := Hid.of (KA.out.other (j := 0) (show w.heap.size ≠ p8 by have := P8.out; omega) (qleadV pA pB))
          replace KB := Hid.of (KB.out.other (j := 0) (show w.heap.size + 1 ≠ p8 by have := P8.out; omega) (qleadV pA pB))
          replace KR := Hid.of (KR.out.other (j := 0) (show w.heap.size + 1 + 1 ≠ p8 by have := P8.out; omega) (qleadV pA pB))
          replace K9 := Hid.of (K9.out.other (j := 0) N89.out (qleadV pA pB))
          replace K8 := Hid.of (K8.out.set 0 (qleadV pA pB))
          refine hK'.out _ _ (SA.out _ KA.out KB.out) (fun hS6 => ?_)
          clear hK' K' f8 e8 hS
          refine wpAnyH_ready (rs := [10]) (by kernel_rfl) (by simp) ?_
          refine AllReadyH.cons rfl (fun K' hK' => ?_) AllReadyH.nil
          have f9 := K9.out.frozen 0
          have e9 := K9.out.cell 0 rfl
          go_simp
          replace OU := Hid.of (own_setQ OU.out K9.out (by decide) (.slice ua (othL ev seen).length uc))
          replace WLq := Hid.of (WLq.out.setI K9.out (v := .slice ua (othL ev seen).length uc))
          replace B := Hid.of (B.out.setCell (p := ⟨p9, 0, none⟩) (show w.heap.size ≤ p9 by have := P9.out; omega) (.slice ua (othL ev seen).length uc))
          replace KA := Hid.of (KA.out.other (j := 0) (show w.heap.size ≠ p9 by have := P9.out; omega) (.slice ua (othL ev seen).length uc))
          replace KB := Hid.of (KB.out.other (j := 0) (show w.heap.size + 1 ≠ p9 by have := P9.out; omega) (.slice ua (othL ev seen).length uc))
          replace KR := Hid.of (KR.out.other (j := 0) (show w.heap.size + 1 + 1 ≠ p9 by have := P9.out; omega) (.slice ua (othL ev seen).length uc))
          replace K8 := Hid.of (K8.out.other (j := 0) (Ne.symm N89.out) (.slice ua (othL ev seen).length uc))
          replace K9 := Hid.of (K9.out.set 0 (.slice ua (othL ev seen).length uc))
          refine hK'.out _ _ (SA.out _ KA.out KB.out) (fun hS7 => ?_)
          clear hK' K' f9 e9 hS6 hS7
          refine wpAnyH_done (by kernel_rfl) ?_ _
          exact ⟨p8, p9, pA, pB, LA, LC, ua, uc, rfl, B.out, KA.out, KB.out, KR.out, ⟨K8.out, K9.out, WLq.out, OU.out.at_len⟩, OU.out, HHI.out, by have := P8.out; omega, by have := P9.out; omega⟩
        · clear hS
          go_simp
          have hb : Below Y7.heap.size Y7 (Y7.alloc (.cells #[.slice none 0 0] 22)) := (Below.refl _ _).alloc (Nat.le_refl _) _
          have P9 := Hid.of (Nat.le_trans (Nat.succ_le_of_lt KR.out.lt) (Nat.le_refl Y7.heap.size))
          replace B := Hid.of (B.out.trans (hb.mono B.out.size))
          replace KA := Hid.of (KA.out.below hb KA.out.lt)
          replace KB := Hid.of (KB.out.below hb KB.out.lt)
          replace KR := Hid.of (KR.out.below hb KR.out.lt)
          replace WLq := Hid.of (WLq.out.kept hb)
          replace K8 := Hid.of (K8.out.below hb K8.out.lt)
          have K9 := Hid.of (Blk.new Y7 22 #[.slice none 0 0])
          refine hK'.out _ _ (SA.out _ KA.out KB.out) (fun hS => ?_)
          clear hK' K' hb
          revert P9 B KA KB KR WLq K8 K9 hS
          generalize Y7.alloc (.cells #[.slice none 0 0] 22) = Y10
          generalize Y7.heap.size = p9
          intro P9 B KA KB KR WLq K8 K9 hS
          refine wpAnyH_ready (rs := [6]) (by kernel_rfl) (by simp) ?_
          refine AllReadyH.cons rfl (fun K' hK' => ?_) AllReadyH.nil
          clear hS
          go_simp
          refine (others_any ev sa sc seen Y10 hev (hs.out.below B.out (Nat.le_refl _)) hsl.out).mono ?_
          rintro e Y11 ⟨vu, rfl, ov, hb⟩
          obtain ⟨ua, uc, rfl, -, -, -, -⟩ := ov.at2
          have OU0 : Hid (Own _ (w.heap.size + 3) (.slice ua (othL ev seen).length uc) (othL ev seen)) := Own.low ov (Nat.succ_le_of_lt KR.out.lt)
          replace B := Hid.of (B.out.trans (hb.mono B.out.size))
          replace KA := Hid.of (KA.out.below hb KA.out.lt)
          replace KB := Hid.of (KB.out.below hb KB.out.lt)
          replace KR := Hid.of (KR.out.below hb KR.out.lt)
          replace WLq := Hid.of (WLq.out.kept hb)
          replace K8 := Hid.of (K8.out.below hb K8.out.lt)
          replace K9 := Hid.of (K9.out.below hb K9.out.lt)
          have OU := OU0
          refine hK'.out _ _ (SA.out _ KA.out KB.out) (fun hS => ?_)
          clear hK' K' hb ov
          refine wpAnyH_ready (rs := [9]) (by kernel_rfl) (by simp) ?_
          refine AllReadyH.cons rfl (fun K' hK' => ?_) AllReadyH.nil
          have f8 := K8.out.frozen 0
          have e8 := K8.out.cell 0 rfl
          go_simp
          have N89 : Hid (p9 ≠ p8) := blk_apart K9.out K8.out (by decide)
          replace OU := Hid.of (own_setQ OU.out K8.out (by decide) (qleadV pA pB))
          replace WLq := Hid.of (WLq.out.setF K8.out (v := qleadV pA pB))
          replace B := Hid.of (B.out.setCell (p := ⟨p8, 0, none⟩) (show w.heap.size ≤ p8 by have := P8.out; omega) (qleadV pA pB))
          replace KA := Hid.of (KA.out.other (j := 0) (show w.heap.size ≠ p8 by have := P8.out; omega) (qleadV pA pB))
          replace KB := Hid.of (KB.out.other (j := 0) (show w.heap.size + 1 ≠ p8 by have := P8.out; omega) (qleadV pA pB))
          replace KR := Hid.of (KR.out.other (j := 0) (show w.heap.size + 1 + 1 ≠ p8 by have := P8.out; omega) (qleadV pA pB))
          replace K9 := Hid.of (K9.out.other (j := 0) N89.out (qleadV pA pB))
          replace K8 := Hid.of (K8.out.set 0 (qleadV pA pB))
          refine hK'.out _ _ (SA.out _ KA.out KB.out) (fun hS6 => ?_)
          clear hK' K' f8 e8 hS
          refine wpAnyH_ready (rs := [10]) (by kernel_rfl) (by simp) ?_
          refine AllReadyH.cons rfl (fun K' hK' => ?_) AllReadyH.nil
          have f9 := K9.out.frozen 0
          have e9 := K9.out.cell 0 rfl
          go_simp
          replace OU := Hid.of (own_setQ OU.out K9.out (by decide) (.slice ua (othL ev seen).length uc))
          replace WLq := Hid.of (WLq.out.setI K9.out (v := .slice ua (othL ev seen).length uc))
          replace B := Hid.of (B.out.setCell (p := ⟨p9, 0, none⟩) (show w.heap.size ≤ p9 by have := P9.out; omega) (.slice ua (othL ev seen).length uc))
          replace KA := Hid.of (KA.out.other (j := 0) (show w.heap.size ≠ p9 by have := P9.out; omega) (.slice ua (othL ev seen).length uc))
          replace KB := Hid.of (KB.out.other (j := 0) (show w.heap.size + 1 ≠ p9 by have := P9.out; omega) (.slice ua (othL ev seen).length uc))
          replace KR := Hid.of (KR.out.other (j := 0) (show w.heap.size + 1 + 1 ≠ p9 by have := P9.out; omega) (.slice ua (othL ev seen).length uc))
          replace K8 := Hid.of (K8.out.other (j := 0) (Ne.symm N89.out) (.slice ua (othL ev seen).length uc))
          replace K9 := Hid.of (K9.out.set 0 (.slice ua (othL ev seen).length uc))
          refine hK'.out _ _ (SA.out _ KA.out KB.out) (fun hS7 => ?_)
          clear hK' K' f9 e9 hS6 hS7
          refine wpAnyH_done (by kernel_rfl) ?_ _
          exact ⟨p8, p9, pA, pB, LA, LC, ua, uc, rfl, B.out, KA.out, KB.out, KR.out, ⟨K8.out, K9.out, WLq.out, OU.out.at_len⟩, OU.out, HHI.out, by have := P8.out; omega, by have := P9.out; omega⟩
      · clear hS
        go_simp
        have hb : Below Y1.heap.size Y1 (Y1.alloc (.cells #[.slice none 0 0] 22)) := (Below.refl _ _).alloc (Nat.le_refl _) _
        have P9 := Hid.of (Nat.le_trans (Nat.succ_le_of_lt KR.out.lt) (Nat.le_refl Y1.heap.size))
        replace B := Hid.of (B.out.trans (hb.mono B.out.size))
        replace KA := Hid.of (KA.out.below hb KA.out.lt)
        replace KB := Hid.of (KB.out.below hb KB.out.lt)
        replace KR := Hid.of (KR.out.below hb KR.out.lt)
        replace WLq := Hid.of (WLq.out.kept hb)
        have K9 := Hid.of (Blk.new Y1 22 #[.slice none 0 0])
        refine hK'.out _ _ (SA.out _ KA.out KB.out) (fun hS => ?_)
        clear hK' K' hb
        revert P9 B KA KB KR WLq K9 hS
        generalize Y1.alloc (.cells #[.slice none 0 0] 22) = Y12
        generalize Y1.heap.size = p9
        intro P9 B KA KB KR WLq K9 hS
        refine wpAnyH_ready (rs := [6, 7]) (by kernel_rfl) (by simp) ?_
        refine AllReadyH.cons rfl (fun K' hK' => ?_) (AllReadyH.cons rfl (fun K' hK' => ?_) AllReadyH.nil)
        · clear hS
          go_simp
          refine (others_any ev sa sc seen Y12 hev (hs.out.below B.out (Nat.le_refl _)) hsl.out).mono ?_
          rintro e Y13 ⟨vu, rfl, ov, hb⟩
          obtain ⟨ua, uc, rfl, -, -, -, -⟩ := ov.at2
          have OU0 : Hid (Own _ (w.heap.size + 3) (.slice ua (othL ev seen).length uc) (othL ev seen)) := Own.low ov (Nat.succ_le_of_lt KR.out.lt)
          replace B := Hid.of (B.out.trans (hb.mono B.out.size))
          replace KA := Hid.of (KA.out.below hb KA.out.lt)
          replace KB := Hid.of (KB.out.below hb KB.out.lt)
          replace KR := Hid.of (KR.out.below hb KR.out.lt)
          replace WLq := Hid.of (WLq.out.kept hb)
          replace K9 := Hid.of (K9.out.below hb K9.out.lt)
          have OU := OU0
          refine hK'.out _ _ (SA.out _ KA.out KB.out) (fun hS => ?_)
          clear hK' K' hb ov
          refine wpAnyH_ready (rs := [7]) (by kernel_rfl) (by simp) ?_
          refine AllReadyH.cons rfl (fun K' hK' => ?_) AllReadyH.nil
          clear hS
          go_simp
          have hb : Below Y13.heap.size Y13 (Y13.alloc (.cells #[.nilFunc] 108)) := (Below.refl _ _).alloc (Nat.le_refl _) _
          have P8 := Hid.of (Nat.le_trans (Nat.succ_le_of_lt KR.out.lt) (Nat.le_refl Y13.heap.size))
          replace B := Hid.of (B.out.trans (hb.mono B.out.size))
          replace KA := Hid.of (KA.out.below hb KA.out.lt)
          replace KB := Hid.of (KB.out.below hb KB.out.lt)
          replace KR := Hid.of (KR.out.below hb KR.out.lt)
          replace WLq := Hid.of (WLq.out.kept hb)
          replace K9 := Hid.of (K9.out.below hb K9.out.lt)
          replace OU := Hid.of (own_same OU.out (fun k hk => hb.block k (World.ownsRow.lt OU.out k hk).2))
          have K8 := Hid.of (Blk.new Y13 108 #[.nilFunc])
          refine hK'.out _ _ (SA.out _ KA.out KB.out) (fun hS => ?_)
          clear hK' K' hb
          revert P8 B KA KB KR WLq K9 OU K8 hS
          generalize Y13.alloc (.cells #[.nilFunc] 108) = Y14
          generalize Y13.heap.size = p8
          intro P8 B KA KB KR WLq K9 OU K8 hS
          refine wpAnyH_ready (rs := [9]) (by kernel_rfl) (by simp) ?_
          refine AllReadyH.cons rfl (fun K' hK' => ?_) AllReadyH.nil
          have f8 := K8.out.frozen 0
          have e8 := K8.out.cell 0 rfl
          go_simp
          have N89 : Hid (p9 ≠ p8) := blk_apart K9.out K8.out (by decide)
          replace OU := Hid.of (own_setQ OU.out K8.out (by decide) (qleadV pA pB))
          replace WLq := Hid.of (WLq.out.setF K8.out (v := qleadV pA pB))
          replace B := Hid.of (B.out.setCell (p := ⟨p8, 0, none⟩) (show w.heap.size ≤ p8 by have := P8.out; omega) (qleadV pA pB))
          replace KA := Hid.of (KA.out.other (j := 0) (show w.heap.size ≠ p8 by have := P8.out; omega) (qleadV pA pB))
          replace KB := Hid.of (KB.out.other (j := 0) (show w.heap.size + 1 ≠ p8 by have := P8.out; omega) (qleadV pA pB))
          replace KR := Hid.of (KR.out.other (j := 0) (show w.heap.size + 1 + 1 ≠ p8 by have := P8.out; omega) (qleadV pA pB))
          replace K9 := Hid.of (K9.out.other (j := 0) N89.out (qleadV pA pB))
          replace K8 := Hid.of (K8.out.set 0 (qleadV pA pB))
          refine hK'.out _ _ (SA.out _ KA.out KB.out) (fun hS6 => ?_)
          clear hK' K' f8 e8 hS
          refine wpAnyH_ready (rs := [10]) (by kernel_rfl) (by simp) ?_
          refine AllReadyH.cons rfl (fun K' hK' => ?_) AllReadyH.nil
          have f9 := K9.out.frozen 0
          have e9 := K9.out.cell 0 rfl
          go_simp
          replace OU := Hid.of (own_setQ OU.out K9.out (by decide) (.slice ua (othL ev seen).length uc))
          replace WLq := Hid.of (WLq.out.setI K9.out (v := .slice ua (othL ev seen).length uc))
          replace B := Hid.of (B.out.setCell (p := ⟨p9, 0, none⟩) (show w.heap.size ≤ p9 by have := P9.out; omega) (.slice ua (othL ev seen).length uc))
          replace KA := Hid.of (KA.out.other (j := 0) (show w.heap.size ≠ p9 by have := P9.out; omega) (.slice ua (othL ev seen).length uc))
          replace KB := Hid.of (KB.out.other (j := 0) (show w.heap.size + 1 ≠ p9 by have := P9.out; omega) (.slice ua (othL ev seen).length uc))
          replace KR := Hid.of (KR.out.other (j := 0) (show w.heap.size + 1 + 1 ≠ p9 by have := P9.out; omega) (.slice ua (othL ev seen).length uc))
          replace K8 := Hid.of (K8.out.other (j := 0) (Ne.symm N89.out) (.slice ua (othL ev seen).length uc))
          replace K9 := Hid.of (K9.out.set 0 (.slice ua (othL ev seen).length uc))
          refine hK'.out _ _ (SA.out _ KA.out KB.out) (fun hS7 => ?_)
          clear hK' K' f9 e9 hS6 hS7
          refine wpAnyH_done (by kernel_rfl) ?_ _
          exact ⟨p8, p9, pA, pB, LA, LC, ua, uc, rfl, B.out, KA.out, KB.out, KR.out, ⟨K8.out, K9.out, WLq.out, OU.out.at_len⟩, OU.out, HHI.out, by have := P8.out; omega, by have := P9.out; omega⟩
        · clear hS
          go_simp
          have hb : Below Y12.heap.size Y12 (Y12.alloc (.cells #[.nilFunc] 108)) := (Below.refl _ _).alloc (Nat.le_refl _) _
          have P8 := Hid.of (Nat.le_trans (Nat.succ_le_of_lt KR.out.lt) (Nat.le_refl Y12.heap.size))
          replace B := Hid.of (B.out.trans (hb.mono B.out.size))
          replace KA := Hid.of (KA.out.below hb KA.out.lt)
          replace KB := Hid.of (KB.out.below hb KB.out.lt)
          replace KR := Hid.of (KR.out.below hb KR.out.lt)
          replace WLq := Hid.of (WLq.out.kept hb)
          replace K9 := Hid.of (K9.out.below hb K9.out.lt)
          have K8 := Hid.of (Blk.new Y12 108 #[.nilFunc])
          refine hK'.out _ _ (SA.out _ KA.out KB.out) (fun hS => ?_)
          clear hK' K' hb
          revert P8 B KA KB KR WLq K9 K8 hS
          generalize Y12.alloc (.cells #[.nilFunc] 108) = Y15
          generalize Y12.heap.size = p8
          intro P8 B KA KB KR WLq K9 K8 hS
          refine wpAnyH_ready (rs := [6]) (by kernel_rfl) (by simp) ?_
          refine AllReadyH.cons rfl (fun K' hK' => ?_) AllReadyH.nil
          clear hS
          go_simp
          refine (others_any ev sa sc seen Y15 hev (hs.out.below B.out (Nat.le_refl _)) hsl.out).mono ?_
          rintro e Y16 ⟨vu, rfl, ov, hb⟩
          obtain ⟨ua, uc, rfl, -, -, -, -⟩ := ov.at2
          have OU0 : Hid (Own _ (w.heap.size + 3) (.slice ua (othL ev seen).length uc) (othL ev seen)) := Own.low ov (Nat.succ_le_of_lt KR.out.lt)
          replace B := Hid.of (B.out.trans (hb.mono B.out.size))
          replace KA := Hid.of (KA.out.below hb KA.out.lt)
          replace KB := Hid.of (KB.out.below hb KB.out.lt)
          replace KR := Hid.of (KR.out.below hb KR.out.lt)
          replace WLq := Hid.of (WLq.out.kept hb)
          replace K9 := Hid.of (K9.out.below hb K9.out.lt)
          replace K8 := Hid.of (K8.out.below hb K8.out.lt)
          have OU := OU0
          refine hK'.out _ _ (SA.out _ KA.out KB.out) (fun hS => ?_)
          clear hK' K' hb ov
          refine wpAnyH_ready (rs := [9]) (by kernel_rfl) (by simp) ?_
          refine AllReadyH.cons rfl (fun K' hK' => ?_) AllReadyH.nil
          have f8 := K8.out.frozen 0
          have e8 := K8.out.cell 0 rfl
          go_simp
          have N89 : Hid (p9 ≠ p8) := blk_apart K9.out K8.out (by decide)
          replace OU := Hid.of (own_setQ OU.out K8.out (by decide) (qleadV pA pB))
          replace WLq := Hid.of (WLq.out.setF K8.out (v := qleadV pA pB))
          replace B := Hid.of (B.out.setCell (p := ⟨p8, 0, none⟩) (show w.heap.size ≤ p8 by have := P8.out; omega) (qleadV pA pB))
          replace KA := Hid.of (KA.out.other (j := 0) (show w.heap.size ≠ p8 by have := P8.out; omega) (qleadV pA pB))
          replace KB := Hid.of (KB.out.other (j := 0) (show w.heap.size + 1 ≠ p8 by have := P8.out; omega) (qleadV pA pB))
          replace KR := Hid.of (KR.out.other (j := 0) (show w.heap.size + 1 + 1 ≠ p8 by have := P8.out; omega) (qleadV pA pB))
          replace K9 := Hid.of (K9.out.other (j := 0) N89.out (qleadV pA pB))
          replace K8 := Hid.of (K8.out.set 0 (qleadV pA pB))
          refine hK'.out _ _ (SA.out _ KA.out KB.out) (fun hS6 => ?_)
          clear hK' K' f8 e8 hS
          refine wpAnyH_ready (rs := [10]) (by kernel_rfl) (by simp) ?_
          refine AllReadyH.cons rfl (fun K' hK' => ?_) AllReadyH.nil
          have f9 := K9.out.frozen 0
          have e9 := K9.out.cell 0 rfl
          go_simp
          replace OU := Hid.of (own_setQ OU.out K9.out (by decide) (.slice ua (othL ev seen).length uc))
          replace WLq := Hid.of (WLq.out.setI K9.out (v := .slice ua (othL ev seen).length uc))
          replace B := Hid.of (B.out.setCell (p := ⟨p9, 0, none⟩) (show w.heap.size ≤ p9 by have := P9.out; omega) (.slice ua (othL ev seen).length uc))
          replace KA := Hid.of (KA.out.other (j := 0) (show w.heap.size ≠ p9 by have := P9.out; omega) (.slice ua (othL ev seen).length uc))
          replace KB := Hid.of (KB.out.other (j := 0) (show w.heap.size + 1 ≠ p9 by have := P9.out; omega) (.slice ua (othL ev seen).length uc))
          replace KR := Hid.of (KR.out.other (j := 0) (show w.heap.size + 1 + 1 ≠ p9 by have := P9.out; omega) (.slice ua (othL ev seen).length uc))
          replace K8 := Hid.of (K8.out.other (j := 0) (Ne.symm N89.out) (.slice ua (othL ev seen).length uc))
          replace K9 := Hid.of (K9.out.set 0 (.slice ua (othL ev seen).length uc))
          refine hK'.out _ _ (SA.out _ KA.out KB.out) (fun hS7 => ?_)
          clear hK' K' f9 e9 hS6 hS7
          refine wpAnyH_done (by kernel_rfl) ?_ _
          exact ⟨p8, p9, pA, pB, LA, LC, ua, uc, rfl, B.out, KA.out, KB.out, KR.out, ⟨K8.out, K9.out, WLq.out, OU.out.at_len⟩, OU.out, HHI.out, by have := P8.out; omega, by have := P9.out; omega⟩
    · clear hS
      go_simp
      have hb : Below Y0.heap.size Y0 (Y0.alloc (.cells #[.nilFunc] 108)) := (Below.refl _ _).alloc (Nat.le_refl _) _
      have P8 := Hid.of (Nat.le_trans (Nat.succ_le_of_lt KR.out.lt) (Nat.le_refl Y0.heap.size))
      replace B := Hid.of (B.out.trans (hb.mono B.out.size))
      replace KA := Hid.of (KA.out.below hb KA.out.lt)
      replace KB := Hid.of (KB.out.below hb KB.out.lt)
      replace KR := Hid.of (KR.out.below hb KR.out.lt)
      have K8 := Hid.of (Blk.new Y0 108 #[.nilFunc])
      refine hK'.out _ _ (SA.out _ KA.out KB.out) (fun hS => ?_)
      clear hK' K' hb
      revert P8 B KA KB KR K8 hS
      generalize Y0.alloc (.cells #[.nilFunc] 108) = Y17
      generalize Y0.heap.size = p8
      intro P8 B KA KB KR K8 hS
      refine wpAnyH_ready (rs := [2, 8]) (by kernel_rfl) (by simp) ?_
      refine AllReadyH.cons rfl (fun K' hK' => ?_) (AllReadyH.cons rfl (fun K' hK' => ?_) AllReadyH.nil)
      · clear hS
        go_simp
        refine (qleader_any st sb ev starts startsB ars arsB ends endsB a1 c1 a2 c2 a3 c3 b1 d1 b2 d2 b3 d3 hma hmb Y17 (Hid.of (h.out.below B.out (Nat.le_refl _))) (Hid.of (h'.out.below B.out (Nat.le_refl _)))).mono ?_
        rintro e Y18 ⟨pA, pB, LA, LC, rfl, wl, hi, hb⟩
        have HHI : Hid (HiQ (w.heap.size + 3) pA pB LA LC) := hi.mono (Nat.succ_le_of_lt KR.out.lt)
        replace B := Hid.of (B.out.trans (hb.mono B.out.size))
        replace KA := Hid.of (KA.out.below hb KA.out.lt)
        replace KB := Hid.of (KB.out.below hb KB.out.lt)
        replace KR := Hid.of (KR.out.below hb KR.out.lt)
        replace K8 := Hid.of (K8.out.below hb K8.out.lt)
        have WLq := Hid.of wl
        refine hK'.out _ _ (SA.out _ KA.out KB.out) (fun hS => ?_)
        clear hK' K' hb wl hi
        refine wpAnyH_ready (rs := [6, 8]) (by kernel_rfl) (by simp) ?_
        refine AllReadyH.cons rfl (fun K' hK' => ?_) (AllReadyH.cons rfl (fun K' hK' => ?_) AllReadyH.nil)
        · clear hS
          go_simp
          refine (others_any ev sa sc seen Y18 hev (hs.out.below B.out (Nat.le_refl _)) hsl.out).mono ?_
          rintro e Y19 ⟨vu, rfl, ov, hb⟩
          obtain ⟨ua, uc, rfl, -, -, -, -⟩ := ov.at2
          have OU0 : Hid (Own _ (w.heap.size + 3) (.slice ua (othL ev seen).length uc) (othL ev seen)) := Own.low ov (Nat.succ_le_of_lt KR.out.lt)
          replace B := Hid.of (B.out.trans (hb.mono B.out.size))
          replace KA := Hid.of (KA.out.below hb KA.out.lt)
          replace KB := Hid.of (KB.out.below hb KB.out.lt)
          replace KR := Hid.of (KR.out.below hb KR.out.lt)
          replace K8 := Hid.of (K8.out.below hb K8.out.lt)
          replace WLq := Hid.of (WLq.out.kept hb)
          have OU := OU0
          refine hK'.out _ _ (SA.out _ KA.out KB.out) (fun hS => ?_)
          clear hK' K' hb ov
          refine wpAnyH_ready (rs := [8]) (by kernel_rfl) (by simp) ?_
          refine AllReadyH.cons rfl (fun K' hK' => ?_) AllReadyH.nil
          clear hS
          go_simp
          have hb : Below Y19.heap.size Y19 (Y19.alloc (.cells #[.slice none 0 0] 22)) := (Below.refl _ _).alloc (Nat.le_refl _) _
          have P9 := Hid.of (Nat.le_trans (Nat.succ_le_of_lt KR.out.lt) (Nat.le_refl Y19.heap.size))
          replace B := Hid.of (B.out.trans (hb.mono B.out.size))
          replace KA := Hid.of (KA.out.below hb KA.out.lt)
          replace KB := Hid.of (KB.out.below hb KB.out.lt)
          replace KR := Hid.of (KR.out.below hb KR.out.lt)
          replace K8 := Hid.of (K8.out.below hb K8.out.lt)
          replace WLq := Hid.of (WLq.out.kept hb)
          replace OU := Hid.of (own_same OU.out (fun k hk => hb.block k (World.ownsRow.lt OU.out k hk).2))
          have K9 := Hid.of (Blk.new Y19 22 #[.slice none 0 0])
          refine hK'.out _ _ (SA.out _ KA.out KB.out) (fun hS => ?_)
          clear hK' K' hb
          revert P9 B KA KB KR K8 WLq OU K9 hS
          generalize Y19.alloc (.cells #[.slice none 0 0] 22) = Y20
          generalize Y19.heap.size = p9
          intro P9 B KA KB KR K8 WLq OU K9 hS
          refine wpAnyH_ready (rs := [9]) (by kernel_rfl) (by simp) ?_
          refine AllReadyH.cons rfl (fun K' hK' => ?_) AllReadyH.nil
          have f8 := K8.out.frozen 0
          have e8 := K8.out.cell 0 rfl
          go_simp
          have N89 : Hid (p9 ≠ p8) := blk_apart K9.out K8.out (by decide)
          replace OU := Hid.of (own_setQ OU.out K8.out (by decide) (qleadV pA pB))
          replace WLq := Hid.of (WLq.out.setF K8.out (v := qleadV pA pB))
          replace B := Hid.of (B.out.setCell (p := ⟨p8, 0, none⟩) (show w.heap.size ≤ p8 by have := P8.out; omega) (qleadV pA pB))
          replace KA := Hid.of (KA.out.other (j := 0) (show w.heap.size ≠ p8 by have := P8.out; omega) (qleadV pA pB))
          replace KB := Hid.of (KB.out.other (j := 0) (show w.heap.size + 1 ≠ p8 by have := P8.out; omega) (qleadV pA pB))
          replace KR := Hid.of (KR.out.other (j := 0) (show w.heap.size + 1 + 1 ≠ p8 by have := P8.out; omega) (qleadV pA pB))
          replace K9 := Hid.of (K9.out.other (j := 0) N89.out (qleadV pA pB))
          replace K8 := Hid.of (K8.out.set 0 (qleadV pA pB))
          refine hK'.out _ _ (SA.out _ KA.out KB.out) (fun hS6 => ?_)
          clear hK' K' f8 e8 hS
          refine wpAnyH_ready (rs := [10]) (by kernel_rfl) (by simp) ?_
          refine AllReadyH.cons rfl (fun K' hK' => ?_) AllReadyH.nil
          have f9 := K9.out.frozen 0
          have e9 := K9.out.cell 0 rfl
          go_simp
          replace OU := Hid.of (own_setQ OU.out K9.out (by decide) (.slice ua (othL ev seen).length uc))
          replace WLq := Hid.of (WLq.out.setI K9.out (v := .slice ua (othL ev seen).length uc))
          replace B := Hid.of (B.out.setCell (p := ⟨p9, 0, none⟩) (show w.heap.size ≤ p9 by have := P9.out; omega) (.slice ua (othL ev seen).length uc))
          replace KA := Hid.of (KA.out.other (j := 0) (show w.heap.size ≠ p9 by have := P9.out; omega) (.slice ua (othL ev seen).length uc))
          replace KB := Hid.of (KB.out.other (j := 0) (show w.heap.size + 1 ≠ p9 by have := P9.out; omega) (.slice ua (othL ev seen).length uc))
          replace KR := Hid.of (KR.out.other (j := 0) (show w.heap.size + 1 + 1 ≠ p9 by have := P9.out; omega) (.slice ua (othL ev seen).length uc))
          replace K8 := Hid.of (K8.out.other (j := 0) (Ne.symm N89.out) (.slice ua (othL ev seen).length uc))
          replace K9 := Hid.of (K9.out.set 0 (.slice ua (othL ev seen).length uc))
          refine hK'.out _ _ (SA.out _ KA.out KB.out) (fun hS7 => ?_)
          clear hK' K' f9 e9 hS6 hS7
          refine wpAnyH_done (by kernel_rfl) ?_ _
          exact ⟨p8, p9, pA, pB, LA, LC, ua, uc, rfl, B.out, KA.out, KB.out, KR.out, ⟨K8.out, K9.out, WLq.out, OU.out.at_len⟩, OU.out, HHI.out, by have := P8.out; omega, by have := P9.out; omega⟩
        · clear hS
          go_simp
          have hb : Below Y18.heap.size Y18 (Y18.alloc (.cells #[.slice none 0 0] 22)) := (Below.refl _ _).alloc (Nat.le_refl _) _
          have P9 := Hid.of (Nat.le_trans (Nat.succ_le_of_lt KR.out.lt) (Nat.le_refl Y18.heap.size))
          replace B := Hid.of (B.out.trans (hb.mono B.out.size))
          replace KA := Hid.of (KA.out.below hb KA.out.lt)
          replace KB := Hid.of (KB.out.below hb KB.out.lt)
          replace KR := Hid.of (KR.out.below hb KR.out.lt)
          replace K8 := Hid.of (K8.out.below hb K8.out.lt)
          replace WLq := Hid.of (WLq.out.kept hb)
          have K9 := Hid.of (Blk.new Y18 22 #[.slice none 0 0])
          refine hK'.out _ _ (SA.out _ KA.out KB.out) (fun hS => ?_)
          clear hK' K' hb
          revert P9 B KA KB KR K8 WLq K9 hS
          generalize Y18.alloc (.cells #[.slice none 0 0] 22) = Y21
          generalize Y18.heap.size = p9
          intro P9 B KA KB KR K8 WLq K9 hS
          refine wpAnyH_ready (rs := [6]) (by kernel_rfl) (by simp) ?_
          refine AllReadyH.cons rfl (fun K' hK' => ?_) AllReadyH.nil
          clear hS
          go_simp
          refine (others_any ev sa sc seen Y21 hev (hs.out.below B.out (Nat.le_refl _)) hsl.out).mono ?_
          rintro e Y22 ⟨vu, rfl, ov, hb⟩
          obtain ⟨ua, uc, rfl, -, -, -, -⟩ := ov.at2
          have OU0 : Hid (Own _ (w.heap.size + 3) (.slice ua (othL ev seen).length uc) (othL ev seen)) := Own.low ov (Nat.succ_le_of_lt KR.out.lt)
          replace B := Hid.of (B.out.trans (hb.mono B.out.size))
          replace KA := Hid.of (KA.out.below hb KA.out.lt)
          replace KB := Hid.of (KB.out.below hb KB.out.lt)
          replace KR := Hid.of (KR.out.below hb KR.out.lt)
          replace K8 := Hid.of (K8.out.below hb K8.out.lt)
          replace WLq := Hid.of (WLq.out.kept hb)
          replace K9 := Hid.of (K9.out.below hb K9.out.lt)
          have OU := OU0
          refine hK'.out _ _ (SA.out _ KA.out KB.out) (fun hS => ?_)
          clear hK' K' hb ov
          refine wpAnyH_ready (rs := [9]) (by kernel_rfl) (by simp) ?_
          refine AllReadyH.cons rfl (fun K' hK' => ?_) AllReadyH.nil
          have f8 := K8.out.frozen 0
          have e8 := K8.out.cell 0 rfl
          go_simp
          have N89 : Hid (p9 ≠ p8) := blk_apart K9.out K8.out (by decide)
          replace OU := Hid.of (own_setQ OU.out K8.out (by decide) (qleadV pA pB))
          replace WLq := Hid.of (WLq.out.setF K8.out (v := qleadV pA pB))
          replace B := Hid.of (B.out.setCell (p := ⟨p8, 0, none⟩) (show w.heap.size ≤ p8 by have := P8.out; omega) (qleadV pA pB))
          replace KA := Hid.of (KA.out.other (j := 0) (show w.heap.size ≠ p8 by have := P8.out; omega) (qleadV pA pB))
          replace KB := Hid.of (KB.out.other (j := 0) (show w.heap.size + 1 ≠ p8 by have := P8.out; omega) (qleadV pA pB))
          replace KR := Hid.of (KR.out.other (j := 0) (show w.heap.size + 1 + 1 ≠ p8 by have := P8.out; omega) (qleadV pA pB))
          replace K9 := Hid.of (K9.out.other (j := 0) N89.out (qleadV pA pB))
          replace K8 := Hid.of (K8.out.set 0 (qleadV pA pB))
          refine hK'.out _ _ (SA.out _ KA.out KB.out) (fun hS6 => ?_)
          clear hK' K' f8 e8 hS
          refine wpAnyH_ready (rs := [10]) (by kernel_rfl) (by simp) ?_
          refine AllReadyH.cons rfl (fun K' hK' => ?_) AllReadyH.nil
          have f9 := K9.out.frozen 0
          have e9 := K9.out.cell 0 rfl
          go_simp
          replace OU := Hid.of (own_setQ OU.out K9.out (by decide) (.slice ua (othL ev seen).length uc))
          replace WLq := Hid.of (WLq.out.setI K9.out (v := .slice ua (othL ev seen).length uc))
          replace B := Hid.of (B.out.setCell (p := ⟨p9, 0, none⟩) (show w.heap.size ≤ p9 by have := P9.out; omega) (.slice ua (othL ev seen).length uc))
          replace KA := Hid.of (KA.out.other (j := 0) (show w.heap.size ≠ p9 by have := P9.out; omega) (.slice ua (othL ev seen).length uc))
          replace KB := Hid.of (KB.out.other (j := 0) (show w.heap.size + 1 ≠ p9 by have := P9.out; omega) (.slice ua (othL ev seen).length uc))
          replace KR := Hid.of (KR.out.other (j := 0) (show w.heap.size + 1 + 1 ≠ p9 by have := P9.out; omega) (.slice ua (othL ev seen).length uc))
          replace K8 := Hid.of (K8.out.other (j := 0) (Ne.symm N89.out) (.slice ua (othL ev seen).length uc))
          replace K9 := Hid.of (K9.out.set 0 (.slice ua (othL ev seen).length uc))
          refine hK'.out _ _ (SA.out _ KA.out KB.out) (fun hS7 => ?_)
          clear hK' K' f9 e9 hS6 hS7
          refine wpAnyH_done (by kernel_rfl) ?_ _
          exact ⟨p8, p9, pA, pB, LA, LC, ua, uc, rfl, B.out, KA.out, KB.out, KR.out, ⟨K8.out, K9.out, WLq.out, OU.out.at_len⟩, OU.out, HHI.out, by have := P8.out; omega, by have := P9.out; omega⟩
      · clear hS
        go_simp
        have hb : Below Y17.heap.size Y17 (Y17.alloc (.cells #[.slice none 0 0] 22)) := (Below.refl _ _).alloc (Nat.le_refl _) _
        have P9 := Hid.of (Nat.le_trans (Nat.succ_le_of_lt KR.out.lt) (Nat.le_refl Y17.heap.size))
        replace B := Hid.of (B.out.trans (hb.mono B.out.size))
        replace KA := Hid.of (KA.out.below hb KA.out.lt)
        replace KB := Hid.of (KB.out.below hb KB.out.lt)
        replace KR := Hid.of (KR.out.below hb KR.out.lt)
        replace K8 := Hid.of (K8.out.below hb K8.out.lt)
        have K9 := Hid.of (Blk.new Y17 22 #[.slice none 0 0])
        refine hK'.out _ _ (SA.out _ KA.out KB.out) (fun hS => ?_)
        clear hK' K' hb
        revert P9 B KA KB KR K8 K9 hS
        generalize Y17.alloc (.cells #[.slice none 0 0] 22) = Y23
        generalize Y17.heap.size = p9
        intro P9 B KA KB KR K8 K9 hS
        refine wpAnyH_ready (rs := [2]) (by kernel_rfl) (by simp) ?_
        refine AllReadyH.cons rfl (fun K' hK' => ?_) AllReadyH.nil
        clear hS
        go_simp
        refine (qleader_any st sb ev starts startsB ars arsB ends endsB a1 c1 a2 c2 a3 c3 b1 d1 b2 d2 b3 d3 hma hmb Y23 (Hid.of (h.out.below B.out (Nat.le_refl _))) (Hid.of (h'.out.below B.out (Nat.le_refl _)))).mono ?_
        rintro e Y24 ⟨pA, pB, LA, LC, rfl, wl, hi, hb⟩
        have HHI : Hid (HiQ (w.heap.size + 3) pA pB LA LC) := hi.mono (Nat.succ_le_of_lt KR.out.lt)
        replace B := Hid.of (B.out.trans (hb.mono B.out.size))
        replace KA := Hid.of (KA.out.below hb KA.out.lt)
        replace KB := Hid.of (KB.out.below hb KB.out.lt)
        replace KR := Hid.of (KR.out.below hb KR.out.lt)
        replace K8 := Hid.of (K8.out.below hb K8.out.lt)
        replace K9 := Hid.of (K9.out.below hb K9.out.lt)
        have WLq := Hid.of wl
        refine hK'.out _ _ (SA.out _ KA.out KB.out) (fun hS => ?_)
        clear hK' K' hb wl hi
        refine wpAnyH_ready (rs := [6]) (by kernel_rfl) (by simp) ?_
        refine AllReadyH.cons rfl (fun K' hK' => ?_) AllReadyH.nil
        clear hS
        go_simp
        refine (others_any ev sa sc seen Y24 hev (hs.out.below B.out (Nat.le_refl _)) hsl.out).mono ?_
        rintro e Y25 ⟨vu, rfl, ov, hb⟩
        obtain ⟨ua, uc, rfl, -, -, -, -⟩ := ov.at2
        have OU0 : Hid (Own _ (w.heap.size + 3) (.slice ua (othL ev seen).length uc) (othL ev seen)) := Own.low ov (Nat.succ_le_of_lt KR.out.lt)
        replace B := Hid.of (B.out.trans (hb.mono B.out.size))
        replace KA := Hid.of (KA.out.below hb KA.out.lt)
        replace KB := Hid.of (KB.out.below hb KB.out.lt)
        replace KR := Hid.of (KR.out.below hb KR.out.lt)
        replace K8 := Hid.of (K8.out.below hb K8.out.lt)
        replace K9 := Hid.of (K9.out.below hb K9.out.lt)
        replace WLq := Hid.of (WLq.out.kept hb)
        have OU := OU0
        refine hK'.out _ _ (SA.out _ KA.out KB.out) (fun hS => ?_)
        clear hK' K' hb ov
        refine wpAnyH_ready (rs := [9]) (by kernel_rfl) (by simp) ?_
        refine AllReadyH.cons rfl (fun K' hK' => ?_) AllReadyH.nil
        have f8 := K8.out.frozen 0
        have e8 := K8.out.cell 0 rfl
        go_simp
        have N89 : Hid (p9 ≠ p8) := blk_apart K9.out K8.out (by decide)
        replace OU := Hid.of (own_setQ OU.out K8.out (by decide) (qleadV pA pB))
        replace WLq := Hid.of (WLq.out.setF K8.out (v := qleadV pA pB))
        replace B := Hid.of (B.out.setCell (p := ⟨p8, 0, none⟩) (show w.heap.size ≤ p8 by have := P8.out; omega) (qleadV pA pB))
        replace KA := Hid.of (KA.out.other (j := 0) (show w.heap.size ≠ p8 by have := P8.out; omega) (qleadV pA pB))
        replace KB := Hid.of (KB.out.other (j := 0) (show w.heap.size + 1 ≠ p8 by have := P8.out; omega) (qleadV pA pB))
        replace KR := Hid.of (KR.out.other (j := 0) (show w.heap.size + 1 + 1 ≠ p8 by have := P8.out; omega) (qleadV pA pB))
        replace K9 := Hid.of (K9.out.other (j := 0) N89.out (qleadV pA pB))
        replace K8 := Hid.of (K8.out.set 0 (qleadV pA pB))
        refine hK'.out _ _ (SA.out _ KA.out KB.out) (fun hS6 => ?_)
        clear hK' K' f8 e8 hS
        refine wpAnyH_ready (rs := [10]) (by kernel_rfl) (by simp) ?_
        refine AllReadyH.cons rfl (fun K' hK' => ?_) AllReadyH.nil
        have f9 := K9.out.frozen 0
        have e9 := K9.out.cell 0 rfl
        go_simp
        replace OU := Hid.of (own_setQ OU.out K9.out (by decide) (.slice ua (othL ev seen).length uc))
        replace WLq := Hid.of (WLq.out.setI K9.out (v := .slice ua (othL ev seen).length uc))
        replace B := Hid.of (B.out.setCell (p := ⟨p9, 0, none⟩) (show w.heap.size ≤ p9 by have := P9.out; omega) (.slice ua (othL ev seen).length uc))
        replace KA := Hid.of (KA.out.other (j := 0) (show w.heap.size ≠ p9 by have := P9.out; omega) (.slice ua (othL ev seen).length uc))
        replace KB := Hid.of (KB.out.other (j := 0) (show w.heap.size + 1 ≠ p9 by have := P9.out; omega) (.slice ua (othL ev seen).length uc))
        replace KR := Hid.of (KR.out.other (j := 0) (show w.heap.size + 1 + 1 ≠ p9 by have := P9.out; omega) (.slice ua (othL ev seen).length uc))
        replace K8 := Hid.of (K8.out.other (j := 0) (Ne.symm N89.out) (.slice ua (othL ev seen).length uc))
        replace K9 := Hid.of (K9.out.set 0 (.slice ua (othL ev seen).length uc))
        refine hK'.out _ _ (SA.out _ KA.out KB.out) (fun hS7 => ?_)
        clear hK' K' f9 e9 hS6 hS7
        refine wpAnyH_done (by kernel_rfl) ?_ _
        exact ⟨p8, p9, pA, pB, LA, LC, ua, uc, rfl, B.out, KA.out, KB.out, KR.out, ⟨K8.out, K9.out, WLq.out, OU.out.at_len⟩, OU.out, HHI.out, by have := P8.out; omega, by have := P9.out; omega⟩
    · clear hS
      go_simp
      have hb : Below Y0.heap.size Y0 (Y0.alloc (.cells #[.slice none 0 0] 22)) := (Below.refl _ _).alloc (Nat.le_refl _) _
      have P9 := Hid.of (Nat.le_trans (Nat.succ_le_of_lt KR.out.lt) (Nat.le_refl Y0.heap.size))
      replace B := Hid.of (B.out.trans (hb.mono B.out.size))
      replace KA := Hid.of (KA.out.below hb KA.out.lt)
      replace KB := Hid.of (KB.out.below hb KB.out.lt)
      replace KR := Hid.of (KR.out.below hb KR.out.lt)
      have K9 := Hid.of (Blk.new Y0 22 #[.slice none 0 0])
      refine hK'.out _ _ (SA.out _ KA.out KB.out) (fun hS => ?_)
      clear hK' K' hb
      revert P9 B KA KB KR K9 hS
      generalize Y0.alloc (.cells #[.slice none 0 0] 22) = Y26
      generalize Y0.heap.size = p9
      intro P9 B KA KB KR K9 hS
      refine wpAnyH_ready (rs := [2, 7]) (by kernel_rfl) (by simp) ?_
      refine AllReadyH.cons rfl (fun K' hK' => ?_) (AllReadyH.cons rfl (fun K' hK' => ?_) AllReadyH.nil)
      · clear hS
        go_simp
        refine (qleader_any st sb ev starts startsB ars arsB ends endsB a1 c1 a2 c2 a3 c3 b1 d1 b2 d2 b3 d3 hma hmb Y26 (Hid.of (h.out.below B.out (Nat.le_refl _))) (Hid.of (h'.out.below B.out (Nat.le_refl _)))).mono ?_
        rintro e Y27 ⟨pA, pB, LA, LC, rfl, wl, hi, hb⟩
        have HHI : Hid (HiQ (w.heap.size + 3) pA pB LA LC) := hi.mono (Nat.succ_le_of_lt KR.out.lt)
        replace B := Hid.of (B.out.trans (hb.mono B.out.size))
        replace KA := Hid.of (KA.out.below hb KA.out.lt)
        replace KB := Hid.of (KB.out.below hb KB.out.lt)
        replace KR := Hid.of (KR.out.below hb KR.out.lt)
        replace K9 := Hid.of (K9.out.below hb K9.out.lt)
        have WLq := Hid.of wl
        refine hK'.out _ _ (SA.out _ KA.out KB.out) (fun hS => ?_)
        clear hK' K' hb wl hi
        refine wpAnyH_ready (rs := [6, 7]) (by kernel_rfl) (by simp) ?_
        refine AllReadyH.cons rfl (fun K' hK' => ?_) (AllReadyH.cons rfl (fun K' hK' => ?_) AllReadyH.nil)
        · clear hS
          go_simp
          refine (others_any ev sa sc seen Y27 hev (hs.out.below B.out (Nat.le_refl _)) hsl.out).mono ?_
          rintro e Y28 ⟨vu, rfl, ov, hb⟩
          obtain ⟨ua, uc, rfl, -, -, -, -⟩ := ov.at2
          have OU0 : Hid (Own _ (w.heap.size + 3) (.slice ua (othL ev seen).length uc) (othL ev seen)) := Own.low ov (Nat.succ_le_of_lt KR.out.lt)
          replace B := Hid.of (B.out.trans (hb.mono B.out.size))
          replace KA := Hid.of (KA.out.below hb KA.out.lt)
          replace KB := Hid.of (KB.out.below hb KB.out.lt)
          replace KR := Hid.of (KR.out.below hb KR.out.lt)
          replace K9 := Hid.of (K9.out.below hb K9.out.lt)
          replace WLq := Hid.of (WLq.out.kept hb)
          have OU := OU0
          refine hK'.out _ _ (SA.out _ KA.out KB.out) (fun hS => ?_)
          clear hK' K' hb ov
          refine wpAnyH_ready (rs := [7]) (by kernel_rfl) (by simp) ?_
          refine AllReadyH.cons rfl (fun K' hK' => ?_) AllReadyH.nil
          clear hS
          go_simp
          have hb : Below Y28.heap.size Y28 (Y28.alloc (.cells #[.nilFunc] 108)) := (Below.refl _ _).alloc (Nat.le_refl _) _
          have P8 := Hid.of (Nat.le_trans (Nat.succ_le_of_lt KR.out.lt) (Nat.le_refl Y28.heap.size))
          replace B := Hid.of (B.out.trans (hb.mono B.out.size))
          replace KA := Hid.of (KA.out.below hb KA.out.lt)
          replace KB := Hid.of (KB.out.below hb KB.out.lt)
          replace KR := Hid.of (KR.out.below hb KR.out.lt)
          replace K9 := Hid.of (K9.out.below hb K9.out.lt)
          replace WLq := Hid.of (WLq.out.kept hb)
          replace OU := Hid.of (own_same OU.out (fun k hk => hb.block k (World.ownsRow.lt OU.out k hk).2))
          have K8 := Hid.of (Blk.new Y28 108 #[.nilFunc])
          refine hK'.out _ _ (SA.out _ KA.out KB.out) (fun hS => ?_)
          clear hK' K' hb
          revert P8 B KA KB KR K9 WLq OU K8 hS
          generalize Y28.alloc (.cells #[.nilFunc] 108) = Y29
          generalize Y28.heap.size = p8
          intro P8 B KA KB KR K9 WLq OU K8 hS
          refine wpAnyH_ready (rs := [9]) (by kernel_rfl) (by simp) ?_
          refine AllReadyH.cons rfl (fun K' hK' => ?_) AllReadyH.nil
          have f8 := K8.out.frozen 0
          have e8 := K8.out.cell 0 rfl
          go_simp
          have N89 : Hid (p9 ≠ p8) := blk_apart K9.out K8.out (by decide)
          replace OU := Hid.of (own_setQ OU.out K8.out (by decide) (qleadV pA pB))
          replace WLq := Hid.of (WLq.out.setF K8.out (v := qleadV pA pB))
          replace B := Hid.of (B.out.setCell (p := ⟨p8, 0, none⟩) (show w.heap.size ≤ p8 by have := P8.out; omega) (qleadV pA pB))
          replace KA := Hid.of (KA.out.other (j := 0) (show w.heap.size ≠ p8 by have := P8.out; omega) (qleadV pA pB))
          replace KB := Hid.of (KB.out.other (j := 0) (show w.heap.size + 1 ≠ p8 by have := P8.out; omega) (qleadV pA pB))
          replace KR := Hid.of (KR.out.other (j := 0) (show w.heap.size + 1 + 1 ≠ p8 by have := P8.out; omega) (qleadV pA pB))
          replace K9 := Hid.of (K9.out.other (j := 0) N89.out (qleadV pA pB))
          replace K8 := Hid.of (K8.out.set 0 (qleadV pA pB))
          refine hK'.out _ _ (SA.out _ KA.out KB.out) (fun hS6 => ?_)
          clear hK' K' f8 e8 hS
          refine wpAnyH_ready (rs := [10]) (by kernel_rfl) (by simp) ?_
          refine AllReadyH.cons rfl (fun K' hK' => ?_) AllReadyH.nil
          have f9 := K9.out.frozen 0
          have e9 := K9.out.cell 0 rfl
          go_simp
          replace OU := Hid.of (own_setQ OU.out K9.out (by decide) (.slice ua (othL ev seen).length uc))
          replace WLq := Hid.of (WLq.out.setI K9.out (v := .slice ua (othL ev seen).length uc))
          replace B := Hid.of (B.out.setCell (p := ⟨p9, 0, none⟩) (show w.heap.size ≤ p9 by have := P9.out; omega) (.slice ua (othL ev seen).length uc))
          replace KA := Hid.of (KA.out.other (j := 0) (show w.heap.size ≠ p9 by have := P9.out; omega) (.slice ua (othL ev seen).length uc))
          replace KB := Hid.of (KB.out.other (j := 0) (show w.heap.size + 1 ≠ p9 by have := P9.out; omega) (.slice ua (othL ev seen).length uc))
          replace KR := Hid.of (KR.out.other (j := 0) (show w.heap.size + 1 + 1 ≠ p9 by have := P9.out; omega) (.slice ua (othL ev seen).length uc))
          replace K8 := Hid.of (K8.out.other (j := 0) (Ne.symm N89.out) (.slice ua (othL ev seen).length uc))
          replace K9 := Hid.of (K9.out.set 0 (.slice ua (othL ev seen).length uc))
          refine hK'.out _ _ (SA.out _ KA.out KB.out) (fun hS7 => ?_)
          clear hK' K' f9 e9 hS6 hS7
          refine wpAnyH_done (by kernel_rfl) ?_ _
          exact ⟨p8, p9, pA, pB, LA, LC, ua, uc, rfl, B.out, KA.out, KB.out, KR.out, ⟨K8.out, K9.out, WLq.out, OU.out.at_len⟩, OU.out, HHI.out, by have := P8.out; omega, by have := P9.out; omega⟩
        · clear hS
          go_simp
          have hb : Below Y27.heap.size Y27 (Y27.alloc (.cells #[.nilFunc] 108)) := (Below.refl _ _).alloc (Nat.le_refl _) _
          have P8 := Hid.of (Nat.le_trans (Nat.succ_le_of_lt KR.out.lt) (Nat.le_refl Y27.heap.size))
          replace B := Hid.of (B.out.trans (hb.mono B.out.size))
          replace KA := Hid.of (KA.out.below hb KA.out.lt)
          replace KB := Hid.of (KB.out.below hb KB.out.lt)
          replace KR := Hid.of (KR.out.below hb KR.out.lt)
          replace K9 := Hid.of (K9.out.below hb K9.out.lt)
          replace WLq := Hid.of (WLq.out.kept hb)
          have K8 := Hid.of (Blk.new Y27 108 #[.nilFunc])
          refine hK'.out _ _ (SA.out _ KA.out KB.out) (fun hS => ?_)
          clear hK' K' hb
          revert P8 B KA KB KR K9 WLq K8 hS
          generalize Y27.alloc (.cells #[.nilFunc] 108) = Y30
          generalize Y27.heap.size = p8
          intro P8 B KA KB KR K9 WLq K8 hS
          refine wpAnyH_ready (rs := [6]) (by kernel_rfl) (by simp) ?_
          refine AllReadyH.cons rfl (fun K' hK' => ?_) AllReadyH.nil
          clear hS
          go_simp
          refine (others_any ev sa sc seen Y30 hev (hs.out.below B.out (Nat.le_refl _)) hsl.out).mono ?_
          rintro e Y31 ⟨vu, rfl, ov, hb⟩
          obtain ⟨ua, uc, rfl, -, -, -, -⟩ := ov.at2
          have OU0 : Hid (Own _ (w.heap.size + 3) (.slice ua (othL ev seen).length uc) (othL ev seen)) := Own.low ov (Nat.succ_le_of_lt KR.out.lt)
          replace B := Hid.of (B.out.trans (hb.mono B.out.size))
          replace KA := Hid.of (KA.out.below hb KA.out.lt)
          replace KB := Hid.of (KB.out.below hb KB.out.lt)
          replace KR := Hid.of (KR.out.below hb KR.out.lt)
          replace K9 := Hid.of (K9.out.below hb K9.out.lt)
          replace WLq := Hid.of (WLq.out.kept hb)
          replace K8 := Hid.of (K8.out.below hb K8.out.lt)
          have OU := OU0
          refine hK'.out _ _ (SA.out _ KA.out KB.out) (fun hS => ?_)
          clear hK' K' hb ov
          refine wpAnyH_ready (rs := [9]) (by kernel_rfl) (by simp) ?_
          refine AllReadyH.cons rfl (fun K' hK' => ?_) AllReadyH.nil
          have f8 := K8.out.frozen 0
          have e8 := K8.out.cell 0 rfl
          go_simp
          have N89 : Hid (p9 ≠ p8) := blk_apart K9.out K8.out (by decide)
          replace OU := Hid.of (own_setQ OU.out K8.out (by decide) (qleadV pA pB))
          replace WLq := Hid.of (WLq.out.setF K8.out (v := qleadV pA pB))
          replace B := Hid.of (B.out.setCell (p := ⟨p8, 0, none⟩) (show w.heap.size ≤ p8 by have := P8.out; omega) (qleadV pA pB))
          replace KA := Hid.of (KA.out.other (j := 0) (show w.heap.size ≠ p8 by have := P8.out; omega) (qleadV pA pB))
          replace KB := Hid.of (KB.out.other (j := 0) (show w.heap.size + 1 ≠ p8 by have := P8.out; omega) (qleadV pA pB))
          replace KR := Hid.of (KR.out.other (j := 0) (show w.heap.size + 1 + 1 ≠ p8 by have := P8.out; omega) (qleadV pA pB))
          replace K9 := Hid.of (K9.out.other (j := 0) N89.out (qleadV pA pB))
          replace K8 := Hid.of (K8.out.set 0 (qleadV pA pB))
          refine hK'.out _ _ (SA.out _ KA.out KB.out) (fun hS6 => ?_)
          clear hK' K' f8 e8 hS
          refine wpAnyH_ready (rs := [10]) (by kernel_rfl) (by simp) ?_
          refine AllReadyH.cons rfl (fun K' hK' => ?_) AllReadyH.nil
          have f9 := K9.out.frozen 0
          have e9 := K9.out.cell 0 rfl
          go_simp
          replace OU := Hid.of (own_setQ OU.out K9.out (by decide) (.slice ua (othL ev seen).length uc))
          replace WLq := Hid.of (WLq.out.setI K9.out (v := .slice ua (othL ev seen).length uc))
          replace B := Hid.of (B.out.setCell (p := ⟨p9, 0, none⟩) (show w.heap.size ≤ p9 by have := P9.out; omega) (.slice ua (othL ev seen).length uc))
          replace KA := Hid.of (KA.out.other (j := 0) (show w.heap.size ≠ p9 by have := P9.out; omega) (.slice ua (othL ev seen).length uc))
          replace KB := Hid.of (KB.out.other (j := 0) (show w.heap.size + 1 ≠ p9 by have := P9.out; omega) (.slice ua (othL ev seen).length uc))
          replace KR := Hid.of (KR.out.other (j := 0) (show w.heap.size + 1 + 1 ≠ p9 by have := P9.out; omega) (.slice ua (othL ev seen).length uc))
          replace K8 := Hid.of (K8.out.other (j := 0) (Ne.symm N89.out) (.slice ua (othL ev seen).length uc))
          replace K9 := Hid.of (K9.out.set 0 (.slice ua (othL ev seen).length uc))
          refine hK'.out _ _ (SA.out _ KA.out KB.out) (fun hS7 => ?_)
          clear hK' K' f9 e9 hS6 hS7
          refine wpAnyH_done (by kernel_rfl) ?_ _
          exact ⟨p8, p9, pA, pB, LA, LC, ua, uc, rfl, B.out, KA.out, KB.out, KR.out, ⟨K8.out, K9.out, WLq.out, OU.out.at_len⟩, OU.out, HHI.out, by have := P8.out; omega, by have := P9.out; omega⟩
      · clear hS
        go_simp
        have hb : Below Y26.heap.size Y26 (Y26.alloc (.cells #[.nilFunc] 108)) := (Below.refl _ _).alloc (Nat.le_refl _) _
        have P8 := Hid.of (Nat.le_trans (Nat.succ_le_of_lt KR.out.lt) (Nat.le_refl Y26.heap.size))
        replace B := Hid.of (B.out.trans (hb.mono B.out.size))
        replace KA := Hid.of (KA.out.below hb KA.out.lt)
        replace KB := Hid.of (KB.out.below hb KB.out.lt)
        replace KR := Hid.of (KR.out.below hb KR.out.lt)
        replace K9 := Hid.of (K9.out.below hb K9.out.lt)
        have K8 := Hid.of (Blk.new Y26 108 #[.nilFunc])
        refine hK'.out _ _ (SA.out _ KA.out KB.out) (fun hS => ?_)
        clear hK' K' hb
        revert P8 B KA KB KR K9 K8 hS
        generalize Y26.alloc (.cells #[.nilFunc] 108) = Y32
        generalize Y26.heap.size = p8
        intro P8 B KA KB KR K9 K8 hS
        refine wpAnyH_ready (rs := [2]) (by kernel_rfl) (by simp) ?_
        refine AllReadyH.cons rfl (fun K' hK' => ?_) AllReadyH.nil
        clear hS
        go_simp
        refine (qleader_any st sb ev starts startsB ars arsB ends endsB a1 c1 a2 c2 a3 c3 b1 d1 b2 d2 b3 d3 hma hmb Y32 (Hid.of (h.out.below B.out (Nat.le_refl _))) (Hid.of (h'.out.below B.out (Nat.le_refl _)))).mono ?_
        rintro e Y33 ⟨pA, pB, LA, LC, rfl, wl, hi, hb⟩
        have HHI : Hid (HiQ (w.heap.size + 3) pA pB LA LC) := hi.mono (Nat.succ_le_of_lt KR.out.lt)
        replace B := Hid.of (B.out.trans (hb.mono B.out.size))
        replace KA := Hid.of (KA.out.below hb KA.out.lt)
        replace KB := Hid.of (KB.out.below hb KB.out.lt)
        replace KR := Hid.of (KR.out.below hb KR.out.lt)
        replace K9 := Hid.of (K9.out.below hb K9.out.lt)
        replace K8 := Hid.of (K8.out.below hb K8.out.lt)
        have WLq := Hid.of wl
        refine hK'.out _ _ (SA.out _ KA.out KB.out) (fun hS => ?_)
        clear hK' K' hb wl hi
        refine wpAnyH_ready (rs := [6]) (by kernel_rfl) (by simp) ?_
        refine AllReadyH.cons rfl (fun K' hK' => ?_) AllReadyH.nil
        clear hS
        go_simp
        refine (others_any ev sa sc seen Y33 hev (hs.out.below B.out (Nat.le_refl _)) hsl.out).mono ?_
        rintro e Y34 ⟨vu, rfl, ov, hb⟩
        obtain ⟨ua, uc, rfl, -, -, -, -⟩ := ov.at2
        have OU0 : Hid (Own _ (w.heap.size + 3) (.slice ua (othL ev seen).length uc) (othL ev seen)) := Own.low ov (Nat.succ_le_of_lt KR.out.lt)
        replace B := Hid.of (B.out.trans (hb.mono B.out.size))
        replace KA := Hid.of (KA.out.below hb KA.out.lt)
        replace KB := Hid.of (KB.out.below hb KB.out.lt)
        replace KR := Hid.of (KR.out.below hb KR.out.lt)
        replace K9 := Hid.of (K9.out.below hb K9.out.lt)
        replace K8 := Hid.of (K8.out.below hb K8.out.lt)
        replace WLq := Hid.of (WLq.out.kept hb)
        have OU := OU0
        refine hK'.out _ _ (SA.out _ KA.out KB.out) (fun hS => ?_)
        clear hK' K' hb ov
        refine wpAnyH_ready (rs := [9]) (by kernel_rfl) (by simp) ?_
        refine AllReadyH.cons rfl (fun K' hK' => ?_) AllReadyH.nil
        have f8 := K8.out.frozen 0
        have e8 := K8.out.cell 0 rfl
        go_simp
        have N89 : Hid (p9 ≠ p8) := blk_apart K9.out K8.out (by decide)
        replace OU := Hid.of (own_setQ OU.out K8.out (by decide) (qleadV pA pB))
        replace WLq := Hid.of (WLq.out.setF K8.out (v := qleadV pA pB))
        replace B := Hid.of (B.out.setCell (p := ⟨p8, 0, none⟩) (show w.heap.size ≤ p8 by have := P8.out; omega) (qleadV pA pB))
        replace KA := Hid.of (KA.out.other (j := 0) (show w.heap.size ≠ p8 by have := P8.out; omega) (qleadV pA pB))
        replace KB := Hid.of (KB.out.other (j := 0) (show w.heap.size + 1 ≠ p8 by have := P8.out; omega) (qleadV pA pB))
        replace KR := Hid.of (KR.out.other (j := 0) (show w.heap.size + 1 + 1 ≠ p8 by have := P8.out; omega) (qleadV pA pB))
        replace K9 := Hid.of (K9.out.other (j := 0) N89.out (qleadV pA pB))
        replace K8 := Hid.of (K8.out.set 0 (qleadV pA pB))
        refine hK'.out _ _ (SA.out _ KA.out KB.out) (fun hS6 => ?_)
        clear hK' K' f8 e8 hS
        refine wpAnyH_ready (rs := [10]) (by kernel_rfl) (by simp) ?_
        refine AllReadyH.cons rfl (fun K' hK' => ?_) AllReadyH.nil
        have f9 := K9.out.frozen 0
        have e9 := K9.out.cell 0 rfl
        go_simp
        replace OU := Hid.of (own_setQ OU.out K9.out (by decide) (.slice ua (othL ev seen).length uc))
        replace WLq := Hid.of (WLq.out.setI K9.out (v := .slice ua (othL ev seen).length uc))
        replace B := Hid.of (B.out.setCell (p := ⟨p9, 0, none⟩) (show w.heap.size ≤ p9 by have := P9.out; omega) (.slice ua (othL ev seen).length uc))
        replace KA := Hid.of (KA.out.other (j := 0) (show w.heap.size ≠ p9 by have := P9.out; omega) (.slice ua (othL ev seen).length uc))
        replace KB := Hid.of (KB.out.other (j := 0) (show w.heap.size + 1 ≠ p9 by have := P9.out; omega) (.slice ua (othL ev seen).length uc))
        replace KR := Hid.of (KR.out.other (j := 0) (show w.heap.size + 1 + 1 ≠ p9 by have := P9.out; omega) (.slice ua (othL ev seen).length uc))
        replace K8 := Hid.of (K8.out.other (j := 0) (Ne.symm N89.out) (.slice ua (othL ev seen).length uc))
        replace K9 := Hid.of (K9.out.set 0 (.slice ua (othL ev seen).length uc))
        refine hK'.out _ _ (SA.out _ KA.out KB.out) (fun hS7 => ?_)
        clear hK' K' f9 e9 hS6 hS7
        refine wpAnyH_done (by kernel_rfl) ?_ _
        exact ⟨p8, p9, pA, pB, LA, LC, ua, uc, rfl, B.out, KA.out, KB.out, KR.out, ⟨K8.out, K9.out, WLq.out, OU.out.at_len⟩, OU.out, HHI.out, by have := P8.out; omega, by have := P9.out; omega⟩
  case aft =>
    clear B KA KB KR
    refine regQ_imp ?_
    rintro a' X0 ⟨p8, p9, pA, pB, LA, LC, ua, uc, rfl, b0, k0, k1, k2, wq, ow, hi, hp8, hp9⟩
    have B := Hid.of b0
    have KA := Hid.of k0
    have KB := Hid.of k1
    have KR := Hid.of k2
    have HWQ := Hid.of wq
    have HOU := Hid.of ow
    have HHI := Hid.of hi
    have HP8 := Hid.of hp8
    have HP9 := Hid.of hp9
    clear b0 k0 k1 k2 wq ow hi hp8 hp9
    have slA : Hid (starts.length ≤ maxLen) := Nat.le_trans h.out.s1 h.out.s2
    have slB : Hid (startsB.length ≤ maxLen) := Nat.le_trans h'.out.s1 h'.out.s2
    have sbA : Hid (∀ x ∈ starts, 0 ≤ x ∧ x < 256) := fun x hx => by have := (may_starts hma.out).2 x hx; dsimp only at this; omega
    have sbB : Hid (∀ x ∈ startsB, 0 ≤ x ∧ x < 256) := fun x hx => by have := (may_starts hmb.out).2 x hx; dsimp only at this; omega
    obtain ⟨EA, HEA⟩ : ∃ EA, Hid (EA = ofS starts) := ⟨_, rfl⟩
    obtain ⟨EB, HEB⟩ : ∃ EB, Hid (EB = ofS startsB) := ⟨_, rfl⟩
    obtain ⟨PP, HPP⟩ : ∃ PP, Hid (PP = pairsS EA (EB 0)) := ⟨_, rfl⟩
    have rA := rep_allL sbA.out
    have rB := rep_allL sbB.out
    rw [← HEA.out] at rA
    rw [← HEB.out] at rB
    have okA := Hid.of rA.ok
    have allA : Hid (∀ k ∈ allS EA, k < 15) := fun k hk => by
      obtain ⟨k1, k2⟩ := (mem_allS _ _).1 hk
      have := (may_starts hma.out).2 _ ((rA.mem k k1).1 k2)
      dsimp only at this; omega
    have lowB : Hid (EB 0 < 16) := first_lt rB (fun x hx => by have := (may_starts hmb.out).2 x hx; dsimp only at this; omega)
    have HRP : Hid (Rep PP (((⟨(st : Int), (ev : Int), starts, ars, ends⟩ : Mach).starts.map fun x => ((x, (⟨(sb : Int), (ev : Int), startsB, arsB, endsB⟩ : Mach).starts) : Pla)).map encQ)) := by
      have := rep_first hma.out hmb.out (by show (st : Int) ≤ 6; omega) (by show (sb : Int) ≤ 4; omega)
      rw [HPP.out, HEA.out, HEB.out]; exact this
    clear rA rB
    go_wp2_with fail
    refine Code.wp_mono (Q := regQ fun a' W' => ∃ (p10 : Nat), a' = { tmps := #[mval ⟨(st : Int), (ev : Int), starts, ars, ends⟩ ⟨a1, c1, a2, c2, a3, c3⟩, mval ⟨(sb : Int), (ev : Int), startsB, arsB, endsB⟩ ⟨b1, d1, b2, d2, b3, d3⟩, .slice sa seen.length sc, .pointer (some ⟨w.heap.size, 0, none⟩), .pointer (some ⟨w.heap.size + 1, 0, none⟩), undef, .pointer (some ⟨w.heap.size + 1 + 1, 0, none⟩), .nilFunc, .pointer (some ⟨p8, 0, none⟩), .pointer (some ⟨p9, 0, none⟩), .pointer (some ⟨p10, 0, none⟩), .agg #[.int .i64 st, .int .i64 ev, .slice a1 starts.length c1, .slice a2 ars.length c2, .slice a3 ends.length c3], .agg #[.int .i64 sb, .int .i64 ev, .slice b1 startsB.length d1, .slice b2 arsB.length d2, .slice b3 endsB.length d3], qleadV pA pB, .pointer (some ⟨w.heap.size, 1, none⟩), .int .i64 ev, .slice sa seen.length sc, .slice ua (othL ev seen).length uc, .pointer (some ⟨w.heap.size, 2, none⟩), .slice a1 starts.length c1, sval EA, .pointer (some ⟨w.heap.size + 1, 2, none⟩), .slice b1 startsB.length d1, sval EB, sval PP, undef, undef, undef, undef, undef], defers := [] } ∧ Below X0.heap.size X0 W' ∧ SB W' p10 PP) ?aft ?reg
    case reg =>
      refine wp_region_held_drew (S := fun w' => w'.cell? ⟨w.heap.size, 0, none⟩ = some (.int .i64 st) ∧ w'.cell? ⟨w.heap.size, 1, none⟩ = some (.int .i64 ev) ∧ w'.cell? ⟨w.heap.size, 2, none⟩ = some (.slice a1 starts.length c1) ∧ w'.cell? ⟨w.heap.size, 3, none⟩ = some (.slice a2 ars.length c2) ∧ w'.cell? ⟨w.heap.size, 4, none⟩ = some (.slice a3 ends.length c3) ∧ w'.cell? ⟨w.heap.size + 1, 0, none⟩ = some (.int .i64 sb) ∧ w'.cell? ⟨w.heap.size + 1, 1, none⟩ = some (.int .i64 ev) ∧ w'.cell? ⟨w.heap.size + 1, 2, none⟩ = some (.slice b1 startsB.length d1) ∧ w'.cell? ⟨w.heap.size + 1, 3, none⟩ = some (.slice b2 arsB.length d2) ∧ w'.cell? ⟨w.heap.size + 1, 4, none⟩ = some (.slice b3 endsB.length d3)) (by kernel_rfl) (SA.out _ (Blk.drew KA.out) (Blk.drew KB.out)) (fun hS => ?_)
      have BX : Hid (Below X0.heap.size X0 X0.drew) := (Below.refl _ _).drew
      revert hS BX
      generalize X0.drew = Y0
      intro hS BX
      refine wpAnyH_take (i := 0) (v := .pointer (some ⟨w.heap.size, 2, none⟩)) rfl (by kernel_rfl) (by kernel_rfl) (by kernel_rfl) (fun _ _ _ h => h) (Or.inl ⟨by kernel_rfl, fun w' hw' => by obtain ⟨q0, q1, q2, q3, q4, q5, q6, q7, q8, q9⟩ := hw'; go_simp⟩) hS ?_
      refine wpAnyH_take (i := 1) (v := .slice a1 starts.length c1) rfl (by kernel_rfl) (by kernel_rfl) (by kernel_rfl) (fun _ _ _ h => h) (Or.inl ⟨by kernel_rfl, fun w' hw' => by obtain ⟨q0, q1, q2, q3, q4, q5, q6, q7, q8, q9⟩ := hw'; go_simp⟩) hS ?_
      refine wpAnyH_take (i := 3) (v := .pointer (some ⟨w.heap.size + 1, 2, none⟩)) rfl (by kernel_rfl) (by kernel_rfl) (by kernel_rfl) (fun _ _ _ h => h) (Or.inl ⟨by kernel_rfl, fun w' hw' => by obtain ⟨q0, q1, q2, q3, q4, q5, q6, q7, q8, q9⟩ := hw'; go_simp⟩) hS ?_
      refine wpAnyH_take (i := 4) (v := .slice b1 startsB.length d1) rfl (by kernel_rfl) (by kernel_rfl) (by kernel_rfl) (fun _ _ _ h => h) (Or.inl ⟨by kernel_rfl, fun w' hw' => by obtain ⟨q0, q1, q2, q3, q4, q5, q6, q7, q8, q9⟩ := hw'; go_simp⟩) hS ?_
      simp only [Act.put, List.setIfInBounds_toArray]
      refine wpAnyH_ready (rs := [2, 7]) (by kernel_rfl) (by simp) ?_
      refine AllReadyH.cons rfl (fun K' hK' => ?_) (AllReadyH.cons rfl (fun K' hK' => ?_) AllReadyH.nil)
      · clear hS
        go_simp
        refine (of_any a1 c1 starts Y0 (h.out.s.below (B.out.trans (BX.out.mono B.out.size)) (Nat.le_refl _)) slA.out sbA.out).mono ?_
        rintro e Y1 ⟨rfl, hb⟩
        rw [← HEA.out]
        replace BX := Hid.of (BX.out.trans (hb.mono BX.out.size))
        refine hK'.out _ _ (SA.out _ (KA.out.below BX.out KA.out.lt) (KB.out.below BX.out KB.out.lt)) (fun hS => ?_)
        clear hK' K' hb
        refine wpAnyH_ready (rs := [5, 7]) (by kernel_rfl) (by simp) ?_
        refine AllReadyH.cons rfl (fun K' hK' => ?_) (AllReadyH.cons rfl (fun K' hK' => ?_) AllReadyH.nil)
        · clear hS
          go_simp
          refine (of_any b1 d1 startsB Y1 (h'.out.s.below (B.out.trans (BX.out.mono B.out.size)) (Nat.le_refl _)) slB.out sbB.out).mono ?_
          rintro e Y2 ⟨rfl, hb⟩
          rw [← HEB.out]
          replace BX := Hid.of (BX.out.trans (hb.mono BX.out.size))
          refine hK'.out _ _ (SA.out _ (KA.out.below BX.out KA.out.lt) (KB.out.below BX.out KB.out.lt)) (fun hS => ?_)
          clear hK' K' hb
          refine wpAnyH_ready (rs := [6, 7]) (by kernel_rfl) (by simp) ?_
          refine AllReadyH.cons rfl (fun K' hK' => ?_) (AllReadyH.cons rfl (fun K' hK' => ?_) AllReadyH.nil)
          · clear hS
            go_simp
            refine (pairs_any EA EB okA.out allA.out lowB.out Y2 (hT.out.below (B.out.trans (BX.out.mono B.out.size)) hT.out.lt)).mono ?_
            rintro e Y3 ⟨rfl, hb⟩
            rw [← HPP.out]
            replace BX := Hid.of (BX.out.trans (hb.mono BX.out.size))
            refine hK'.out _ _ (SA.out _ (KA.out.below BX.out KA.out.lt) (KB.out.below BX.out KB.out.lt)) (fun hS => ?_)
            clear hK' K' hb
            refine wpAnyH_ready (rs := [7]) (by kernel_rfl) (by simp) ?_
            refine AllReadyH.cons rfl (fun K' hK' => ?_) AllReadyH.nil
            clear hS
            go_simp
            have hb : Below Y3.heap.size Y3 (Y3.alloc (.cells #[.int .u64 0, .int .u64 0, .int .u64 0, .int .u64 0] 85)) := (Below.refl _ _).alloc (Nat.le_refl _) _
            have P10 := Hid.of BX.out.size
            replace BX := Hid.of (BX.out.trans (hb.mono BX.out.size))
            have K10 := Hid.of (Blk.new Y3 85 #[.int .u64 0, .int .u64 0, .int .u64 0, .int .u64 0])
            refine hK'.out _ _ (SA.out _ (KA.out.below BX.out KA.out.lt) (KB.out.below BX.out KB.out.lt)) (fun hS => ?_)
            clear hK' K' hb
            revert P10 BX K10 hS
            generalize Y3.alloc (.cells #[.int .u64 0, .int .u64 0, .int .u64 0, .int .u64 0] 85) = Y4
            generalize Y3.heap.size = p10
            intro P10 BX K10 hS
            refine wpAnyH_ready (rs := [8]) (by kernel_rfl) (by simp) ?_
            refine AllReadyH.cons rfl (fun K' hK' => ?_) AllReadyH.nil
            clear hS
            replace K10 : Hid (SB _ p10 zeroS) := K10
            have f10 := K10.out.frozen
            obtain ⟨z0, z1, z2, z3⟩ := SB.cells K10.out
            go_simp
            replace BX := Hid.of (below_set4 BX.out (b' := p10) P10.out (.int .u64 (PP 0)) (.int .u64 (PP 1)) (.int .u64 (PP 2)) (.int .u64 (PP 3)))
            replace K10 := Hid.of (SB.set4 K10.out PP)
            refine hK'.out _ _ (SA.out _ (KA.out.below BX.out KA.out.lt) (KB.out.below BX.out KB.out.lt)) (fun hS => ?_)
            clear hK' K' f10 z0 z1 z2 z3
            refine wpAnyH_done (by kernel_rfl) ?_ _
            exact ⟨p10, rfl, BX.out, K10.out⟩
          · clear hS
            go_simp
            have hb : Below Y2.heap.size Y2 (Y2.alloc (.cells #[.int .u64 0, .int .u64 0, .int .u64 0, .int .u64 0] 85)) := (Below.refl _ _).alloc (Nat.le_refl _) _
            have P10 := Hid.of BX.out.size
            replace BX := Hid.of (BX.out.trans (hb.mono BX.out.size))
            have K10 := Hid.of (Blk.new Y2 85 #[.int .u64 0, .int .u64 0, .int .u64 0, .int .u64 0])
            refine hK'.out _ _ (SA.out _ (KA.out.below BX.out KA.out.lt) (KB.out.below BX.out KB.out.lt)) (fun hS => ?_)
            clear hK' K' hb
            revert P10 BX K10 hS
            generalize Y2.alloc (.cells #[.int .u64 0, .int .u64 0, .int .u64 0, .int .u64 0] 85) = Y5
            generalize Y2.heap.size = p10
            intro P10 BX K10 hS
            refine wpAnyH_ready (rs := [6]) (by kernel_rfl) (by simp) ?_
            refine AllReadyH.cons rfl (fun K' hK' => ?_) AllReadyH.nil
            clear hS
            go_simp
            refine (pairs_any EA EB okA.out allA.out lowB.out Y5 (hT.out.below (B.out.trans (BX.out.mono B.out.size)) hT.out.lt)).mono ?_
            rintro e Y6 ⟨rfl, hb⟩
            rw [← HPP.out]
            replace BX := Hid.of (BX.out.trans (hb.mono BX.out.size))
            replace K10 := Hid.of (K10.out.below hb K10.out.lt)
            refine hK'.out _ _ (SA.out _ (KA.out.below BX.out KA.out.lt) (KB.out.below BX.out KB.out.lt)) (fun hS => ?_)
            clear hK' K' hb
            refine wpAnyH_ready (rs := [8]) (by kernel_rfl) (by simp) ?_
            refine AllReadyH.cons rfl (fun K' hK' => ?_) AllReadyH.nil
            clear hS
            replace K10 : Hid (SB _ p10 zeroS) := K10
            have f10 := K10.out.frozen
            obtain ⟨z0, z1, z2, z3⟩ := SB.cells K10.out
            go_simp
            replace BX := Hid.of (below_set4 BX.out (b' := p10) P10.out (.int .u64 (PP 0)) (.int .u64 (PP 1)) (.int .u64 (PP 2)) (.int .u64 (PP 3)))
            replace K10 := Hid.of (SB.set4 K10.out PP)
            refine hK'.out _ _ (SA.out _ (KA.out.below BX.out KA.out.lt) (KB.out.below BX.out KB.out.lt)) (fun hS => ?_)
            clear hK' K' f10 z0 z1 z2 z3
            refine wpAnyH_done (by kernel_rfl) ?_ _
            exact ⟨p10, rfl, BX.out, K10.out⟩
        · clear hS
          go_simp
          have hb : Below Y1.heap.size Y1 (Y1.alloc (.cells #[.int .u64 0, .int .u64 0, .int .u64 0, .int .u64 0] 85)) := (Below.refl _ _).alloc (Nat.le_refl _) _
          have P10 := Hid.of BX.out.size
          replace BX := Hid.of (BX.out.trans (hb.mono BX.out.size))
          have K10 := Hid.of (Blk.new Y1 85 #[.int .u64 0, .int .u64 0, .int .u64 0, .int .u64 0])
          refine hK'.out _ _ (SA.out _ (KA.out.below BX.out KA.out.lt) (KB.out.below BX.out KB.out.lt)) (fun hS => ?_)
          clear hK' K' hb
          revert P10 BX K10 hS
          generalize Y1.alloc (.cells #[.int .u64 0, .int .u64 0, .int .u64 0, .int .u64 0] 85) = Y7
          generalize Y1.heap.size = p10
          intro P10 BX K10 hS
          refine wpAnyH_ready (rs := [5]) (by kernel_rfl) (by simp) ?_
          refine AllReadyH.cons rfl (fun K' hK' => ?_) AllReadyH.nil
          clear hS
          go_simp
          refine (of_any b1 d1 startsB Y7 (h'.out.s.below (B.out.trans (BX.out.mono B.out.size)) (Nat.le_refl _)) slB.out sbB.out).mono ?_
          rintro e Y8 ⟨rfl, hb⟩
          rw [← HEB.out]
          replace BX := Hid.of (BX.out.trans (hb.mono BX.out.size))
          replace K10 := Hid.of (K10.out.below hb K10.out.lt)
          refine hK'.out _ _ (SA.out _ (KA.out.below BX.out KA.out.lt) (KB.out.below BX.out KB.out.lt)) (fun hS => ?_)
          clear hK' K' hb
          refine wpAnyH_ready (rs := [6]) (by kernel_rfl) (by simp) ?_
          refine AllReadyH.cons rfl (fun K' hK' => ?_) AllReadyH.nil
          clear hS
          go_simp
          refine (pairs_any EA EB okA.out allA.out lowB.out Y8 (hT.out.below (B.out.trans (BX.out.mono B.out.size)) hT.out.lt)).mono ?_
          rintro e Y9 ⟨rfl, hb⟩
          rw [← HPP.out]
          replace BX := Hid.of (BX.out.trans (hb.mono BX.out.size))
          replace K10 := Hid.of (K10.out.below hb K10.out.lt)
          refine hK'.out _ _ (SA.out _ (KA.out.below BX.out KA.out.lt) (KB.out.below BX.out KB.out.lt)) (fun hS => ?_)
          clear hK' K' hb
          refine wpAnyH_ready (rs := [8]) (by kernel_rfl) (by simp) ?_
          refine AllReadyH.cons rfl (fun K' hK' => ?_) AllReadyH.nil
          clear hS
          replace K10 : Hid (SB _ p10 zeroS) := K10
          have f10 := K10.out.frozen
          obtain ⟨z0, z1, z2, z3⟩ := SB.cells K10.out
          go_simp
          replace BX := Hid.of (below_set4 BX.out (b' := p10) P10.out (.int .u64 (PP 0)) (.int .u64 (PP 1)) (.int .u64 (PP 2)) (.int .u64 (PP 3)))
          replace K10 := Hid.of (SB.set4 K10.out PP)
          refine hK'.out _ _ (SA.out _ (KA.out.below BX.out KA.out.lt) (KB.out.below BX.out KB.out.lt)) (fun hS => ?_)
          clear hK' K' f10 z0 z1 z2 z3
          refine wpAnyH_done (by kernel_rfl) ?_ _
          exact ⟨p10, rfl, BX.out, K10.out⟩
      · clear hS
        go_simp
        have hb : Below Y0.heap.size Y0 (Y0.alloc (.cells #[.int .u64 0, .int .u64 0, .int .u64 0, .int .u64 0] 85)) := (Below.refl _ _).alloc (Nat.le_refl _) _
        have P10 := Hid.of BX.out.size
        replace BX := Hid.of (BX.out.trans (hb.mono BX.out.size))
        have K10 := Hid.of (Blk.new Y0 85 #[.int .u64 0, .int .u64 0, .int .u64 0, .int .u64 0])
        refine hK'.out _ _ (SA.out _ (KA.out.below BX.out KA.out.lt) (KB.out.below BX.out KB.out.lt)) (fun hS => ?_)
        clear hK' K' hb
        revert P10 BX K10 hS
        generalize Y0.alloc (.cells #[.int .u64 0, .int .u64 0, .int .u64 0, .int .u64 0] 85) = Y10
        generalize Y0.heap.size = p10
        intro P10 BX K10 hS
        refine wpAnyH_ready (rs := [2]) (by kernel_rfl) (by simp) ?_
        refine AllReadyH.cons rfl (fun K' hK' => ?_) AllReadyH.nil
        clear hS
        go_simp
        refine (of_any a1 c1 starts Y10 (h.out.s.below (B.out.trans (BX.out.mono B.out.size)) (Nat.le_refl _)) slA.out sbA.out).mono ?_
        rintro e Y11 ⟨rfl, hb⟩
        rw [← HEA.out]
        replace BX := Hid.of (BX.out.trans (hb.mono BX.out.size))
        replace K10 := Hid.of (K10.out.below hb K10.out.lt)
        refine hK'.out _ _ (SA.out _ (KA.out.below BX.out KA.out.lt) (KB.out.below BX.out KB.out.lt)) (fun hS => ?_)
        clear hK' K' hb
        refine wpAnyH_ready (rs := [5]) (by kernel_rfl) (by simp) ?_
        refine AllReadyH.cons rfl (fun K' hK' => ?_) AllReadyH.nil
        clear hS
        go_simp
        refine (of_any b1 d1 startsB Y11 (h'.out.s.below (B.out.trans (BX.out.mono B.out.size)) (Nat.le_refl _)) slB.out sbB.out).mono ?_
        rintro e Y12 ⟨rfl, hb⟩
        rw [← HEB.out]
        replace BX := Hid.of (BX.out.trans (hb.mono BX.out.size))
        replace K10 := Hid.of (K10.out.below hb K10.out.lt)
        refine hK'.out _ _ (SA.out _ (KA.out.below BX.out KA.out.lt) (KB.out.below BX.out KB.out.lt)) (fun hS => ?_)
        clear hK' K' hb
        refine wpAnyH_ready (rs := [6]) (by kernel_rfl) (by simp) ?_
        refine AllReadyH.cons rfl (fun K' hK' => ?_) AllReadyH.nil
        clear hS
        go_simp
        refine (pairs_any EA EB okA.out allA.out lowB.out Y12 (hT.out.below (B.out.trans (BX.out.mono B.out.size)) hT.out.lt)).mono ?_
        rintro e Y13 ⟨rfl, hb⟩
        rw [← HPP.out]
        replace BX := Hid.of (BX.out.trans (hb.mono BX.out.size))
        replace K10 := Hid.of (K10.out.below hb K10.out.lt)
        refine hK'.out _ _ (SA.out _ (KA.out.below BX.out KA.out.lt) (KB.out.below BX.out KB.out.lt)) (fun hS => ?_)
        clear hK' K' hb
        refine wpAnyH_ready (rs := [8]) (by kernel_rfl) (by simp) ?_
        refine AllReadyH.cons rfl (fun K' hK' => ?_) AllReadyH.nil
        clear hS
        replace K10 : Hid (SB _ p10 zeroS) := K10
        have f10 := K10.out.frozen
        obtain ⟨z0, z1, z2, z3⟩ := SB.cells K10.out
        go_simp
        replace BX := Hid.of (below_set4 BX.out (b' := p10) P10.out (.int .u64 (PP 0)) (.int .u64 (PP 1)) (.int .u64 (PP 2)) (.int .u64 (PP 3)))
        replace K10 := Hid.of (SB.set4 K10.out PP)
        refine hK'.out _ _ (SA.out _ (KA.out.below BX.out KA.out.lt) (KB.out.below BX.out KB.out.lt)) (fun hS => ?_)
        clear hK' K' f10 z0 z1 z2 z3
        refine wpAnyH_done (by kernel_rfl) ?_ _
        exact ⟨p10, rfl, BX.out, K10.out⟩
    case aft =>
      refine regQ_imp ?_
      rintro a' X1 ⟨p10, rfl, bx, k10⟩
      have BX := Hid.of bx
      have K10 := Hid.of k10
      clear bx k10
      replace B := Hid.of (B.out.trans (BX.out.mono B.out.size))
      replace KR := Hid.of (KR.out.below BX.out KR.out.lt)
      replace HWQ := Hid.of (HWQ.out.kept BX.out)
      replace HOU := Hid.of (own_same HOU.out (fun k hk => BX.out.block k (World.ownsRow.lt HOU.out k hk).2))
      clear BX KA KB SA
      obtain ⟨t0, t1, t2, t3⟩ := SB.cells K10.out
      have t8 := HWQ.out.cl.cell 0 rfl
      have t9 : X1.cell? ⟨p9, 0, none⟩ = some (.slice ua (othL ev seen).length uc) := HWQ.out.cu.cell 0 rfl
      have HST := Hid.of (still_any ⟨(st : Int), (ev : Int), starts, ars, ends⟩ ⟨(sb : Int), (ev : Int), startsB, arsB, endsB⟩ hma.out hmb.out (by show (st : Int) ≤ 6; omega) (by show (sb : Int) ≤ 4; omega) rfl seen _ (start_nodup hma.out) (start_all hma.out hmb.out (by show (st : Int) ≤ 6; omega) (by show (sb : Int) ≤ 4; omega)) (bd_start hmb.out) PP HRP.out ua uc pA pB LA LC X1 (hT.out.below B.out hT.out.lt) HWQ.out.wl HWQ.out.at_)
      obtain ⟨us, HUS⟩ : ∃ us, Hid (us = othL ev seen) := ⟨_, rfl⟩
      go_wp2_with fail
      refine HST.out.mono ?_
      rintro e X2 ⟨F, rfl, rf, hb⟩
      have RF := Hid.of rf
      replace B := Hid.of (B.out.trans (hb.mono B.out.size))
      replace KR := Hid.of (KR.out.below hb KR.out.lt)
      replace HWQ := Hid.of (HWQ.out.kept hb)
      replace HOU := Hid.of (own_same HOU.out (fun k hk => hb.block k (World.ownsRow.lt HOU.out k hk).2))
      clear hb rf t0 t1 t2 t3 t8 t9 HST
      have rz := KR.out.frozen
      obtain ⟨r0, r1, r2, r3⟩ := SB.cells KR.out
      have RR := Hid.of (SB.set4 KR.out F)
      have BB := Hid.of (below_set4 B.out (b' := w.heap.size + 1 + 1) (by omega) (.int .u64 (F 0)) (.int .u64 (F 1)) (.int .u64 (F 2)) (.int .u64 (F 3)))
      have LL := Hid.of (HWQ.out.wl.hi4 HHI.out (b := w.heap.size + 1 + 1) (by omega) (.int .u64 (F 0)) (.int .u64 (F 1)) (.int .u64 (F 2)) (.int .u64 (F 3)))
      have OO := Hid.of (own_hi4 HOU.out (b := w.heap.size + 1 + 1) (by omega) (.int .u64 (F 0)) (.int .u64 (F 1)) (.int .u64 (F 2)) (.int .u64 (F 3)))
      have C8 := Hid.of (HWQ.out.cl.other4 (b' := w.heap.size + 1 + 1) (by have := HP8.out; omega) (.int .u64 (F 0)) (.int .u64 (F 1)) (.int .u64 (F 2)) (.int .u64 (F 3)))
      have C9 := Hid.of (HWQ.out.cu.other4 (b' := w.heap.size + 1 + 1) (by have := HP9.out; omega) (.int .u64 (F 0)) (.int .u64 (F 1)) (.int .u64 (F 2)) (.int .u64 (F 3)))
      clear KR B HWQ HOU
      go_wp2_with fail
      exact bodyPost_ret (v := .tuple #[sval F, qwatV p8 p9]) (results_setOne (p := 6) (u := 7) rfl _ _ (w.heap.size + 1 + 1) F _ rfl rfl RR.out) rfl ⟨F, p8, p9, pA, pB, LA, LC, ua, uc, rfl, RF.out, ⟨C8.out, C9.out, LL.out, OO.out.at_len⟩, BB.out⟩

end Go.Proofs.YtmlkpdeidpcidaaDoor
