/-
  The closure that machine.Leader answers: where the states of a set lead to, at an event.
  machine.Leader, of whatever machine may be.
  The walk of machine.after: where a word leads, as a set; or what is wrong.
-/
import Derived.Test.YtdnglodemkeooaaDoorG11
import Derived.Test.YtdnglodemkeooaaDoorCSpread
import Derived.Test.YtdnglodemkeooaaDoorCLead
import Derived.Laws.ResultCell
import Derived.Test.YtdnglodemkeooaaDoorG07
import Derived.Test.YtdnglodemkeooaaDoorCIsWord
namespace Go.Proofs.YtdnglodemkeooaaDoor
open Go.RowKit Go.Shelf
set_option linter.unusedVariables false
attribute [local go_sem] Oper.semAt_some

set_option maxRecDepth 100000 in
set_option maxHeartbeats 4000000 in
theorem lead1_in (st ev e : Nat) (L : LB) (T : Nat → Nat → Nat) (hTok : ∀ p, okS (T p)) (S : Nat → Nat) (hS : okS S) (hall : ∀ k ∈ allS S, k < st) (he : e < ev) (hev8 : ev ≤ 8) (hst : st ≤ 256)
    (w : World) (hT : Tab w) (hL : LD w L ev (st * ev) T) :
    CallsIn Fence.wide 5 Tryd.prog 112 #[sval S, .int .i64 e, .pointer (some ⟨L.pi, 0, none⟩), .pointer (some ⟨L.pe, 0, none⟩), .pointer (some ⟨L.pt, 0, none⟩)] w fun e' W' => e' = .returned (sval (leadF T ev e (allS S))) ∧ Below w.heap.size w W' := by
  obtain ⟨xs, hxs⟩ := nb_of (N := st) (allS S) hall
  have hlen : xs.length ≤ 256 := by have := allS_len S; rw [← hxs, List.length_map] at this; exact this
  have hin : Hid (inB (ev : Int) (e : Int) = true) := by show _ = _; unfold inB; simp; omega
  obtain ⟨l1, l2, l3, l4, l5⟩ := hL.lt
  refine callsIn_of_wp_marks Tryd.func112 rfl trivial ?_ rfl
  simp only [Tryd.ntmps112, List.size_toArray, List.length_cons, List.length_nil, Nat.reduceAdd, Nat.reduceSub, Array.replicate_succ, Array.replicate_zero, List.push_toArray, List.append_toArray, List.nil_append, List.cons_append]
  have bE : Boxed ((((w.alloc (.cells (scells S) 62)).alloc (.cells #[.int .i64 e] 3)).alloc (.cells #[.int .u64 0, .int .u64 0, .int .u64 0, .int .u64 0] 62)).alloc (.cells #[.int .u64 0, .int .u64 0, .int .u64 0, .int .u64 0] 62)) (w.heap.size + 1) 3 (.int .i64 e) := by
    have := ((Boxed.new (w.alloc (.cells (scells S) 62)) 3 (.int .i64 e)).alloc (.cells (scells zeroS) 62)).alloc (.cells (scells zeroS) 62)
    rwa [World.size_alloc] at this
  have bS : SB ((((w.alloc (.cells (scells S) 62)).alloc (.cells #[.int .i64 e] 3)).alloc (.cells #[.int .u64 0, .int .u64 0, .int .u64 0, .int .u64 0] 62)).alloc (.cells #[.int .u64 0, .int .u64 0, .int .u64 0, .int .u64 0] 62)) w.heap.size S := (((Blk.new w 62 (scells S)).alloc _).alloc _).alloc _
  have bR : SB ((((w.alloc (.cells (scells S) 62)).alloc (.cells #[.int .i64 e] 3)).alloc (.cells #[.int .u64 0, .int .u64 0, .int .u64 0, .int .u64 0] 62)).alloc (.cells #[.int .u64 0, .int .u64 0, .int .u64 0, .int .u64 0] 62)) (w.heap.size + 1 + 1) zeroS := by
    have := (Blk.new ((w.alloc (.cells (scells S) 62)).alloc (.cells #[.int .i64 e] 3)) 62 (scells zeroS)).alloc (.cells (scells zeroS) 62)
    rwa [World.size_alloc, World.size_alloc] at this
  have bO : SB ((((w.alloc (.cells (scells S) 62)).alloc (.cells #[.int .i64 e] 3)).alloc (.cells #[.int .u64 0, .int .u64 0, .int .u64 0, .int .u64 0] 62)).alloc (.cells #[.int .u64 0, .int .u64 0, .int .u64 0, .int .u64 0] 62)) (w.heap.size + 1 + 1 + 1) zeroS := by
    have := Blk.new (((w.alloc (.cells (scells S) 62)).alloc (.cells #[.int .i64 e] 3)).alloc (.cells (scells zeroS) 62)) 62 (scells zeroS)
    rwa [World.size_alloc, World.size_alloc, World.size_alloc] at this
  have hB0 : Below w.heap.size w ((((w.alloc (.cells (scells S) 62)).alloc (.cells #[.int .i64 e] 3)).alloc (.cells #[.int .u64 0, .int .u64 0, .int .u64 0, .int .u64 0] 62)).alloc (.cells #[.int .u64 0, .int .u64 0, .int .u64 0, .int .u64 0] 62)) := ((((Below.refl _ w).alloc (Nat.le_refl _) _).alloc (by simp) _).alloc (by simp; omega) _).alloc (by simp; omega) _
  have hsz : ((((w.alloc (.cells (scells S) 62)).alloc (.cells #[.int .i64 e] 3)).alloc (.cells #[.int .u64 0, .int .u64 0, .int .u64 0, .int .u64 0] 62)).alloc (.cells #[.int .u64 0, .int .u64 0, .int .u64 0, .int .u64 0] 62)).heap.size = w.heap.size + 4 := by simp
  have c1 := (hL.below hB0 hL.lt).is.cell
  gi_wp2_with fail
  revert bE bS bR bO hB0 hsz c1
  generalize (((w.alloc (.cells (scells S) 62)).alloc (.cells #[.int .i64 e] 3)).alloc (.cells #[.int .u64 0, .int .u64 0, .int .u64 0, .int .u64 0] 62)).alloc (.cells #[.int .u64 0, .int .u64 0, .int .u64 0, .int .u64 0] 62) = V
  intro bE bS bR bO hB0 hsz c1
  have c5 : V.cell? ⟨L.pb, 0, none⟩ = some (.int .i64 ev) := (hL.below hB0 hL.lt).bd.cell
  refine ⟨trivial, ?_⟩
  refine CallsIn.mono (callsIn_wide.2 (within1_any (ev : Int) (e : Int) L.pb V c5)) ?_
  rintro e' w1 ⟨rfl, rfl⟩
  rw [hin.out]
  obtain ⟨s0, s1, s2, s3⟩ := bS.cells
  clear c1 c5
  gi_wp2_with (refine ⟨trivial, ?_⟩; refine CallsIn.mono (callsIn_wide.2 (all_any S _)) ?_; rintro e' w1 ⟨rfl, rfl⟩)
  have bE' := bE.alloc (.cells (scells S) 62)
  have bR' := bR.alloc (.cells (scells S) 62)
  have bO' := bO.alloc (.cells (scells S) 62)
  have bN : SB (w1.alloc (.cells (scells S) 62)) (w.heap.size + 4) S := by have := Blk.new w1 62 (scells S); rwa [hsz] at this
  have hB1 := hB0.alloc hB0.size (.cells (scells S) 62)
  have hsz1 : (w1.alloc (.cells (scells S) 62)).heap.size = w.heap.size + 5 := by rw [World.size_alloc, hsz]
  clear bE bR bO bS hB0 s0 s1 s2 s3
  revert bE' bR' bO' bN hB1 hsz1
  generalize w1.alloc (.cells (scells S) 62) = W0
  intro bE bR bO bN hB0 hsz0
  have hT0 := hT.below hB0 hT.lt
  have hL0 := hL.below hB0 hL.lt
  have hLl : L.all (· < w.heap.size + 3) := hL.lt.imp (fun n h => by omega)
  refine wpIn_rangeFunc_ownG rfl (by omega) (gf := 122) (lb := #[.pointer (some ⟨w.heap.size + 4, 0, none⟩)]) rfl trivial (enters_of Tryd.func122 (by kernel_rfl) rfl)
    (all_stops 4 (by omega) (w.heap.size + 4) (w.heap.size + 3) S hS xs hxs (by omega) W0 (by omega) bN hT0) belowK_t (belowK_b (by omega)) (Below.refl _ _) (fun _ => rfl)
    (fun pre W => SB W (w.heap.size + 1 + 1 + 1) (leadF T ev e (nbNats pre)) ∧ Below (w.heap.size + 3) W0 W)
    (fun _ _ _ => False)
    (OwnFrom.and (Go.Own.from (own_SB (w.heap.size + 1 + 1 + 1) (fun pre : List (NB st) => leadF T ev e (nbNats pre))) _) (ownFrom_below (by omega) (by omega)))
    (fun _ _ _ _ _ hs _ _ => hs)
    ⟨bO, Below.refl _ _⟩
    (fun x => { tmps := #[sval S, .int .i64 e, .pointer (some ⟨L.pi, 0, none⟩), .pointer (some ⟨L.pe, 0, none⟩), .pointer (some ⟨L.pt, 0, none⟩), .pointer (some ⟨w.heap.size, 0, none⟩), .pointer (some ⟨w.heap.size + 1, 0, none⟩), .pointer (some ⟨w.heap.size + 1 + 1, 0, none⟩), .pointer (some ⟨w.heap.size + 1 + 1 + 1, 0, none⟩), .int .i64 (x.1 : Int), undef, isV L.pb, .int .i64 e, .bool true, .bool false, undef, sval S, .func (.func 122) #[] #[.pointer (some ⟨w.heap.size + 4, 0, none⟩)], .int .i64 (x.1 : Int), undef, undef, undef, undef, undef, undef, undef, undef, undef, undef, undef, undef, undef, undef, undef, undef], defers := [] }) ?assign ?body ?done ?stop
  case assign =>
    intro l x W K hK
    gi_wp2
    exact hK
  case body =>
    rintro l' pre x W ⟨hO, hB⟩ hlt
    have hLW := hL0.below hB hLl
    have hEW : Boxed W (w.heap.size + 1) 3 (.int .i64 e) := (hB.block _ (by omega)).trans bE
    obtain ⟨p, hp⟩ : ∃ p, p = x.1 * ev + e := ⟨_, rfl⟩
    have hpN : p < st * ev := by rw [hp]; exact lead1_ix x.2 he
    obtain ⟨q, hq⟩ : ∃ q, q = x.1 * ev := ⟨_, rfl⟩
    have hN2 : st * ev ≤ 2048 := Nat.mul_le_mul hst hev8
    have hw1 : IntKind.i64.wrap ((x.1 : Int) * (ev : Int)) = (q : Int) := by
      rw [IntKind.wrap_i64, ← Int.natCast_mul, ← hq]; omega
    have hw2 : IntKind.i64.wrap ((q : Int) + (e : Int)) = (p : Int) := by rw [IntKind.wrap_i64]; omega
    have HP := Hid.of hp
    obtain ⟨N, HN⟩ : ∃ N, Hid (N = st * ev) := ⟨_, rfl⟩
    rw [← HN.out] at hpN hN2 hLW
    have hp0 : (0 : Int) ≤ (p : Int) := by omega
    have hpI : (p : Int) < (N : Int) := by omega
    have hpD : decide ((p : Int) < (N : Int)) = true := by simpa using hpI
    clear hp hq
    obtain ⟨t0, t1, t2, t3⟩ := hLW.tab.cells hpN
    obtain ⟨o0, o1, o2, o3⟩ := hO.cells
    have d1 := hLW.to.cell
    have d2 := hEW.cell
    have d3 := hLW.evb.cell
    have fO := hO.frozen
    have mx : Tryd.prog.follows .mixedOrders = true := by kernel_rfl
    have hOk : Hid (okS (leadF T ev e (nbNats pre))) := ok_leadF hTok _
    have hTp : Hid (okS (T p)) := hTok p
    have HX : Hid (leadF T ev e (nbNats (pre ++ [x])) = joinS (leadF T ev e (nbNats pre)) (T p)) := by show _ = _; rw [nbNats_snoc, leadF_snoc, HP.out]
    have hOd : Hid (SB W.drew (w.heap.size + 1 + 1 + 1) (leadF T ev e (nbNats pre))) := hO
    have HB := Hid.of hB
    have HO := Hid.of hO
    clear hLW hB hO hEW
    generalize leadF T ev e (nbNats pre) = O at *
    gi_wp2
    gi_region_with_o (refine ⟨trivial, ?_⟩; refine CallsIn.mono (CallsIn.inRound l' (callsIn_wide.2 (join_any O (T p) _ hOk.out hTp.out))) ?_; rintro e' w1 ⟨rfl, hb1⟩; have hO1 := Blk.below hOd.out hb1 hOd.out.lt; obtain ⟨y0, y1, y2, y3⟩ := SB.cells hO1; have fO1 := Blk.frozen hO1)
    all_goals
      have k1 : KeepsOthers W w1 := ⟨hb1.size, fun k o hk _ => (hb1.block k (Array.getElem?_eq_some_iff.1 hk).1).trans hk⟩
      have k2 : Below (w.heap.size + 3) W w1 := ((Below.refl _ W).drew).trans (hb1.mono (Nat.le_of_lt HO.out.lt))
      have k3 := below_set4 k2 (b' := w.heap.size + 1 + 1 + 1) (Nat.le_refl _) (.int .u64 (joinS O (T p) 0)) (.int .u64 (joinS O (T p) 1)) (.int .u64 (joinS O (T p) 2)) (.int .u64 (joinS O (T p) 3))
      exact ⟨((((k1.trans (KeepsOthers.setCell _ _ _)).trans (KeepsOthers.setCell _ _ _)).trans (KeepsOthers.setCell _ _ _)).trans (KeepsOthers.setCell _ _ _)).from _, k3, by rw [HX.out]; exact SB.set4 hO1 _, HB.out.trans k3⟩
  case done =>
    rintro D ys W hD rfl ⟨hO, hB⟩ hK
    have hBW : Below w.heap.size w W := hB0.trans (hB.mono (by omega))
    obtain ⟨o0, o1, o2, o3⟩ := hO.cells
    have HQ : Hid (leadF T ev e (nbNats ys) = leadF T ev e (allS S)) := by show _ = _; rw [← hxs]; rfl
    have hres := bR.below hB (by omega)
    obtain ⟨r0, r1, r2, r3⟩ := SB.cells hres
    have rz := hres.frozen
    have k2 := Hid.of (SB.set4 hres (leadF T ev e (nbNats ys)))
    have k3 := Hid.of (below_set4 hBW (b' := w.heap.size + 1 + 1) (by omega) (.int .u64 (leadF T ev e (nbNats ys) 0)) (.int .u64 (leadF T ev e (nbNats ys) 1)) (.int .u64 (leadF T ev e (nbNats ys) 2)) (.int .u64 (leadF T ev e (nbNats ys) 3)))
    have hMk : Marks w.heap.size [D] W := by
      refine ⟨fun D' hD' => ?_, by simp⟩
      have e : D' = D := by simpa using hD'
      rw [e]
      exact ⟨by omega, hK⟩
    have k4 := Hid.of (hMk.other4 hres (leadF T ev e (nbNats ys)))
    clear hMk
    clear hO hBW hB hres hK
    generalize leadF T ev e (nbNats ys) = O at *
    gi_wp2
    refine leaves_marks (B := w.heap.size) (fun W => SB W (w.heap.size + 1 + 1) O ∧ Below w.heap.size w W) ?hJ ?hfin [D] _ k4.out ⟨k2.out, k3.out⟩
    case hJ =>
      rintro W D ⟨h1, h2⟩ hD hk
      refine ⟨(World.putObj_heap_other (fun e => ?_)).trans h1, h2.trans (belowK_b (w := w) (Nat.le_refl _) W D _ _ hD hk rfl rfl)⟩
      have h3 : W.heap[w.heap.size + 1 + 1]? = _ := h1
      rw [e, hk] at h3
      cases h3
    case hfin =>
      rintro W ⟨h1, h2⟩
      exact ⟨_, results_cell_row (g := w.heap.size + 1 + 1) (p := 7) rfl _ _ _ _ _ _ rfl h1 Tryd.underlying62 rfl (by kernel_rfl), by rw [← HQ.out], h2⟩
  case stop =>
    rintro D c pre W _ _ h _
    exact h.elim

theorem lead1_any (st ev e : Nat) (L : LB) (T : Nat → Nat → Nat) (hTok : ∀ p, okS (T p)) (S : Nat → Nat) (hS : okS S) (hall : ∀ k ∈ allS S, k < st) (he : e < ev) (hev8 : ev ≤ 8) (hst : st ≤ 256)
    (w : World) (hT : Tab w) (hL : LD w L ev (st * ev) T) :
    Calls Tryd.prog 112 #[sval S, .int .i64 e, .pointer (some ⟨L.pi, 0, none⟩), .pointer (some ⟨L.pe, 0, none⟩), .pointer (some ⟨L.pt, 0, none⟩)] w fun e' W' => e' = .returned (sval (leadF T ev e (allS S))) ∧ Below w.heap.size w W' :=
  callsIn_wide.1 (lead1_in st ev e L T hTok S hS hall he hev8 hst w hT hL)

end Go.Proofs.YtdnglodemkeooaaDoor
namespace Go.Proofs.YtdnglodemkeooaaDoor
open Go.RowKit
set_option linter.unusedVariables false

/-- What machine.Leader answers, of what may be. -/
theorem leader_any (m : Mach) (l : ML) (w : World) (hm : mayB m = true) (h : MAt w m l) :
    Calls Tryd.prog 82 #[mval m l] w fun e w' => ∃ L, e = .returned (leadV L) ∧ LD w' L m.ev.toNat (m.st.toNat * m.ev.toNat) (tabS m.ev.toNat m.arrows) ∧ L.all (w.heap.size ≤ ·) ∧ Below w.heap.size w w' := by
  have hz := mayB_size hm
  have ha := arrsFrom_in (mayB_arrs hm)
  obtain ⟨st, ev, starts, arrows, ends⟩ := m
  obtain ⟨z1, z2, z3, z4, z5⟩ := hz
  simp only at z1 z2 z3 z4 z5 ha
  obtain ⟨s, rfl⟩ : ∃ s : Nat, st = (s : Int) := ⟨st.toNat, by omega⟩
  obtain ⟨e, rfl⟩ : ∃ e : Nat, ev = (e : Int) := ⟨ev.toNat, by omega⟩
  obtain ⟨a1, c1, a2, c2, a3, c3⟩ := l
  simp only [Int.toNat_natCast]
  exact leader_go s e starts arrows ends a1 c1 a2 c2 a3 c3 w (Hid.of h) (Hid.of hm) (by omega) (by omega) z5 (Hid.of ha)

theorem LD.other4 {W : World} {L : LB} {b' ev N : Nat} {T : Nat → Nat → Nat} (h : LD W L ev N T) (hn : L.all (· ≠ b')) (v0 v1 v2 v3 : Value) : LD ((((W.setCell ⟨b', 0, none⟩ v0).setCell ⟨b', 1, none⟩ v1).setCell ⟨b', 2, none⟩ v2).setCell ⟨b', 3, none⟩ v3) L ev N T := by
  obtain ⟨cs, c1, c2, c3⟩ := h.tab
  exact ⟨Blk.other4' h.is 0 hn.1 v0 v1 v2 v3, Blk.other4' h.evb 0 hn.2.1 v0 v1 v2 v3, Blk.other4' h.to 0 hn.2.2.1 v0 v1 v2 v3, ⟨cs, Blk.other4' c1 0 hn.2.2.2.1 v0 v1 v2 v3, c2, c3⟩, Blk.other4' h.bd 0 hn.2.2.2.2 v0 v1 v2 v3⟩
theorem LD.alloc {W : World} {L : LB} {ev N : Nat} {T : Nat → Nat → Nat} (h : LD W L ev N T) (o : Obj) : LD (W.alloc o) L ev N T := h.kept ((Below.refl _ _).alloc (Nat.le_refl _) o)
end Go.Proofs.YtdnglodemkeooaaDoor
namespace Go.Proofs.YtdnglodemkeooaaDoor
open Go.RowKit
set_option linter.unusedVariables false

theorem results_set {fn : Func} {p u : Tmp} (h : fn.results = #[.cell p 62, .tmp u]) (tmps : Array Value) (w : World) (g : Nat) (S : Nat → Nat) (c : Int) (hp : tmps.getD p undef = .pointer (some ⟨g, 0, none⟩)) (hu : tmps.getD u undef = .int .i64 c) (hS : SB w g S) :
    (results fn tmps).run Tryd.prog w = .ok (.tuple #[sval S, .int .i64 c]) w := by
  rw [results_cell_tmp h, hp, hu]
  have := run_loadVar_row w g 62 62 (scells S) (0, 0) _ hS Tryd.underlying62 rfl (by kernel_rfl)
  simp [asAddr, this, Result.andThen]

theorem mcell_of {W : World} {b : Nat} {m : Mach} {l : ML} (h : Blk W b 25 (mcells m l)) : W.cell? ⟨b, 0, none⟩ = some (.int .i64 m.st) ∧ W.cell? ⟨b, 1, none⟩ = some (.int .i64 m.ev) ∧ W.cell? ⟨b, 2, none⟩ = some (.slice l.a1 m.starts.length l.c1) ∧ W.cell? ⟨b, 3, none⟩ = some (.slice l.a2 m.arrows.length l.c2) ∧ W.cell? ⟨b, 4, none⟩ = some (.slice l.a3 m.ends.length l.c3) :=
  ⟨h.cell 0 rfl, h.cell 1 rfl, h.cell 2 rfl, h.cell 3 rfl, h.cell 4 rfl⟩

set_option maxRecDepth 100000 in
set_option maxHeartbeats 4000000 in
theorem after_form1 (m : Mach) (l : ML) (sa wa : Option Addr) (sc wc : Nat) (ss word : List Int) (w : World) (h : MAt w m l) (hm : Hid (mayB m = false)) :
    Calls Tryd.prog 49 #[mval m l, .slice sa ss.length sc, .slice wa word.length wc] w fun e w' => e = .returned (.tuple #[sval zeroS, .int .i64 2]) ∧ Below w.heap.size w w' := by
  have b1 : SB ((w.alloc (.cells (mcells m l) 25)).alloc (.cells (scells zeroS) 62)) (w.heap.size + 1) zeroS := by
    have := Blk.new (w.alloc (.cells (mcells m l) 25)) 62 (scells zeroS)
    rwa [World.size_alloc] at this
  have b0 : Below w.heap.size w ((w.alloc (.cells (mcells m l) 25)).alloc (.cells (scells zeroS) 62)) := ((Below.refl _ _).alloc (Nat.le_refl _) _).alloc (by simp) _
  have h' := Hid.of (h.below b0 (Nat.le_refl _))
  have B1 := Hid.of b1
  have B0 := Hid.of b0
  clear b0 b1
  go_enter Tryd.func49, Tryd.ntmps49
  go_wp2_with fail
  refine (pMay_any m l _ h'.out).mono ?_
  rintro e w1 ⟨rfl, hb1⟩
  rw [hm.out]
  have s1 := B1.out.below hb1 B1.out.lt
  obtain ⟨r0, r1, r2, r3⟩ := SB.cells s1
  have fz := s1.frozen
  have S1 := Hid.of s1
  have HB := Hid.of (B0.out.trans (hb1.mono B0.out.size))
  clear hb1 s1
  go_wp2
  refine bodyPost_ret (v := .tuple #[sval zeroS, .int .i64 2]) ?_ rfl ⟨rfl, below_set4 HB.out (b' := w.heap.size + 1) (by omega) _ _ _ _⟩
  exact results_set (p := 6) (u := 7) rfl _ _ (w.heap.size + 1) zeroS 2 rfl rfl (SB.set4 S1.out zeroS)

set_option maxRecDepth 100000 in
set_option maxHeartbeats 4000000 in
theorem after_form2 (m : Mach) (l : ML) (sa wa : Option Addr) (sc wc : Nat) (ss word : List Int) (w : World) (h : MAt w m l) (hm : Hid (mayB m = true)) (hs : Hid (At w sa ss)) (hl : Hid (ss.length ≤ maxLen)) (hr : Hid (rowB m.st ss = false)) :
    Calls Tryd.prog 49 #[mval m l, .slice sa ss.length sc, .slice wa word.length wc] w fun e w' => e = .returned (.tuple #[sval zeroS, .int .i64 2]) ∧ Below w.heap.size w w' := by
  have b1 : SB ((w.alloc (.cells (mcells m l) 25)).alloc (.cells (scells zeroS) 62)) (w.heap.size + 1) zeroS := by
    have := Blk.new (w.alloc (.cells (mcells m l) 25)) 62 (scells zeroS)
    rwa [World.size_alloc] at this
  have b0 : Below w.heap.size w ((w.alloc (.cells (mcells m l) 25)).alloc (.cells (scells zeroS) 62)) := ((Below.refl _ _).alloc (Nat.le_refl _) _).alloc (by simp) _
  have h' := Hid.of (h.below b0 (Nat.le_refl _))
  have B1 := Hid.of b1
  have B0 := Hid.of b0
  have K1 := Hid.of ((Blk.new w 25 (mcells m l)).alloc (.cells (scells zeroS) 62))
  clear b0 b1
  go_enter Tryd.func49, Tryd.ntmps49
  go_wp2_with fail
  refine (pMay_any m l _ h'.out).mono ?_
  rintro e w1 ⟨rfl, hb1⟩
  rw [hm.out]
  have s1 := B1.out.below hb1 B1.out.lt
  have k1 := K1.out.below hb1 K1.out.lt
  have x0 : w1.cell? ⟨w.heap.size, 0, none⟩ = some (.int .i64 m.st) := k1.cell 0 rfl
  obtain ⟨r0, r1, r2, r3⟩ := SB.cells s1
  have fz := s1.frozen
  have S1 := Hid.of s1
  have HB := Hid.of (B0.out.trans (hb1.mono B0.out.size))
  clear hb1 s1 k1
  go_wp2_with fail
  refine (rowIs_any sa sc ss m.st _ (hs.out.below HB.out (Nat.le_refl _)) hl.out).mono ?_
  rintro e w2 ⟨rfl, rfl⟩
  rw [hr.out]
  clear x0
  go_wp2
  refine bodyPost_ret (v := .tuple #[sval zeroS, .int .i64 2]) ?_ rfl ⟨rfl, below_set4 HB.out (b' := w.heap.size + 1) (by omega) _ _ _ _⟩
  exact results_set (p := 6) (u := 7) rfl _ _ (w.heap.size + 1) zeroS 2 rfl rfl (SB.set4 S1.out zeroS)

set_option maxRecDepth 100000 in
set_option maxHeartbeats 4000000 in
theorem after_range (m : Mach) (l : ML) (sa wa : Option Addr) (sc wc : Nat) (ss word : List Int) (w : World) (h : MAt w m l) (hm : Hid (mayB m = true)) (hs : Hid (At w sa ss)) (hl : Hid (ss.length ≤ maxLen)) (hr : Hid (rowB m.st ss = true)) (hv : Hid (At w wa word)) (hwl : Hid (word.length ≤ maxLen)) (hwd : Hid (wordB m.ev word = false)) :
    Calls Tryd.prog 49 #[mval m l, .slice sa ss.length sc, .slice wa word.length wc] w fun e w' => e = .returned (.tuple #[sval zeroS, .int .i64 6]) ∧ Below w.heap.size w w' := by
  have b1 : SB ((w.alloc (.cells (mcells m l) 25)).alloc (.cells (scells zeroS) 62)) (w.heap.size + 1) zeroS := by
    have := Blk.new (w.alloc (.cells (mcells m l) 25)) 62 (scells zeroS)
    rwa [World.size_alloc] at this
  have b0 : Below w.heap.size w ((w.alloc (.cells (mcells m l) 25)).alloc (.cells (scells zeroS) 62)) := ((Below.refl _ _).alloc (Nat.le_refl _) _).alloc (by simp) _
  have h' := Hid.of (h.below b0 (Nat.le_refl _))
  have B1 := Hid.of b1
  have B0 := Hid.of b0
  have K1 := Hid.of ((Blk.new w 25 (mcells m l)).alloc (.cells (scells zeroS) 62))
  clear b0 b1
  go_enter Tryd.func49, Tryd.ntmps49
  go_wp2_with fail
  refine (pMay_any m l _ h'.out).mono ?_
  rintro e w1 ⟨rfl, hb1⟩
  rw [hm.out]
  have s1 := B1.out.below hb1 B1.out.lt
  have k1 := K1.out.below hb1 K1.out.lt
  have x0 : w1.cell? ⟨w.heap.size, 0, none⟩ = some (.int .i64 m.st) := k1.cell 0 rfl
  obtain ⟨r0, r1, r2, r3⟩ := SB.cells s1
  have fz := s1.frozen
  have S1 := Hid.of s1
  have HB := Hid.of (B0.out.trans (hb1.mono B0.out.size))
  have K2 := Hid.of k1
  clear hb1 s1 k1
  go_wp2_with fail
  refine (rowIs_any sa sc ss m.st _ (hs.out.below HB.out (Nat.le_refl _)) hl.out).mono ?_
  rintro e w2 ⟨rfl, rfl⟩
  rw [hr.out]
  obtain ⟨x0', x1, x2, x3, x4⟩ := mcell_of K2.out
  go_wp2_with fail
  refine (isWord_any m l wc wa word _ (hv.out.below HB.out (Nat.le_refl _)) hwl.out).mono ?_
  rintro e w3 ⟨rfl, hb3⟩
  rw [hwd.out]
  clear x0 x0' x1 x2 x3 x4 r0 r1 r2 r3 fz
  have s3 := S1.out.below hb3 S1.out.lt
  obtain ⟨r0, r1, r2, r3⟩ := SB.cells s3
  have fz := s3.frozen
  have S3 := Hid.of s3
  have HB3 := Hid.of (HB.out.trans (hb3.mono HB.out.size))
  clear hb3 s3
  go_wp2
  refine bodyPost_ret (v := .tuple #[sval zeroS, .int .i64 6]) ?_ rfl ⟨rfl, below_set4 HB3.out (b' := w.heap.size + 1) (by omega) _ _ _ _⟩
  exact results_set (p := 6) (u := 7) rfl _ _ (w.heap.size + 1) zeroS 6 rfl rfl (SB.set4 S3.out zeroS)

end Go.Proofs.YtdnglodemkeooaaDoor
