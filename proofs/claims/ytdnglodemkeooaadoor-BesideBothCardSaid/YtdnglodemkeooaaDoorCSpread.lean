/-
  The walk of reach.spread: what a set leads to, in any number of steps.
-/
import Derived.Test.YtdnglodemkeooaaDoorG11
import Derived.Test.YtdnglodemkeooaaDoorG07
namespace Go.Proofs.YtdnglodemkeooaaDoor
open Go.RowKit Go.Shelf
set_option linter.unusedVariables false
attribute [local go_sem] Oper.semAt_some

/-- A set as it lies in a block: for a measure. -/
def wordAt (W : World) (b j : Nat) : Nat := match W.cell? ⟨b, j, none⟩ with
  | some (.int _ x) => x.toNat
  | _ => 0
def setAt (W : World) (b : Nat) : Nat → Nat := fun j => wordAt W b j
theorem SB.msr {W : World} {b b' : Nat} {S T : Nat → Nat} (h : SB W b S) (h' : SB W b' T) : msr (setAt W b) (setAt W b') = msr S T := by
  obtain ⟨p0, p1, p2, p3⟩ := h.cells
  obtain ⟨q0, q1, q2, q3⟩ := h'.cells
  unfold Proofs.YtdnglodemkeooaaDoor.msr allS emptyB
  simp only [fromS, setAt, wordAt, p0, p1, p2, p3, q0, q1, q2, q3, Int.toNat_natCast]

/-- The marks that ranges over a function leave among the deferred calls. -/
def mark (D : Nat) : Deferred := { target := .collected D, args := #[] }
structure Marks (B : Nat) (Ds : List Nat) (W : World) : Prop where
  at' : ∀ D ∈ Ds, B ≤ D ∧ W.heap[D]? = some (.deferred (some []))
  nd : Ds.Nodup
theorem Marks.lt {B : Nat} {Ds : List Nat} {W : World} (h : Marks B Ds W) : ∀ D ∈ Ds, D < W.heap.size := fun D hD => (Array.getElem?_eq_some_iff.1 (h.at' D hD).2).1
theorem Marks.below {B B' : Nat} {Ds : List Nat} {W W' : World} (h : Marks B Ds W) (hb : Below B' W W') (hB : ∀ D ∈ Ds, D < B') : Marks B Ds W' :=
  ⟨fun D hD => ⟨(h.at' D hD).1, (hb.block D (hB D hD)).trans (h.at' D hD).2⟩, h.nd⟩
theorem Marks.other {B : Nat} {Ds : List Nat} {W : World} {t : TypeId} {cs : Array Value} {b j : Nat} (h : Marks B Ds W) (hb : Blk W b t cs) (v : Value) : Marks B Ds (W.setCell ⟨b, j, none⟩ v) :=
  ⟨fun D hD => ⟨(h.at' D hD).1, by
    have hne : D ≠ b := fun e => by have := (h.at' D hD).2; rw [e, show W.heap[b]? = _ from hb] at this; cases this
    exact (Below.heap_setCell W ⟨b, j, none⟩ v D hne).trans (h.at' D hD).2⟩, h.nd⟩
theorem Marks.other4 {B : Nat} {Ds : List Nat} {W : World} {b : Nat} {S : Nat → Nat} (h : Marks B Ds W) (hb : SB W b S) (T : Nat → Nat) : Marks B Ds ((((W.setCell ⟨b, 0, none⟩ (.int .u64 (T 0))).setCell ⟨b, 1, none⟩ (.int .u64 (T 1))).setCell ⟨b, 2, none⟩ (.int .u64 (T 2))).setCell ⟨b, 3, none⟩ (.int .u64 (T 3))) :=
  (((h.other hb _).other (hb.set 0 _) _).other ((hb.set 0 _).set 1 _) _).other (((hb.set 0 _).set 1 _).set 2 _) _
/-- Marks are taken off one by one. -/
theorem leaves_marks {F : Fence} {n : Nat} {P : Program} {fn : Func} {tmps : Array Value} {R : Ending → World → Prop} {B : Nat} (J : World → Prop) (hJ : ∀ W D, J W → B ≤ D → W.heap[D]? = some (.deferred (some [])) → J (W.putObj D (.deferred none))) (hfin : ∀ W, J W → LeavesInM F n P fn tmps R [] .returning W) :
    ∀ (Ds : List Nat) (W : World), Marks B Ds W → J W → LeavesInM F n P fn tmps R (Ds.map mark) .returning W
  | [], W, _, h => hfin W h
  | D :: r, W, hm, h => by
    have h1 := hm.at' D (by simp)
    refine ⟨by simp, .inl ⟨D, _, rfl, run_takeDeferred h1.2, leaves_marks J hJ hfin r _ ⟨fun D' hD' => ?_, (List.nodup_cons.1 hm.nd).2⟩ (hJ W D h h1.1 h1.2)⟩⟩
    have h2 := hm.at' D' (by simp [hD'])
    have hne : D' ≠ D := fun e => (List.nodup_cons.1 hm.nd).1 (by rw [← e]; exact hD')
    exact ⟨h2.1, (World.putObj_heap_other (fun e => hne e)).trans h2.2⟩

/-- What holds of the world from round to round. -/
structure SpI (w W : World) (pg N bF bS : Nat) (Ds : List Nat) (fr to : Arr → Int) (ars : List Arr) (l : List Int) (F R : Nat → Nat) : Prop where
  sF : SB W bF F
  sR : SB W bS R
  res : SB W (w.heap.size + 2) zeroS
  box : Boxed W (w.heap.size + 1) 89 (.slice (some ⟨pg, 0, none⟩) N N)
  spr : Spr fr to ars l F R
  bel : Below w.heap.size w W
  mks : Marks w.heap.size Ds W

set_option maxRecDepth 100000 in
set_option maxHeartbeats 4000000 in
theorem spread_in (fr to : Arr → Int) (ars : List Arr) (l : List Int) (N : Nat) (hN : N ≤ 256) (hl : Hid (∀ x ∈ l, 0 ≤ x ∧ x < N)) (hin : Hid (∀ a ∈ ars, (0 ≤ fr a ∧ fr a < N) ∧ 0 ≤ to a ∧ to a < N)) (pg : Nat) (w : World) (hT : Tab w) (hTB : TB w pg N (tabK fr to ars)) :
    CallsIn Fence.wide 5 Tryd.prog 96 #[sval (ofS l), .slice (some ⟨pg, 0, none⟩) N N] w fun e W' => ∃ F, okS F ∧ e = .returned (sval F) ∧ (∀ x, x ∈ rowS F ↔ Rch fr to ars l x) ∧ Below w.heap.size w W' := by
  refine callsIn_of_wp_marks Tryd.func96 rfl trivial ?_ rfl
  simp only [Tryd.ntmps96, List.size_toArray, List.length_cons, List.length_nil, Nat.reduceAdd, Nat.reduceSub, Array.replicate_succ, Array.replicate_zero, List.push_toArray, List.append_toArray, List.nil_append, List.cons_append]
  refine wpIn_wide.2 ?_
  obtain ⟨F0, HF0⟩ : ∃ F0, Hid (F0 = ofS l) := ⟨_, rfl⟩
  rw [← HF0.out]
  go_wp2
  have b0 : SB (((w.alloc (.cells (scells F0) 62)).alloc (.cells #[.slice (some ⟨pg, 0, none⟩) N N] 89)).alloc (.cells (scells zeroS) 62)) w.heap.size F0 := ((Blk.new w _ _).alloc _).alloc _
  have b1 : Boxed (((w.alloc (.cells (scells F0) 62)).alloc (.cells #[.slice (some ⟨pg, 0, none⟩) N N] 89)).alloc (.cells (scells zeroS) 62)) (w.heap.size + 1) 89 (.slice (some ⟨pg, 0, none⟩) N N) := by
    have := (Boxed.new (w.alloc (.cells (scells F0) 62)) 89 (.slice (some ⟨pg, 0, none⟩) N N)).alloc (.cells (scells zeroS) 62)
    rwa [World.size_alloc] at this
  have b2 : SB (((w.alloc (.cells (scells F0) 62)).alloc (.cells #[.slice (some ⟨pg, 0, none⟩) N N] 89)).alloc (.cells (scells zeroS) 62)) (w.heap.size + 2) zeroS := by
    have := Blk.new ((w.alloc (.cells (scells F0) 62)).alloc (.cells #[.slice (some ⟨pg, 0, none⟩) N N] 89)) 62 (scells zeroS)
    rwa [World.size_alloc, World.size_alloc] at this
  have hB : Below w.heap.size w (((w.alloc (.cells (scells F0) 62)).alloc (.cells #[.slice (some ⟨pg, 0, none⟩) N N] 89)).alloc (.cells (scells zeroS) 62)) := (((Below.refl _ _).alloc (Nat.le_refl _) _).alloc (by simp) _).alloc (by simp; omega) _
  have hsz : (((w.alloc (.cells (scells F0) 62)).alloc (.cells #[.slice (some ⟨pg, 0, none⟩) N N] 89)).alloc (.cells (scells zeroS) 62)).heap.size = w.heap.size + 3 := by simp
  revert b0 b1 b2 hB hsz
  show SB (((w.alloc (.cells (scells F0) 62)).alloc (.cells #[.slice (some ⟨pg, 0, none⟩) N N] 89)).alloc (.cells #[.int .u64 0, .int .u64 0, .int .u64 0, .int .u64 0] 62)) w.heap.size F0 → Boxed (((w.alloc (.cells (scells F0) 62)).alloc (.cells #[.slice (some ⟨pg, 0, none⟩) N N] 89)).alloc (.cells #[.int .u64 0, .int .u64 0, .int .u64 0, .int .u64 0] 62)) (w.heap.size + 1) 89 (.slice (some ⟨pg, 0, none⟩) N N) → SB (((w.alloc (.cells (scells F0) 62)).alloc (.cells #[.slice (some ⟨pg, 0, none⟩) N N] 89)).alloc (.cells #[.int .u64 0, .int .u64 0, .int .u64 0, .int .u64 0] 62)) (w.heap.size + 2) zeroS → Below w.heap.size w (((w.alloc (.cells (scells F0) 62)).alloc (.cells #[.slice (some ⟨pg, 0, none⟩) N N] 89)).alloc (.cells #[.int .u64 0, .int .u64 0, .int .u64 0, .int .u64 0] 62)) → (((w.alloc (.cells (scells F0) 62)).alloc (.cells #[.slice (some ⟨pg, 0, none⟩) N N] 89)).alloc (.cells #[.int .u64 0, .int .u64 0, .int .u64 0, .int .u64 0] 62)).heap.size = w.heap.size + 3 → _
  generalize ((w.alloc (.cells (scells F0) 62)).alloc (.cells #[.slice (some ⟨pg, 0, none⟩) N N] 89)).alloc (.cells #[.int .u64 0, .int .u64 0, .int .u64 0, .int .u64 0] 62) = V
  intro b0 b1 b2 hB hsz
  refine Code.wp_mono (Q := regQ fun a' W' => ∃ bF bS : Nat, a' = { tmps := #[sval F0, .slice (some ⟨pg, 0, none⟩) N N, .pointer (some ⟨w.heap.size, 0, none⟩), .pointer (some ⟨w.heap.size + 1, 0, none⟩), .pointer (some ⟨w.heap.size + 1 + 1, 0, none⟩), .pointer (some ⟨bF, 0, none⟩), .pointer (some ⟨bS, 0, none⟩), undef, undef, sval F0, sval F0, undef, undef, undef, undef, undef, undef, undef, undef, undef, undef, undef, undef, undef, undef, undef, undef, undef, undef, undef], defers := [] } ∧ SB W' bF F0 ∧ SB W' bS F0 ∧ bF ≠ bS ∧ w.heap.size + 2 < bF ∧ w.heap.size + 2 < bS ∧ Below (w.heap.size + 3) V W') ?aft ?reg
  case reg =>
    obtain ⟨p0, p1, p2, p3⟩ := b0.cells
    have k1 : SB ((V.alloc (.cells (scells F0) 62)).alloc (.cells (scells F0) 62)).drew (w.heap.size + 3) F0 := by
      have := (Blk.new V 62 (scells F0)).alloc (.cells (scells F0) 62)
      rw [hsz] at this
      exact this.drew
    have k2 : SB ((V.alloc (.cells (scells F0) 62)).alloc (.cells (scells F0) 62)).drew (w.heap.size + 3 + 1) F0 := by
      have := Blk.new (V.alloc (.cells (scells F0) 62)) 62 (scells F0)
      rw [World.size_alloc, hsz] at this
      exact this.drew
    have k3 : Below (w.heap.size + 3) V ((V.alloc (.cells (scells F0) 62)).alloc (.cells (scells F0) 62)).drew := (((Below.refl _ V).alloc (by omega) _).alloc (by simp; omega) _).drew
    have K1 := Hid.of k1
    have K2 := Hid.of k2
    have K3 := Hid.of k3
    clear k1 k2 k3
    go_region
    · exact ⟨w.heap.size + 3, w.heap.size + 3 + 1, rfl, K1.out, K2.out, by omega, by omega, by omega, K3.out⟩
    · exact ⟨w.heap.size + 3 + 1, w.heap.size + 3, rfl, K2.out, K1.out, by omega, by omega, by omega, K3.out⟩
  case aft =>
    refine regQ_imp ?_
    rintro a' X ⟨bF, bS, rfl, sF, sR, hne, hlF, hlS, hX⟩
    have hI0 : Hid (SpI w X pg N bF bS [] fr to ars l F0 F0) := ⟨sF, sR, b2.below hX (by omega), (hX.block _ (by omega)).trans b1, by rw [HF0.out]; exact spr_start (fun x hx => by have := hl.out x hx; omega), hB.trans (hX.mono (by omega)), ⟨fun D hD => by simp at hD, List.nodup_nil⟩⟩
    clear sF sR b0 b1 b2 hB hX
    have heq : ∀ (S : Nat → Nat) (w : World), (Op.equalIn 10000 62 (.agg #[.int .u64 (S 0), .int .u64 (S 1), .int .u64 (S 2), .int .u64 (S 3)]) (.agg #[.int .u64 0, .int .u64 0, .int .u64 0, .int .u64 0])).run Tryd.prog w = .ok (emptyB S) w := run_equalIn_set
    have hgd := run_guard_set
    go_wp2
    refine wp_loop (fun a' W' => ∃ (F R : Nat → Nat) (Ds : List Nat) (u7 u11 u12 u13 u14 u15 u23 u24 u25 u26 u27 u28 : Value), Hid (SpI w W' pg N bF bS Ds fr to ars l F R) ∧ a' = { tmps := #[sval F0, .slice (some ⟨pg, 0, none⟩) N N, .pointer (some ⟨w.heap.size, 0, none⟩), .pointer (some ⟨w.heap.size + 1, 0, none⟩), .pointer (some ⟨w.heap.size + 1 + 1, 0, none⟩), .pointer (some ⟨bF, 0, none⟩), .pointer (some ⟨bS, 0, none⟩), u7, undef, sval F0, sval F0, u11, u12, u13, u14, u15, undef, undef, undef, undef, undef, undef, undef, u23, u24, u25, u26, u27, u28, undef], defers := Ds.map mark }) (fun _ W' => msr (setAt W' bF) (setAt W' bS)) ?start ?round
    case start => exact ⟨F0, F0, [], _, _, _, _, _, _, _, _, _, _, _, _, hI0, rfl⟩
    case round =>
      clear hI0
      rintro a' W ⟨F, R, Ds, u7, u11, u12, u13, u14, u15, u23, u24, u25, u26, u27, u28, HI, rfl⟩
      obtain ⟨p0, p1, p2, p3⟩ := SB.cells HI.out.sR
      by_cases hE : emptyB R = true
      · obtain ⟨f0, f1, f2, f3⟩ := SB.cells HI.out.sF
        obtain ⟨r0, r1, r2, r3⟩ := SB.cells HI.out.res
        have rz := HI.out.res.frozen
        have k2 := Hid.of (SB.set4 HI.out.res F)
        have k3 := Hid.of (below_set4 HI.out.bel (b' := w.heap.size + 1 + 1) (by omega) (.int .u64 (F 0)) (.int .u64 (F 1)) (.int .u64 (F 2)) (.int .u64 (F 3)))
        have k4 := Hid.of (HI.out.mks.other4 HI.out.res F)
        go_wp2
        refine leaves_marks (B := w.heap.size) (fun W => SB W (w.heap.size + 2) F ∧ Below w.heap.size w W) ?hJ ?hfin Ds _ k4.out ⟨k2.out, k3.out⟩
        case hJ =>
          rintro W D ⟨h1, h2⟩ hD hk
          refine ⟨(World.putObj_heap_other (fun e => ?_)).trans h1, h2.trans (belowK_b (w := w) (Nat.le_refl _) W D _ _ hD hk rfl rfl)⟩
          have h3 : W.heap[w.heap.size + 2]? = _ := h1
          rw [e, hk] at h3
          cases h3
        case hfin =>
          rintro W ⟨h1, h2⟩
          exact ⟨_, results_cell_row (g := w.heap.size + 2) (p := 4) rfl _ _ _ _ _ _ rfl h1 Tryd.underlying62 rfl (by kernel_rfl), F, HI.out.spr.okF, rfl, spr_end (fun x hx => by have := hl.out x hx; omega) (fun a ha => by have := hin.out a ha; omega) HI.out.spr hE, h2⟩
      · have hE : emptyB R = false := by simpa using hE
        have hW := HI.out.sR.lt
        go_wp2_with (go_at_call 94; refine (all_any R _).mono ?_; rintro e w1 ⟨rfl, rfl⟩)
        have bO : SB ((W.alloc (.cells (scells zeroS) 62)).alloc (.cells (scells R) 62)) W.heap.size zeroS := (Blk.new W _ _).alloc _
        have bN : SB ((W.alloc (.cells (scells zeroS) 62)).alloc (.cells (scells R) 62)) (W.heap.size + 1) R := by
          have := Blk.new (W.alloc (.cells (scells zeroS) 62)) 62 (scells R)
          rwa [World.size_alloc] at this
        have hB0 : Below W.heap.size W ((W.alloc (.cells (scells zeroS) 62)).alloc (.cells (scells R) 62)) := ((Below.refl _ _).alloc (Nat.le_refl _) _).alloc (by simp) _
        have hsz0 : ((W.alloc (.cells (scells zeroS) 62)).alloc (.cells (scells R) 62)).heap.size = W.heap.size + 2 := by simp
        revert bO bN hB0 hsz0
        show SB ((W.alloc (.cells #[.int .u64 0, .int .u64 0, .int .u64 0, .int .u64 0] 62)).alloc (.cells (scells R) 62)) W.heap.size zeroS → SB ((W.alloc (.cells #[.int .u64 0, .int .u64 0, .int .u64 0, .int .u64 0] 62)).alloc (.cells (scells R) 62)) (W.heap.size + 1) R → Below W.heap.size W ((W.alloc (.cells #[.int .u64 0, .int .u64 0, .int .u64 0, .int .u64 0] 62)).alloc (.cells (scells R) 62)) → ((W.alloc (.cells #[.int .u64 0, .int .u64 0, .int .u64 0, .int .u64 0] 62)).alloc (.cells (scells R) 62)).heap.size = W.heap.size + 2 → _
        generalize (W.alloc (.cells #[.int .u64 0, .int .u64 0, .int .u64 0, .int .u64 0] 62)).alloc (.cells (scells R) 62) = W0
        intro bO bN hB0 hsz0
        clear p0 p1 p2 p3
        have hall : ∀ k ∈ allS R, k < N := fun k hk => by
          obtain ⟨k1, k2⟩ := (mem_allS R k).1 hk
          have := rch_bd hl.out (fun a ha => (hin.out a ha).2) (HI.out.spr.rch k k1 (HI.out.spr.sub k k1 k2))
          omega
        obtain ⟨xs, hxs⟩ := nb_of (N := N) (allS R) hall
        have hT0 := hT.below (HI.out.bel.trans (hB0.mono HI.out.bel.size)) hT.lt
        have hw0 := hT.lt
        have hwW := HI.out.bel.size
        have hTok := okS_tabK fr to ars
        obtain ⟨T, hTT⟩ : ∃ T, Hid (T = tabK fr to ars) := ⟨_, rfl⟩
        rw [← hTT.out] at hTok hTB
        refine (wpIn_wide (n := 5)).1 ?_
        refine wpIn_rangeFunc_ownG rfl (by omega) (gf := 122) (lb := #[.pointer (some ⟨W.heap.size + 1, 0, none⟩)]) rfl trivial (enters_of Tryd.func122 (by kernel_rfl) rfl)
          (all_stops 4 (by omega) (W.heap.size + 1) W.heap.size R HI.out.spr.okR xs hxs (by omega) W0 (by omega) bN hT0) belowK_t (belowK_b (by omega)) (Below.refl _ _) (fun _ => rfl)
          (fun pre W' => SB W' W.heap.size (toF T (nbNats pre)) ∧ Below W.heap.size W0 W')
          (fun _ _ _ => False)
          (OwnFrom.and (Go.Own.from (own_SB W.heap.size (fun pre : List (NB N) => toF T (nbNats pre))) _) (ownFrom_below (by omega) (by omega)))
          (fun _ _ _ _ _ hs _ _ => hs)
          ⟨bO, Below.refl _ _⟩
          (fun x => { tmps := #[sval F0, .slice (some ⟨pg, 0, none⟩) N N, .pointer (some ⟨w.heap.size, 0, none⟩), .pointer (some ⟨w.heap.size + 1, 0, none⟩), .pointer (some ⟨w.heap.size + 1 + 1, 0, none⟩), .pointer (some ⟨bF, 0, none⟩), .pointer (some ⟨bS, 0, none⟩), .pointer (some ⟨W.heap.size, 0, none⟩), .int .i64 (x.1 : Int), sval F0, sval F0, sval R, sval zeroS, .bool true, sval R, .func (.func 122) #[] #[.pointer (some ⟨W.heap.size + 1, 0, none⟩)], .int .i64 (x.1 : Int), undef, undef, undef, undef, undef, undef, u23, u24, u25, u26, u27, u28, undef], defers := [] }) ?assign ?body ?done ?stop
        case assign =>
          intro l x W K hK
          gi_wp2
          exact hK
        case body =>
          rintro l' pre x W' ⟨hO, hB'⟩ hlt
          have hBW := hB0.trans hB'
          have hTW := hTB.below (HI.out.bel.trans (hBW.mono HI.out.bel.size)) hTB.lt
          have c1 : W'.cell? ⟨w.heap.size + 1, 0, none⟩ = some (.slice (some ⟨pg, 0, none⟩) N N) := Boxed.cell ((hBW.block _ (by have := HI.out.box.lt; omega)).trans HI.out.box)
          have hx := x.2
          obtain ⟨n, hn⟩ : ∃ n, Hid (n = x.1) := ⟨_, rfl⟩
          rw [← hn.out] at hx ⊢
          obtain ⟨t0, t1, t2, t3⟩ := hTW.cells hx
          obtain ⟨o0, o1, o2, o3⟩ := hO.cells
          have fO := hO.frozen
          have mx : Tryd.prog.follows .mixedOrders = true := by kernel_rfl
          have hOk : Hid (okS (toF T (nbNats pre))) := ok_toF hTok _
          have hTp : Hid (okS (T n)) := hTok n
          have HX : Hid (toF T (nbNats (pre ++ [x])) = joinS (toF T (nbNats pre)) (T n)) := by show _ = _; rw [nbNats_snoc, toF_snoc, hn.out]
          have hn0 : (0 : Int) ≤ (n : Int) := by omega
          have hnI : (n : Int) < (N : Int) := by omega
          have hOd : Hid (SB W'.drew W.heap.size (toF T (nbNats pre))) := hO
          have HB := Hid.of hB'
          have HO := Hid.of hO
          clear hTW hBW hB' hO hTok
          generalize toF T (nbNats pre) = O at *
          gi_wp2
          gi_region_with_o (refine ⟨trivial, ?_⟩; refine CallsIn.mono (CallsIn.inRound l' (callsIn_wide.2 (join_any O (T n) _ hOk.out hTp.out))) ?_; rintro e' w1 ⟨rfl, hb1⟩; have hO1 := Blk.below hOd.out hb1 hOd.out.lt; obtain ⟨y0, y1, y2, y3⟩ := SB.cells hO1; have fO1 := Blk.frozen hO1)
          all_goals
            have k1 : KeepsOthers W' w1 := ⟨hb1.size, fun k o hk _ => (hb1.block k (Array.getElem?_eq_some_iff.1 hk).1).trans hk⟩
            have k2 : Below W.heap.size W' w1 := ((Below.refl _ W').drew).trans (hb1.mono (Nat.le_of_lt HO.out.lt))
            have k3 := below_set4 k2 (b' := W.heap.size) (Nat.le_refl _) (.int .u64 (joinS O (T n) 0)) (.int .u64 (joinS O (T n) 1)) (.int .u64 (joinS O (T n) 2)) (.int .u64 (joinS O (T n) 3))
            exact ⟨((((k1.trans (KeepsOthers.setCell _ _ _)).trans (KeepsOthers.setCell _ _ _)).trans (KeepsOthers.setCell _ _ _)).trans (KeepsOthers.setCell _ _ _)).from _, k3, by rw [HX.out]; exact SB.set4 hO1 _, HB.out.trans k3⟩
        case done =>
          rintro D ys W' hD rfl ⟨hO, hB'⟩ hK
          have hBW := hB0.trans hB'
          have sF := HI.out.sF.below hBW HI.out.sF.lt
          have sR := HI.out.sR.below hBW HI.out.sR.lt
          obtain ⟨f0, f1, f2, f3⟩ := SB.cells sF
          obtain ⟨o0, o1, o2, o3⟩ := hO.cells
          have hOt := Hid.of (ok_toF hTok (nbNats ys))
          have HQ : Hid (lessS (toF T (nbNats ys)) F = frS fr to ars F R) := by
            show _ = _
            unfold frS
            rw [← hTT.out, ← hxs]; rfl
          have hres := Hid.of (HI.out.res.below hBW HI.out.res.lt)
          have hbox := Hid.of (Blk.below HI.out.box hBW HI.out.box.lt)
          have hmks : Hid (Marks w.heap.size (D :: Ds) W') := by
            have h1 := HI.out.mks.below hBW HI.out.mks.lt
            refine ⟨fun D' hD' => ?_, List.nodup_cons.2 ⟨fun hm => ?_, h1.nd⟩⟩
            · rcases List.mem_cons.1 hD' with rfl | hD'
              · exact ⟨by omega, hK⟩
              · exact h1.at' D' hD'
            · have := HI.out.mks.lt D hm; omega
          have hbel := Hid.of (HI.out.bel.trans (hBW.mono HI.out.bel.size))
          have SF := Hid.of sF
          have SR := Hid.of sR
          clear sF sR hBW hB' hB0 bO bN hT0 hK
          generalize toF T (nbNats ys) = O at *
          go_wp2_with fail
          refine (less_any O F _ hOt.out HI.out.spr.okF).mono ?_
          rintro e w1 ⟨rfl, hb1⟩
          have sF1 := Hid.of (SF.out.below hb1 SF.out.lt)
          have sR1 := SR.out.below hb1 SR.out.lt
          have hres1 := Hid.of (hres.out.below hb1 hres.out.lt)
          have hbox1 := Hid.of (hbox.out.below hb1 hbox.out.lt)
          have hmks1 := Hid.of (hmks.out.below hb1 hmks.out.lt)
          have hbel1 := Hid.of (hbel.out.trans (hb1.mono hbel.out.size))
          clear hb1 f0 f1 f2 f3 o0 o1 o2 o3 SF SR hO
          rw [HQ.out]
          obtain ⟨R', HR'⟩ : ∃ R', Hid (R' = frS fr to ars F R) := ⟨_, rfl⟩
          rw [← HR'.out]
          have hok' : Hid (okS R') := by show okS R'; rw [HR'.out]; exact okS_less (ok_toF (okS_tabK fr to ars) _)
          obtain ⟨r0, r1, r2, r3⟩ := SB.cells sR1
          have fz := sR1.frozen
          have e1 := Hid.of (SB.set4 sR1 R')
          have e2 := Hid.of (Blk.other4 sF1.out (b' := bS) hne (.int .u64 (R' 0)) (.int .u64 (R' 1)) (.int .u64 (R' 2)) (.int .u64 (R' 3)))
          have e3 := Hid.of (Blk.other4 hres1.out (b' := bS) (by omega) (.int .u64 (R' 0)) (.int .u64 (R' 1)) (.int .u64 (R' 2)) (.int .u64 (R' 3)))
          have e4 := Hid.of (Blk.other4 hbox1.out (b' := bS) (by omega) (.int .u64 (R' 0)) (.int .u64 (R' 1)) (.int .u64 (R' 2)) (.int .u64 (R' 3)))
          have e5 := Hid.of (hmks1.out.other4 sR1 R')
          have e6 := Hid.of (below_set4 hbel1.out (b' := bS) (by omega) (.int .u64 (R' 0)) (.int .u64 (R' 1)) (.int .u64 (R' 2)) (.int .u64 (R' 3)))
          obtain ⟨g0, g1, g2, g3⟩ := SB.cells e2.out
          obtain ⟨h0, h1, h2, h3⟩ := SB.cells e1.out
          clear sF1 hres1 hbox1 hmks1 hbel1 hres hbox hmks hbel
          go_wp2_with fail
          clear g0 g1 g2 g3 h0 h1 h2 h3 r0 r1 r2 r3 fz sR1
          revert e1 e2 e3 e4 e5 e6
          generalize (((w1.setCell ⟨bS, 0, none⟩ (.int .u64 (R' 0))).setCell ⟨bS, 1, none⟩ (.int .u64 (R' 1))).setCell ⟨bS, 2, none⟩ (.int .u64 (R' 2))).setCell ⟨bS, 3, none⟩ (.int .u64 (R' 3)) = w2
          intro e1 e2 e3 e4 e5 e6
          refine (join_any F R' _ HI.out.spr.okF hok'.out).mono ?_
          rintro e w3 ⟨rfl, hb3⟩
          have f1 := e1.out.below hb3 e1.out.lt
          have f2 := e2.out.below hb3 e2.out.lt
          have f3 := e3.out.below hb3 e3.out.lt
          have f4 := e4.out.below hb3 e4.out.lt
          have f5 := e5.out.below hb3 e5.out.lt
          have f6 := e6.out.trans (hb3.mono e6.out.size)
          obtain ⟨F', HF'⟩ : ∃ F', Hid (F' = joinS F R') := ⟨_, rfl⟩
          rw [← HF'.out]
          obtain ⟨g0, g1, g2, g3⟩ := SB.cells f2
          have fz := f2.frozen
          have i1 := Hid.of (SB.set4 f2 F')
          have i2 := Hid.of (Blk.other4 f1 (b' := bF) (fun e => hne e.symm) (.int .u64 (F' 0)) (.int .u64 (F' 1)) (.int .u64 (F' 2)) (.int .u64 (F' 3)))
          have i3 := Hid.of (Blk.other4 f3 (b' := bF) (by omega) (.int .u64 (F' 0)) (.int .u64 (F' 1)) (.int .u64 (F' 2)) (.int .u64 (F' 3)))
          have i4 := Hid.of (Blk.other4 f4 (b' := bF) (by omega) (.int .u64 (F' 0)) (.int .u64 (F' 1)) (.int .u64 (F' 2)) (.int .u64 (F' 3)))
          have i5 := Hid.of (f5.other4 f2 F')
          have i6 := Hid.of (below_set4 f6 (b' := bF) (by omega) (.int .u64 (F' 0)) (.int .u64 (F' 1)) (.int .u64 (F' 2)) (.int .u64 (F' 3)))
          clear f1 f2 f3 f4 f5 f6 e1 e2 e3 e4 e5 e6 hb3
          go_wp2_with fail
          refine ⟨⟨F', R', D :: Ds, _, _, _, _, _, _, _, _, _, _, _, _, ⟨i1.out, i2.out, i3.out, i4.out, ?_, i6.out, i5.out⟩, rfl⟩, ?_⟩
          · rw [HF'.out, HR'.out]
            exact spr_step (fun a ha => by have := hin.out a ha; omega) HI.out.spr
          · rw [SB.msr i1.out i2.out, SB.msr HI.out.sF HI.out.sR, HF'.out, HR'.out]
            exact msr_lt HI.out.spr hE
        case stop =>
          rintro D c pre W' _ _ h _
          exact h.elim

theorem spread_any (fr to : Arr → Int) (ars : List Arr) (l : List Int) (N : Nat) (hN : N ≤ 256) (hl : ∀ x ∈ l, 0 ≤ x ∧ x < N) (hin : ∀ a ∈ ars, (0 ≤ fr a ∧ fr a < N) ∧ 0 ≤ to a ∧ to a < N) (pg : Nat) (w : World) (hT : Tab w) (hTB : TB w pg N (tabK fr to ars)) :
    Calls Tryd.prog 96 #[sval (ofS l), .slice (some ⟨pg, 0, none⟩) N N] w fun e W' => ∃ F, okS F ∧ e = .returned (sval F) ∧ (∀ x, x ∈ rowS F ↔ Rch fr to ars l x) ∧ Below w.heap.size w W' :=
  callsIn_wide.1 (spread_in fr to ars l N hN hl hin pg w hT hTB)

end Go.Proofs.YtdnglodemkeooaaDoor
