/-
  The walk of machine.after, where nothing is wrong.
-/
import Derived.Test.YtdnglodemkeooaaDoorG16
namespace Go.Proofs.YtdnglodemkeooaaDoor
open Go.RowKit
set_option linter.unusedVariables false

/-- What the walk knows behind the set-up: the set, the closure's things, the result's place. -/
structure AF (w W : World) (b8 : Nat) (L : LB) (m : Mach) (S : Nat → Nat) : Prop where
  s8 : SB W b8 S
  ld : LD W L m.ev.toNat (m.st.toNat * m.ev.toNat) (tabS m.ev.toNat m.arrows)
  res : SB W (w.heap.size + 1) zeroS
  bel : Below w.heap.size w W
  nb : L.all (· ≠ b8)
  n4 : w.heap.size + 1 < b8

theorem word_bd {ev : Int} : ∀ {xs : List Int}, wordB ev xs = true → ∀ {k : Nat} {x : Int}, k < xs.length → Hid (x = xs[k]?.getD 0) → 0 ≤ x ∧ x < ev
  | [], _, _, _, h, _ => by simp at h
  | y :: r, hw, k, x, h, hx => by
    unfold wordB at hw
    by_cases hc : y < 0 ∨ ev ≤ y
    · rw [if_pos hc] at hw; cases hw
    · rw [if_neg hc] at hw
      cases k with
      | zero => have e : x = y := by have := hx.out; simpa using this
                omega
      | succ j => exact word_bd hw (k := j) (by simpa using h) (show x = _ by have := hx.out; simpa using this)

theorem AF.step {w W W1 : World} {b8 : Nat} {L : LB} {m : Mach} {S : Nat → Nat} (h : AF w W b8 L m S) (hb : Below W.heap.size W W1) (T : Nat → Nat) :
    AF w ((((W1.setCell ⟨b8, 0, none⟩ (.int .u64 (T 0))).setCell ⟨b8, 1, none⟩ (.int .u64 (T 1))).setCell ⟨b8, 2, none⟩ (.int .u64 (T 2))).setCell ⟨b8, 3, none⟩ (.int .u64 (T 3))) b8 L m T :=
  ⟨SB.set4 (h.s8.below hb h.s8.lt) T, (h.ld.kept hb).other4 h.nb _ _ _ _, (h.res.below hb h.res.lt).other4 (by have := h.n4; omega) _ _ _ _, below_set4 (h.bel.trans (hb.mono h.bel.size)) (by have := h.n4; omega) _ _ _ _, h.nb, h.n4⟩

set_option maxRecDepth 100000 in
set_option maxHeartbeats 4000000 in
theorem after_ok (m : Mach) (l : ML) (sa wa : Option Addr) (sc wc : Nat) (ss word : List Int) (w : World) (h : MAt w m l) (hT : Hid (Tab w)) (hm : Hid (mayB m = true)) (hs : Hid (At w sa ss)) (hl : Hid (ss.length ≤ maxLen)) (hr : Hid (rowB m.st ss = true)) (hv : Hid (At w wa word)) (hwl : Hid (word.length ≤ maxLen)) (hwd : Hid (wordB m.ev word = true)) :
    Calls Tryd.prog 49 #[mval m l, .slice sa ss.length sc, .slice wa word.length wc] w fun e w' => ∃ S, Rep S (afterL m.arrows ss word) ∧ e = .returned (.tuple #[sval S, .int .i64 0]) ∧ Below w.heap.size w w' := by
  have b1 : SB ((w.alloc (.cells (mcells m l) 25)).alloc (.cells (scells zeroS) 62)) (w.heap.size + 1) zeroS := by
    have := Blk.new (w.alloc (.cells (mcells m l) 25)) 62 (scells zeroS)
    rwa [World.size_alloc] at this
  have b0 : Below w.heap.size w ((w.alloc (.cells (mcells m l) 25)).alloc (.cells (scells zeroS) 62)) := ((Below.refl _ _).alloc (Nat.le_refl _) _).alloc (by simp) _
  have h' := Hid.of (h.below b0 (Nat.le_refl _))
  have B1 := Hid.of b1
  have B0 := Hid.of b0
  have HM := Hid.of h
  have K1 := Hid.of ((Blk.new w 25 (mcells m l)).alloc (.cells (scells zeroS) 62))
  clear b0 b1 h
  have hmf : ∀ (fn : Fn) (first cap : Array Value) (w : World), (Instr.makeFunc fn first cap).run Tryd.prog w = .ok (.func fn first cap) w := fun _ _ _ _ => rfl
  go_enter Tryd.func49, Tryd.ntmps49
  go_wp2_with fail
  refine (pMay_any m l _ h'.out).mono ?_
  rintro e w1 ⟨rfl, hb1⟩
  rw [hm.out]
  have s1 := B1.out.below hb1 B1.out.lt
  have k1 := K1.out.below hb1 K1.out.lt
  have x0 : w1.cell? ⟨w.heap.size, 0, none⟩ = some (.int .i64 m.st) := k1.cell 0 rfl
  have S1 := Hid.of s1
  have HB := Hid.of (B0.out.trans (hb1.mono B0.out.size))
  have K2 := Hid.of k1
  clear hb1 s1 k1
  go_wp2_with fail
  refine (rowIs_any sa sc ss m.st _ (hs.out.below HB.out (Nat.le_refl _)) hl.out).mono ?_
  rintro e w2 ⟨rfl, rfl⟩
  rw [hr.out]
  obtain ⟨x0', x1, x2, x3, x4⟩ := mcell_of K2.out
  go_wp2_with fail
  refine (isWord_any m l wc wa word _ (hv.out.below HB.out (Nat.le_refl _)) hwl.out).mono ?_
  rintro e V ⟨rfl, hb3⟩
  rw [hwd.out]
  clear x0 x0' x1 x2 x3 x4
  have S3 := Hid.of (S1.out.below hb3 S1.out.lt)
  have K3 := Hid.of (K2.out.below hb3 K2.out.lt)
  have HB3 := Hid.of (HB.out.trans (hb3.mono HB.out.size))
  clear hb3 S1 K2 HB B1 B0 K1 h'
  go_wp2_with fail
  have hsz := HB3.out.size
  have hlt1 := S3.out.lt
  obtain ⟨x0, x1, x2, x3, x4⟩ := mcell_of K3.out
  have hbd : Hid (∀ x ∈ ss, 0 ≤ x ∧ x < 256) := fun x hx => by
    have h1 := ((goIs_iff _ _ _).1 hr.out).2 x hx
    have h2 := mayB_size hm.out
    unfold sizeOk at h2
    omega
  have hSs : Hid (At V.drew sa ss) := hs.out.below HB3.out.drew (Nat.le_refl _)
  have hSz : Hid (At (V.drew.alloc (.cells #[.int .u64 0, .int .u64 0, .int .u64 0, .int .u64 0] 62)) sa ss) := hs.out.below (HB3.out.drew.alloc HB3.out.size _) (Nat.le_refl _)
  have ne3 : ¬ w.heap.size = V.heap.size := by omega
  have ne4 : ¬ V.heap.size = w.heap.size := by omega
  have nV := World.new_ne V _ x0
  refine Code.wp_mono (Q := regQ fun a' W' => ∃ (b8 : Nat) (L : LB) (r28 r29 r30 r31 : Value), a' = { tmps := #[mval m l, .slice sa ss.length sc, .slice wa word.length wc, .pointer (some ⟨w.heap.size, 0, none⟩), undef, undef, .pointer (some ⟨w.heap.size + 1, 0, none⟩), .int .i64 0, .pointer (some ⟨b8, 0, none⟩), leadV L, undef, undef, mval m l, .bool true, .bool false, .bool false, .slice sa ss.length sc, .pointer (some ⟨w.heap.size, 0, none⟩), .int .i64 m.st, .bool true, .bool false, .bool false, undef, mval m l, .slice wa word.length wc, .bool true, .bool false, undef, r28, r29, r30, r31, undef, undef, undef, undef, undef, undef, undef, undef, undef, undef, undef, undef, undef, undef, undef], defers := [] } ∧ AF w W' b8 L m (ofS ss)) ?aft ?reg
  case reg =>
    go_region_held3 (fun w' => w'.cell? ⟨w.heap.size, 0, none⟩ = some (.int .i64 m.st) ∧ w'.cell? ⟨w.heap.size, 1, none⟩ = some (.int .i64 m.ev) ∧ w'.cell? ⟨w.heap.size, 2, none⟩ = some (.slice l.a1 m.starts.length l.c1) ∧ w'.cell? ⟨w.heap.size, 3, none⟩ = some (.slice l.a2 m.arrows.length l.c2) ∧ w'.cell? ⟨w.heap.size, 4, none⟩ = some (.slice l.a3 m.ends.length l.c3)) (first | go_keep | exact (fun (_ : Hid (SB wO V.heap.size zeroS)) => mcell_of (Blk.other4 (K3.out.below GL.out K3.out.lt) ne3 _ _ _ _)) Z8 | exact mcell_of (Blk.other4 (K3.out.below GL.out K3.out.lt) NE1.out _ _ _ _)) (first | (go_at_call 52; refine (of_any sa sc ss V.drew hSs.out hl.out hbd.out).mono ?_; rintro e wO ⟨rfl, hbO⟩; have GO : Hid (Below V.heap.size V wO) := ((Below.refl _ V).drew).trans hbO; obtain ⟨y0, y1, y2, y3, y4⟩ := mcell_of (K3.out.below GO.out K3.out.lt); have nO := World.new_ne wO _ y0; have NE1 : Hid (w.heap.size ≠ wO.heap.size) := (show w.heap.size ≠ wO.heap.size by have := GO.out.size; omega); clear hbO) | (go_at_call 52; refine (of_any sa sc ss (V.drew.alloc (.cells #[.int .u64 0, .int .u64 0, .int .u64 0, .int .u64 0] 62)) hSz.out hl.out hbd.out).mono ?_; rintro e wO ⟨rfl, hbO⟩; have GO : Hid (Below V.heap.size V wO) := (((Below.refl _ V).drew).alloc (Nat.le_refl _) _).trans (hbO.mono (by rw [World.size_alloc]; exact Nat.le_succ _)); obtain ⟨y0, y1, y2, y3, y4⟩ := mcell_of (K3.out.below GO.out K3.out.lt); have Z8 : Hid (SB wO V.heap.size zeroS) := Blk.below (Blk.new V.drew 62 #[.int .u64 0, .int .u64 0, .int .u64 0, .int .u64 0]) hbO (by rw [World.size_alloc]; exact Nat.lt_succ_self _); have nO := World.new_ne wO _ y0; have NE1 : Hid (w.heap.size ≠ wO.heap.size) := (show w.heap.size ≠ wO.heap.size by have := GO.out.size; omega); clear hbO) | (go_at_call 82; have Z8' := Z8; refine (leader_any m l wO hm.out (HM.out.below (B := w.heap.size) (HB3.out.trans (GO.out.mono HB3.out.size)) (Nat.le_refl _))).mono ?_; rintro e wL ⟨L, rfl, hLL, hLa, hbL⟩; have GL : Hid (Below V.heap.size V wL) := GO.out.trans (hbL.mono GO.out.size); obtain ⟨z0, z1, z2, z3, z4⟩ := mcell_of (K3.out.below GL.out K3.out.lt); have HLL := Hid.of hLL; have HLA := Hid.of hLa; have HbL := Hid.of hbL; have Z9 : Hid (SB wL V.heap.size zeroS) := Blk.below Z8.out hbL Z8.out.lt; obtain ⟨f0, f1, f2, f3⟩ := SB.cells Z9.out; have ff := Blk.frozen Z9.out; have nL := World.new_ne wL _ z0; clear hbL hLL hLa Z8') | (go_at_call 82; refine (leader_any m l wO hm.out (HM.out.below (B := w.heap.size) (HB3.out.trans (GO.out.mono HB3.out.size)) (Nat.le_refl _))).mono ?_; rintro e wL ⟨L, rfl, hLL, hLa, hbL⟩; have GL : Hid (Below V.heap.size V wL) := GO.out.trans (hbL.mono GO.out.size); obtain ⟨z0, z1, z2, z3, z4⟩ := mcell_of (K3.out.below GL.out K3.out.lt); have HLL := Hid.of hLL; have HLA := Hid.of hLa; have HbL := Hid.of hbL; have nL := World.new_ne wL _ z0; clear hbL hLL hLa) | (go_at_call 82; refine (leader_any m l (wO.alloc (.cells #[.int .u64 0, .int .u64 0, .int .u64 0, .int .u64 0] 62)) hm.out (HM.out.below (B := w.heap.size) ((HB3.out.trans (GO.out.mono HB3.out.size)).alloc (Nat.le_trans HB3.out.size GO.out.size) _) (Nat.le_refl _))).mono ?_; rintro e wL ⟨L, rfl, hLL, hLa, hbL⟩; have GL : Hid (Below V.heap.size V wL) := (GO.out.alloc GO.out.size _).trans (hbL.mono (by rw [World.size_alloc]; exact Nat.le_succ_of_le GO.out.size)); obtain ⟨z0, z1, z2, z3, z4⟩ := mcell_of (K3.out.below GL.out K3.out.lt); have HLL := Hid.of hLL; have HLA := Hid.of hLa; have HbL := Hid.of hbL; have Z9 : Hid (SB wL wO.heap.size zeroS) := Blk.below (Blk.new wO 62 #[.int .u64 0, .int .u64 0, .int .u64 0, .int .u64 0]) hbL (by rw [World.size_alloc]; exact Nat.lt_succ_self _); obtain ⟨f0, f1, f2, f3⟩ := SB.cells Z9.out; have ff := Blk.frozen Z9.out; have nL := World.new_ne wL _ z0; clear hbL hLL hLa))
    · have q4 := GL.out.size
      have q5 := HB3.out.trans (GL.out.mono HB3.out.size)
      exact ⟨wL.heap.size, L, _, _, _, _, rfl, ⟨Blk.new wL 62 (scells (ofS ss)), HLL.out.alloc _, (S3.out.below GL.out S3.out.lt).alloc _, q5.alloc q5.size _, HLL.out.lt.imp (fun n h => by omega), by omega⟩⟩
    · have q0 := HLL.out
      have q1 := HLA.out
      rw [World.size_alloc] at q1
      have q4 := GO.out.size
      have q5 := HB3.out.trans (GL.out.mono HB3.out.size)
      have q6 : L.all (· ≠ wO.heap.size) := q1.imp (fun n h => by omega)
      exact ⟨wO.heap.size, L, _, _, _, _, rfl, ⟨SB.set4 Z9.out (ofS ss), q0.other4 q6 _ _ _ _, (S3.out.below GL.out S3.out.lt).other4 (by omega) _ _ _ _, below_set4 q5 (by omega) _ _ _ _, q6, by omega⟩⟩
    · have q4 := GO.out.size
      have q6 := Z8.out.lt
      have q5 := HB3.out.trans (GL.out.mono HB3.out.size)
      have q7 : L.all (· ≠ V.heap.size) := HLA.out.imp (fun n h => by omega)
      exact ⟨V.heap.size, L, _, _, _, _, rfl, ⟨SB.set4 Z9.out (ofS ss), HLL.out.other4 q7 _ _ _ _, (S3.out.below GL.out S3.out.lt).other4 (by omega) _ _ _ _, below_set4 q5 (by omega) _ _ _ _, q7, by omega⟩⟩
  case aft =>
    refine regQ_imp ?_
    rintro a' X ⟨b8, L, r28, r29, r30, r31, rfl, hAF⟩
    have HAF := Hid.of hAF
    have heq : ∀ (S : Nat → Nat) (w : World), (Op.equalIn 10000 62 (.agg #[.int .u64 (S 0), .int .u64 (S 1), .int .u64 (S 2), .int .u64 (S 3)]) (.agg #[.int .u64 0, .int .u64 0, .int .u64 0, .int .u64 0])).run Tryd.prog w = .ok (emptyB S) w := run_equalIn_set
    have hgd := run_guard_set
    have hwl2 : word.length ≤ 9223372036854775807 := hwl.out
    clear hAF x0 x1 x2 x3 x4 nV ne3 ne4 hSs hSz S3 K3
    go_wp2
    go_loopw [34] (fun i wr => ∃ (k : Nat) (S : Nat → Nat), k ≤ word.length ∧ i = .int .i64 k ∧ Hid (AF w wr b8 L m S) ∧ Hid (Rep S (afterL m.arrows ss (word.take k))) ∧ Hid (∀ x ∈ afterL m.arrows ss (word.take k), x < m.st)) (fun i _ => word.length - (intOf i).toNat)
    case atStart =>
      refine ⟨0, ofS ss, Nat.zero_le _, rfl, HAF, ?_, ?_⟩
      · show Rep (ofS ss) ss
        have := rep_of hbd.out ss.length
        rwa [List.take_of_length_le (Nat.le_refl _)] at this
      · intro x hx
        have h1 := ((goIs_iff _ _ _).1 hr.out).2 x hx
        omega
    case round =>
      obtain ⟨k, S, hk, rfl, HA, HR, HQ⟩ := hrel
      clear HAF
      obtain ⟨p0, p1, p2, p3⟩ := SB.cells HA.out.s8
      by_cases hlt : k < word.length
      · obtain ⟨b, off, rfl, hb, hc⟩ : ∃ b off, wa = some ⟨b, off, none⟩ ∧ b < w.heap.size ∧ Cells w b off word := by
          rcases hv.out with h0 | h0
          · rw [h0] at hlt; simp at hlt
          · exact h0
        obtain ⟨x, HX, hcx0⟩ := hc.at hlt
        have hcx := (HA.out.bel.cell (p := ⟨b, off + k, none⟩) hb).trans hcx0
        clear hcx0
        by_cases hE : emptyB S = true
        · have HF : Hid (Rep S (afterL m.arrows ss word)) := by
            have h1 := HR.out
            have h2 := empty_yes h1 hE
            show Rep S (afterL m.arrows ss word)
            rw [h2] at h1
            rw [afterL_split m.arrows ss word k, h2, afterL_nil]
            exact h1
          obtain ⟨r0, r1, r2, r3⟩ := SB.cells HA.out.res
          have rz := HA.out.res.frozen
          have k2 := Hid.of (SB.set4 HA.out.res S)
          go_wp2
          refine bodyPost_ret (v := .tuple #[sval S, .int .i64 0]) ?_ rfl ⟨S, HF.out, rfl, below_set4 HA.out.bel (b' := w.heap.size + 1) (by omega) _ _ _ _⟩
          exact results_set (p := 6) (u := 7) rfl _ _ (w.heap.size + 1) S 0 rfl rfl k2.out
        · have hE : emptyB S = false := by simpa using hE
          have hxb : 0 ≤ x ∧ x < m.ev := word_bd hwd.out hlt HX
          obtain ⟨e, rfl⟩ : ∃ e : Nat, x = (e : Int) := ⟨x.toNat, by omega⟩
          have hz := mayB_size hm.out
          have hz2 : m.st ≤ 256 ∧ 0 ≤ m.ev ∧ m.ev ≤ 8 ∧ 1 ≤ m.st := ⟨hz.2.1, hz.2.2.1, hz.2.2.2.1, hz.1⟩
          have hin := Hid.of (arrsFrom_in (mayB_arrs hm.out))
          have hTr : Tab wr := hT.out.below HA.out.bel hT.out.lt
          have hall : ∀ n ∈ allS S, n < m.st.toNat := fun n hn => by
            obtain ⟨n1, n2⟩ := (mem_allS S n).1 hn
            have := HQ.out _ ((HR.out.mem n n1).1 n2)
            omega
          have hcall := Hid.of (lead1_any m.st.toNat m.ev.toNat e L (tabS m.ev.toNat m.arrows) (okS_tab _ _) S HR.out.ok hall (by omega) (by omega) (by omega) wr hTr HA.out.ld)
          have HX2 := Hid.of hxb
          clear hxb hz hz2 hTr hall
          go_wp2_with (go_at_call 112; refine hcall.out.mono ?_; rintro e' w1 ⟨rfl, hb1⟩; have hS1 := Blk.below HA.out.s8 hb1 HA.out.s8.lt; obtain ⟨t0, t1, t2, t3⟩ := SB.cells hS1; have tz := Blk.frozen hS1)
          go_roundw
          case rel =>
            have hz := mayB_size hm.out
            unfold sizeOk at hz
            have hx2 := HX2.out
            refine ⟨k + 1, leadS m.ev.toNat m.arrows S e, by omega, by go_num, AF.step HA.out hb1 _, ?_, ?_⟩
            · show Rep _ _
              rw [afterL_take hlt HX]
              have := rep_lead (st := m.st) (ev := m.ev) (e := (e : Int)) HR.out hin.out hz.2.1 hx2.1 hx2.2
              simpa only [Int.toNat_natCast] using this
            · show ∀ x ∈ _, _
              rw [afterL_take hlt HX]
              intro y hy
              obtain ⟨a, ha, -, -, rfl⟩ := (mem_stepL _ _ _ _).1 hy
              exact (hin.out a ha).2.2.2.1
          case measure => simp [intOf]; omega
      · have HF : Hid (Rep S (afterL m.arrows ss word)) := by
          have h1 := HR.out
          rw [List.take_of_length_le (Nat.le_of_not_lt hlt)] at h1
          exact h1
        obtain ⟨r0, r1, r2, r3⟩ := SB.cells HA.out.res
        have rz := HA.out.res.frozen
        have k2 := Hid.of (SB.set4 HA.out.res S)
        go_wp2
        refine bodyPost_ret (v := .tuple #[sval S, .int .i64 0]) ?_ rfl ⟨S, HF.out, rfl, below_set4 HA.out.bel (b' := w.heap.size + 1) (by omega) _ _ _ _⟩
        exact results_set (p := 6) (u := 7) rfl _ _ (w.heap.size + 1) S 0 rfl rfl k2.out

end Go.Proofs.YtdnglodemkeooaaDoor
