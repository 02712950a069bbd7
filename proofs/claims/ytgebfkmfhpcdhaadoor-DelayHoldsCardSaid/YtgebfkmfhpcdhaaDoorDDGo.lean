/-
  The walk of diagnose's watcher.goOn.
-/
import Derived.Deep.RegionHeld3
import Derived.Test.YtgebfkmfhpcdhaaDoorDDGo2
import Derived.Test.YtgebfkmfhpcdhaaDoorDDMt
import Derived.Test.YtgebfkmfhpcdhaaDoorH18
namespace Go.Proofs.YtgebfkmfhpcdhaaDoor
open Go.RowKit
set_option linter.unusedVariables false

/-- The twins that a twin leads to, as goOn meets them. -/
def goE (SF FF : Nat → Bool) (TA TB : Nat → Nat → Nat) (a b : Nat) (n : Int) (e : Nat) : List (Pr × Int) :=
  if SF e = true then crsD (rowS (TA (a * 8 + e))) (rowS (TB (b * 8 + e))) (behD FF n e)
  else crsD (rowS (TA (a * 8 + e))) (rowS (ofS [(b : Int)])) (behD FF n e) ++ crsD (rowS (ofS [(a : Int)])) (rowS (TB (b * 8 + e))) n
def goL (SF FF : Nat → Bool) (TA TB : Nat → Nat → Nat) (a b : Nat) (n : Int) (k : Nat) : List (Pr × Int) := (List.range k).flatMap (goE SF FF TA TB a b n)
theorem goL_succ (SF FF : Nat → Bool) (TA TB : Nat → Nat → Nat) (a b : Nat) (n : Int) (k : Nat) : goL SF FF TA TB a b n (k + 1) = goL SF FF TA TB a b n k ++ goE SF FF TA TB a b n k := by
  unfold goL
  rw [List.range_succ, List.flatMap_append]
  simp
theorem rowS_len (S : Nat → Nat) : (rowS S).length ≤ 256 := by unfold rowS; rw [List.length_map]; exact allS_len S
theorem crsS_len (S T : Nat → Nat) (n : Int) : (crsD (rowS S) (rowS T) n).length ≤ 65536 := by
  rw [crsD_len]
  exact Nat.mul_le_mul (rowS_len S) (rowS_len T)
theorem goE_len (SF FF : Nat → Bool) (TA TB : Nat → Nat → Nat) (a b : Nat) (n : Int) (e : Nat) : (goE SF FF TA TB a b n e).length ≤ 131072 := by
  unfold goE
  split
  · have := crsS_len (TA (a * 8 + e)) (TB (b * 8 + e)) (behD FF n e)
    omega
  · rw [List.length_append]
    have := crsS_len (TA (a * 8 + e)) (ofS [(b : Int)]) (behD FF n e)
    have := crsS_len (ofS [(a : Int)]) (TB (b * 8 + e)) n
    omega
theorem goL_len (SF FF : Nat → Bool) (TA TB : Nat → Nat → Nat) (a b : Nat) (n : Int) : ∀ k, (goL SF FF TA TB a b n k).length ≤ k * 131072
  | 0 => by simp [goL]
  | k + 1 => by
    rw [goL_succ, List.length_append]
    have := goL_len SF FF TA TB a b n k
    have := goE_len SF FF TA TB a b n k
    omega
theorem one_bd {a : Nat} (h : a < 6) : okS (ofS [(a : Int)]) ∧ ∀ k ∈ allS (ofS [(a : Int)]), k < 6 := by
  have e : ofS [(a : Int)] = withS zeroS a := by
    show withS zeroS ((a : Int)).toNat = _
    rw [Int.toNat_natCast]
  rw [e]
  refine ⟨okS_with okS_zero _, fun k hk => ?_⟩
  obtain ⟨k1, k2⟩ := (mem_allS _ _).1 hk
  rw [hasS_with, hasS_zero] at k2
  have k3 : k = a := by simpa using k2
  omega

set_option maxRecDepth 100000 in
set_option maxHeartbeats 16000000 in
theorem goOn_any (a b : Nat) (ha : a < 6) (hb6 : b < 6) (n : Int) (hn0 : -1 ≤ n) (hn1 : n ≤ 100) (s : DSt) (hg : getP s.1 ((a : Int), (b : Int)) = some n) (hsl : Hid (s.2.length ≤ 10000000)) (B p r : Nat) (hB0 : 0 < B) (m : Mach) (l : ML) (SF FF : Nat → Bool) (TA TB : Nat → Nat → Nat) (hTA : Hid (∀ q, okS (TA q) ∧ ∀ k ∈ allS (TA q), k < 6)) (hTB : Hid (∀ q, okS (TB q) ∧ ∀ k ∈ allS (TB q), k < 6)) (ev : Nat) (hev : Hid (m.ev = (ev : Int))) (hev8 : ev ≤ 8) (qv : Value) (w : World) (hT : Tab w) (h : DW w B p r m l SF FF TA TB qv s) :
    Calls Tryd.prog 136 #[.pointer (some ⟨p, 0, none⟩), pvalD ((a : Int), (b : Int))] w fun e W' => e = .returned (.tuple #[]) ∧ ∃ v', DW W' B p r m l SF FF TA TB v' (relL s (goL SF FF TA TB a b n ev)) ∧ KDd B p r qv v' w W' := by
  have hb0 : Below w.heap.size w (w.alloc (.cells (pcellsD ((a : Int), (b : Int))) 198)) := (Below.refl _ _).alloc (Nat.le_refl _) _
  have B0 := Hid.of hb0
  have D0 := Hid.of (h.below hb0)
  have KB := Hid.of (Blk.new w 198 (pcellsD ((a : Int), (b : Int))))
  have HLTw := Hid.of h.lt
  have HBw : Hid (B ≤ w.heap.size) := Nat.le_of_lt (Nat.lt_of_le_of_lt h.lp h.lt.1)
  have HQW := Hid.of (fun k hk => (h.qu.lt k hk).2)
  have HT := Hid.of hT
  have HOK : okPD ((a : Int), (b : Int)) := by show (0 ≤ (a : Int) ∧ (a : Int) < 256) ∧ 0 ≤ (b : Int) ∧ (b : Int) < 256; omega
  have HLK : Hid (∀ Z : World, Z.heap[r]? = some (.map (entsD s.1) s.1.length) → (Instr.lookup 188 (.map (some r)) (pvalD ((a : Int), (b : Int))) false).run Tryd.prog Z = .ok (.int .i64 n) Z) := fun Z hz => (lookD_known h.ok h.nd HOK hz hg).2
  clear hb0 h hg hT HOK
  have haI : Hid (0 ≤ (a : Int) ∧ (a : Int) < 256) := by show _ ∧ _; omega
  have hbI : Hid (0 ≤ (b : Int) ∧ (b : Int) < 256) := by show _ ∧ _; omega
  go_enter Tryd.func136, Tryd.ntmps136
  go_wp2_with fail
  revert B0 D0 KB
  generalize (w.alloc (.cells (pcellsD ((a : Int), (b : Int))) 198)) = V0
  intro B0 D0 KB
  refine Code.wp_mono (Q := regQ fun a' Y => a' = actG0 p r w.heap.size (a : Int) (b : Int) n ∧ Y = V0.drew) ?aft ?reg
  case reg =>
    refine wp_region_held_drew (S := fun w' => w'.cell? ⟨p, 405, none⟩ = some (.map (some r)) ∧ w'.cell? ⟨w.heap.size, 0, none⟩ = some (.int .i64 (a : Int)) ∧ w'.cell? ⟨w.heap.size, 1, none⟩ = some (.int .i64 (b : Int))) (by kernel_rfl) ⟨D0.out.drew.wb.mp, KB.out.drew.cell 0 rfl, KB.out.drew.cell 1 rfl⟩ (fun hS => ?_)
    have HSY := Hid.of hS
    have HMY : Hid (V0.drew.heap[r]? = some (.map (entsD s.1) s.1.length)) := D0.out.mp
    obtain ⟨Y0, HYE⟩ : ∃ Y0, Hid (Y0 = V0.drew) := ⟨_, rfl⟩
    rw [← HYE.out] at hS HSY HMY
    rw [← HYE.out]
    refine wpAnyH_take (i := 0) (v := .pointer (some ⟨p, 0, none⟩)) rfl (by kernel_rfl) (by kernel_rfl) (by kernel_rfl) (fun _ _ _ h => h) (Or.inl ⟨by kernel_rfl, fun w' hw' => by obtain ⟨q0, q1, q2⟩ := hw'; go_simp⟩) hS ?_
    refine wpAnyH_take (i := 1) (v := .pointer (some ⟨p, 0, none⟩)) rfl (by kernel_rfl) (by kernel_rfl) (by kernel_rfl) (fun _ _ _ h => h) (Or.inl ⟨by kernel_rfl, fun w' hw' => by obtain ⟨q0, q1, q2⟩ := hw'; go_simp⟩) hS ?_
    refine wpAnyH_take (i := 2) (v := .pointer (some ⟨p, 405, none⟩)) rfl (by kernel_rfl) (by kernel_rfl) (by kernel_rfl) (fun _ _ _ h => h) (Or.inl ⟨by kernel_rfl, fun w' hw' => by obtain ⟨q0, q1, q2⟩ := hw'; go_simp⟩) hS ?_
    refine wpAnyH_take (i := 3) (v := .map (some r)) rfl (by kernel_rfl) (by kernel_rfl) (by kernel_rfl) (fun _ _ _ h => h) (Or.inl ⟨by kernel_rfl, fun w' hw' => by obtain ⟨q0, q1, q2⟩ := hw'; go_simp⟩) hS ?_
    refine wpAnyH_take (i := 4) (v := pvalD ((a : Int), (b : Int))) rfl (by kernel_rfl) (by kernel_rfl) (by kernel_rfl) (fun _ _ _ h => h) (Or.inl ⟨by kernel_rfl, fun w' hw' => by obtain ⟨q0, q1, q2⟩ := hw'; go_simp⟩) hS ?_
    simp only [Act.put, List.setIfInBounds_toArray]
    refine wpAnyH_ready (rs := [5]) (by kernel_rfl) (by simp) ?_
    refine AllReadyH.cons rfl (fun K' hK' => ?_) AllReadyH.nil
    clear hS
    have lk := HLK.out Y0 HMY.out
    go_simp
    refine hK'.out _ _ (HSY.out) (fun hS => ?_)
    clear hK' K' lk
    refine wpAnyH_take (i := 6) (v := .int .i64 n) rfl (by kernel_rfl) (by kernel_rfl) (by kernel_rfl) (fun _ _ _ h => h) (Or.inl ⟨by kernel_rfl, fun w' hw' => by obtain ⟨q0, q1, q2⟩ := hw'; go_simp⟩) hS ?_
    refine wpAnyH_done (by kernel_rfl) ?_ _
    exact ⟨by kernel_rfl, rfl⟩
  case aft =>
    refine regQ_imp ?_
    rintro a' X0 ⟨rfl, rfl⟩
    go_wp2_with fail
    have D1 : Hid (DW V0.drew B p r m l SF FF TA TB qv s) := D0.out.drew
    have KB1 : Hid (Blk V0.drew w.heap.size 198 (pcellsD ((a : Int), (b : Int)))) := KB.out.drew
    have B1 : Hid (Below w.heap.size w V0.drew) := B0.out.drew
    clear D0 KB B0
    revert D1 KB1 B1
    generalize V0.drew = X0
    intro D1 KB1 B1
    refine Code.wp_mono (Q := regQ fun a' Y => ∃ (p18 p22 p5 p6 : Nat), a' = actG p r w.heap.size (a : Int) (b : Int) n (.slice (some ⟨p18, 0, none⟩) 1 1) (sval (ofS [(a : Int)])) (.slice (some ⟨p22, 0, none⟩) 1 1) (sval (ofS [(b : Int)])) (.pointer (some ⟨p5, 0, none⟩)) (.pointer (some ⟨p6, 0, none⟩)) ∧ Below X0.heap.size X0 Y ∧ SB Y p5 (ofS [(a : Int)]) ∧ SB Y p6 (ofS [(b : Int)]) ∧ X0.heap.size ≤ p5 ∧ X0.heap.size ≤ p6) ?aft2 ?reg2
    case reg2 => exact goOn2_go p r w.heap.size (a : Int) (b : Int) n haI hbI X0 KB1 _ (fun _ _ _ _ h => h) (fun Y p18 p22 p5 p6 h1 h2 h3 h4 h5 => ⟨p18, p22, p5, p6, rfl, h1, h2, h3, h4, h5⟩)
    refine regQ_imp ?_
    rintro a' X ⟨p18, p22, p5, p6, rfl, bx, k5, k6, l5, l6⟩
    have hX0 : w.heap.size < X0.heap.size := KB1.out.lt
    have DX := Hid.of (D1.out.below bx)
    have KBX := Hid.of (KB1.out.below bx KB1.out.lt)
    have BX := Hid.of (B1.out.trans (bx.mono B1.out.size))
    have HX5 := Hid.of k5
    have HX6 := Hid.of k6
    have HL5 := Hid.of l5
    have HL6 := Hid.of l6
    have HX0 := Hid.of hX0
    clear bx k5 k6 l5 l6 hX0 D1 KB1 B1
    have HBX : Hid (∀ Y v', KDd B p r qv v' X Y → Blk Y w.heap.size 198 (pcellsD ((a : Int), (b : Int))) ∧ SB Y p5 (ofS [(a : Int)]) ∧ SB Y p6 (ofS [(b : Int)])) := fun Y v' hk => by
      have q : ∀ j, w.heap.size ≤ j → j < X.heap.size → Y.heap[j]? = X.heap[j]? := fun j h1 h2 => hk.blk j h2 (by have := HLTw.out.1; omega) (by have := HLTw.out.2; omega) (fun e => by have := HQW.out j e; omega)
      exact ⟨(q _ (Nat.le_refl _) KBX.out.lt).trans KBX.out, (q _ (by have := HL5.out; have := HX0.out; omega) HX5.out.lt).trans HX5.out, (q _ (by have := HL6.out; have := HX0.out; omega) HX6.out.lt).trans HX6.out⟩
    have c1 : X.cell? ⟨p, 1, none⟩ = some (.int .i64 (ev : Int)) := by rw [← hev.out]; exact DX.out.wb.mach.2.1
    go_wp2_with fail
    clear c1
    go_loopw [29] (fun i wr => ∃ (k : Nat) (v1 : Value), k ≤ ev ∧ i = .int .i64 k ∧ Hid (DW wr B p r m l SF FF TA TB v1 (relL s (goL SF FF TA TB a b n k))) ∧ Hid (KDd B p r qv v1 X wr)) (fun i _ => ev - (intOf i).toNat)
    case atStart => exact ⟨0, qv, Nat.zero_le _, rfl, DX, Hid.of (KDd.refl _ _ _ _ _)⟩
    case round =>
      obtain ⟨k, v1, hk, rfl, LD, LK⟩ := hrel
      by_cases hlt : k < ev
      · obtain ⟨kb, k5, k6⟩ := HBX.out wr v1 LK.out
        have HKB := Hid.of kb
        have HB5 := Hid.of k5
        have HB6 := Hid.of k6
        clear kb k5 k6
        have HBwr : Hid (B ≤ wr.heap.size) := Nat.le_of_lt (Nat.lt_of_le_of_lt LD.out.lp LD.out.lt.1)
        have NBw : Hid (∀ q, w.heap.size ≤ q → q < X.heap.size → q ≠ p ∧ q ≠ r ∧ v1.ownBlock ≠ some q) := fun q h1 h2 => ⟨by have := HLTw.out.1; omega, by have := HLTw.out.2; omega, fun ee => by
          rcases LK.out.own q ee with c | c
          · have := HQW.out q c; omega
          · omega⟩
        have NB5 := Hid.of (NBw.out p5 (by have := HL5.out; have := HX0.out; omega) HX5.out.lt)
        have NB6 := Hid.of (NBw.out p6 (by have := HL6.out; have := HX0.out; omega) HX6.out.lt)
        have HTW : Hid (Tab wr) := (HT.out.below BX.out HT.out.lt).below LK.out.bel hB0
        obtain ⟨s1, HS1⟩ : ∃ s1, Hid (s1 = relL s (goL SF FF TA TB a b n k)) := ⟨_, rfl⟩
        rw [← HS1.out] at LD
        have HQ1 : Hid (s1.2.length ≤ 100000000) := by
          show _ ≤ _
          rw [HS1.out]
          have q1 := rel_len (goL SF FF TA TB a b n k) s
          have q2 := goL_len SF FF TA TB a b n k
          have q3 := hsl.out
          omega
        obtain ⟨U8, HU8⟩ : ∃ U8, Hid (U8 = TA (a * 8 + k)) := ⟨_, rfl⟩
        obtain ⟨U9, HU9⟩ : ∃ U9, Hid (U9 = TB (b * 8 + k)) := ⟨_, rfl⟩
        obtain ⟨ln, HLN⟩ : ∃ ln, Hid (ln = behD FF n k) := ⟨_, rfl⟩
        have HQ2 : Hid ((relL s1 (crsD (rowS U8) (rowS (ofS [(b : Int)])) ln)).2.length ≤ 100000000) := by
          show _ ≤ _
          have q0 := rel_len (crsD (rowS U8) (rowS (ofS [(b : Int)])) ln) s1
          have q4 := crsS_len U8 (ofS [(b : Int)]) ln
          rw [HS1.out] at q0
          rw [HS1.out]
          have q1 := rel_len (goL SF FF TA TB a b n k) s
          have q2 := goL_len SF FF TA TB a b n k
          have q3 := hsl.out
          omega
        have okU8 : Hid (okS U8) := by show okS U8; rw [HU8.out]; exact (hTA.out _).1
        have okU9 : Hid (okS U9) := by show okS U9; rw [HU9.out]; exact (hTB.out _).1
        have bdU8 : Hid (∀ k ∈ allS U8, k < 6) := by show ∀ k ∈ allS U8, k < 6; rw [HU8.out]; exact (hTA.out _).2
        have bdU9 : Hid (∀ k ∈ allS U9, k < 6) := by show ∀ k ∈ allS U9, k < 6; rw [HU9.out]; exact (hTB.out _).2
        have okA := Hid.of (one_bd ha).1
        have bdA := Hid.of (one_bd ha).2
        have okB := Hid.of (one_bd hb6).1
        have bdB := Hid.of (one_bd hb6).2
        have SA6 : Hid (∀ W, Below wr.heap.size wr W → W.cell? ⟨w.heap.size, 0, none⟩ = some (.int .i64 (a : Int)) ∧ W.cell? ⟨w.heap.size, 1, none⟩ = some (.int .i64 (b : Int)) ∧ W.cell? ⟨p, 21 + a * 32 + k * 4, none⟩ = some (.int .u64 (U8 0)) ∧ W.cell? ⟨p, 21 + a * 32 + k * 4 + 1, none⟩ = some (.int .u64 (U8 1)) ∧ W.cell? ⟨p, 21 + a * 32 + k * 4 + 2, none⟩ = some (.int .u64 (U8 2)) ∧ W.cell? ⟨p, 21 + a * 32 + k * 4 + 3, none⟩ = some (.int .u64 (U8 3)) ∧ W.cell? ⟨p, 213 + b * 32 + k * 4, none⟩ = some (.int .u64 (U9 0)) ∧ W.cell? ⟨p, 213 + b * 32 + k * 4 + 1, none⟩ = some (.int .u64 (U9 1)) ∧ W.cell? ⟨p, 213 + b * 32 + k * 4 + 2, none⟩ = some (.int .u64 (U9 2)) ∧ W.cell? ⟨p, 213 + b * 32 + k * 4 + 3, none⟩ = some (.int .u64 (U9 3))) := fun W hbw => by
          obtain ⟨u0, u1, u2, u3⟩ := WtB.ta (LD.out.below hbw).wb ha (e := k) (by omega)
          obtain ⟨t0, t1, t2, t3⟩ := WtB.tb (LD.out.below hbw).wb hb6 (e := k) (by omega)
          rw [← HU8.out] at u0 u1 u2 u3
          rw [← HU9.out] at t0 t1 t2 t3
          exact ⟨(HKB.out.below hbw HKB.out.lt).cell 0 rfl, (HKB.out.below hbw HKB.out.lt).cell 1 rfl, u0, u1, u2, u3, t0, t1, t2, t3⟩
        have SAP : Hid (∀ (p8 p9 : Nat) (W : World), SB W p8 U8 → SB W p9 U9 → SB W p6 (ofS [(b : Int)]) → W.cell? ⟨p8, 0, none⟩ = some (.int .u64 (U8 0)) ∧ W.cell? ⟨p8, 1, none⟩ = some (.int .u64 (U8 1)) ∧ W.cell? ⟨p8, 2, none⟩ = some (.int .u64 (U8 2)) ∧ W.cell? ⟨p8, 3, none⟩ = some (.int .u64 (U8 3)) ∧ W.cell? ⟨p9, 0, none⟩ = some (.int .u64 (U9 0)) ∧ W.cell? ⟨p9, 1, none⟩ = some (.int .u64 (U9 1)) ∧ W.cell? ⟨p9, 2, none⟩ = some (.int .u64 (U9 2)) ∧ W.cell? ⟨p9, 3, none⟩ = some (.int .u64 (U9 3)) ∧ W.cell? ⟨p6, 0, none⟩ = some (.int .u64 ((ofS [(b : Int)]) 0)) ∧ W.cell? ⟨p6, 1, none⟩ = some (.int .u64 ((ofS [(b : Int)]) 1)) ∧ W.cell? ⟨p6, 2, none⟩ = some (.int .u64 ((ofS [(b : Int)]) 2)) ∧ W.cell? ⟨p6, 3, none⟩ = some (.int .u64 ((ofS [(b : Int)]) 3))) := fun p8 p9 W h1 h2 h3 => by
          obtain ⟨y0, y1, y2, y3⟩ := SB.cells h1
          obtain ⟨z0, z1, z2, z3⟩ := SB.cells h2
          obtain ⟨x0, x1, x2, x3⟩ := SB.cells h3
          exact ⟨y0, y1, y2, y3, z0, z1, z2, z3, x0, x1, x2, x3⟩
        have a60 : (0 : Int) ≤ (a : Int) := by omega
        have a66 : (a : Int) < 6 := by omega
        have b60 : (0 : Int) ≤ (b : Int) := by omega
        have b66 : (b : Int) < 6 := by omega
        have k80 : (0 : Int) ≤ (k : Int) := by omega
        have k88 : (k : Int) < 8 := by omega
        go_wp2_with fail
        refine wp_region_held_drew (S := fun w' => w'.cell? ⟨w.heap.size, 0, none⟩ = some (.int .i64 (a : Int)) ∧ w'.cell? ⟨w.heap.size, 1, none⟩ = some (.int .i64 (b : Int)) ∧ w'.cell? ⟨p, 21 + a * 32 + k * 4, none⟩ = some (.int .u64 (U8 0)) ∧ w'.cell? ⟨p, 21 + a * 32 + k * 4 + 1, none⟩ = some (.int .u64 (U8 1)) ∧ w'.cell? ⟨p, 21 + a * 32 + k * 4 + 2, none⟩ = some (.int .u64 (U8 2)) ∧ w'.cell? ⟨p, 21 + a * 32 + k * 4 + 3, none⟩ = some (.int .u64 (U8 3)) ∧ w'.cell? ⟨p, 213 + b * 32 + k * 4, none⟩ = some (.int .u64 (U9 0)) ∧ w'.cell? ⟨p, 213 + b * 32 + k * 4 + 1, none⟩ = some (.int .u64 (U9 1)) ∧ w'.cell? ⟨p, 213 + b * 32 + k * 4 + 2, none⟩ = some (.int .u64 (U9 2)) ∧ w'.cell? ⟨p, 213 + b * 32 + k * 4 + 3, none⟩ = some (.int .u64 (U9 3))) (by kernel_rfl) (SA6.out _ (Below.refl _ _).drew) (fun hS => ?_)
        have BF : Hid (Below wr.heap.size wr wr.drew) := (Below.refl _ _).drew
        revert hS BF
        generalize wr.drew = Y0
        intro hS BF
        refine wpAnyH_take (i := 0) (v := .pointer (some ⟨p, 0, none⟩)) rfl (by kernel_rfl) (by kernel_rfl) (by kernel_rfl) (fun _ _ _ h => h) (Or.inl ⟨by kernel_rfl, fun w' hw' => by obtain ⟨q0, q1, q2, q3, q4, q5, q6, q7, q8, q9⟩ := hw'; go_simp⟩) hS ?_
        refine wpAnyH_take (i := 1) (v := .pointer (some ⟨w.heap.size, 0, none⟩)) rfl (by kernel_rfl) (by kernel_rfl) (by kernel_rfl) (fun _ _ _ h => h) (Or.inl ⟨by kernel_rfl, fun w' hw' => by obtain ⟨q0, q1, q2, q3, q4, q5, q6, q7, q8, q9⟩ := hw'; go_simp⟩) hS ?_
        refine wpAnyH_take (i := 2) (v := .int .i64 (a : Int)) rfl (by kernel_rfl) (by kernel_rfl) (by kernel_rfl) (fun _ _ _ h => h) (Or.inl ⟨by kernel_rfl, fun w' hw' => by obtain ⟨q0, q1, q2, q3, q4, q5, q6, q7, q8, q9⟩ := hw'; go_simp⟩) hS ?_
        refine wpAnyH_take (i := 3) (v := .int .i64 (k : Int)) rfl (by kernel_rfl) (by kernel_rfl) (by kernel_rfl) (fun _ _ _ h => h) (Or.inl ⟨by kernel_rfl, fun w' hw' => by obtain ⟨q0, q1, q2, q3, q4, q5, q6, q7, q8, q9⟩ := hw'; go_simp⟩) hS ?_
        refine wpAnyH_take (i := 4) (v := .pointer (some ⟨p, 0, none⟩)) rfl (by kernel_rfl) (by kernel_rfl) (by kernel_rfl) (fun _ _ _ h => h) (Or.inl ⟨by kernel_rfl, fun w' hw' => by obtain ⟨q0, q1, q2, q3, q4, q5, q6, q7, q8, q9⟩ := hw'; go_simp⟩) hS ?_
        refine wpAnyH_take (i := 5) (v := .pointer (some ⟨p, 21, none⟩)) rfl (by kernel_rfl) (by kernel_rfl) (by kernel_rfl) (fun _ _ _ h => h) (Or.inl ⟨by kernel_rfl, fun w' hw' => by obtain ⟨q0, q1, q2, q3, q4, q5, q6, q7, q8, q9⟩ := hw'; go_simp⟩) hS ?_
        refine wpAnyH_take (i := 6) (v := .pointer (some ⟨p, 21 + a * 32, none⟩)) rfl (by kernel_rfl) (by kernel_rfl) (by kernel_rfl) (fun _ _ _ h => h) (Or.inl ⟨by kernel_rfl, fun w' hw' => by obtain ⟨q0, q1, q2, q3, q4, q5, q6, q7, q8, q9⟩ := hw'; go_simp⟩) hS ?_
        refine wpAnyH_take (i := 7) (v := .pointer (some ⟨p, 21 + a * 32 + k * 4, none⟩)) rfl (by kernel_rfl) (by kernel_rfl) (by kernel_rfl) (fun _ _ _ h => h) (Or.inl ⟨by kernel_rfl, fun w' hw' => by obtain ⟨q0, q1, q2, q3, q4, q5, q6, q7, q8, q9⟩ := hw'; go_simp⟩) hS ?_
        refine wpAnyH_take (i := 8) (v := sval U8) rfl (by kernel_rfl) (by kernel_rfl) (by kernel_rfl) (fun _ _ _ h => h) (Or.inl ⟨by kernel_rfl, fun w' hw' => by obtain ⟨q0, q1, q2, q3, q4, q5, q6, q7, q8, q9⟩ := hw'; go_simp⟩) hS ?_
        refine wpAnyH_take (i := 9) (v := .pointer (some ⟨p, 0, none⟩)) rfl (by kernel_rfl) (by kernel_rfl) (by kernel_rfl) (fun _ _ _ h => h) (Or.inl ⟨by kernel_rfl, fun w' hw' => by obtain ⟨q0, q1, q2, q3, q4, q5, q6, q7, q8, q9⟩ := hw'; go_simp⟩) hS ?_
        refine wpAnyH_take (i := 10) (v := .pointer (some ⟨w.heap.size, 1, none⟩)) rfl (by kernel_rfl) (by kernel_rfl) (by kernel_rfl) (fun _ _ _ h => h) (Or.inl ⟨by kernel_rfl, fun w' hw' => by obtain ⟨q0, q1, q2, q3, q4, q5, q6, q7, q8, q9⟩ := hw'; go_simp⟩) hS ?_
        refine wpAnyH_take (i := 11) (v := .int .i64 (b : Int)) rfl (by kernel_rfl) (by kernel_rfl) (by kernel_rfl) (fun _ _ _ h => h) (Or.inl ⟨by kernel_rfl, fun w' hw' => by obtain ⟨q0, q1, q2, q3, q4, q5, q6, q7, q8, q9⟩ := hw'; go_simp⟩) hS ?_
        refine wpAnyH_take (i := 12) (v := .int .i64 (k : Int)) rfl (by kernel_rfl) (by kernel_rfl) (by kernel_rfl) (fun _ _ _ h => h) (Or.inl ⟨by kernel_rfl, fun w' hw' => by obtain ⟨q0, q1, q2, q3, q4, q5, q6, q7, q8, q9⟩ := hw'; go_simp⟩) hS ?_
        refine wpAnyH_take (i := 13) (v := .pointer (some ⟨p, 0, none⟩)) rfl (by kernel_rfl) (by kernel_rfl) (by kernel_rfl) (fun _ _ _ h => h) (Or.inl ⟨by kernel_rfl, fun w' hw' => by obtain ⟨q0, q1, q2, q3, q4, q5, q6, q7, q8, q9⟩ := hw'; go_simp⟩) hS ?_
        refine wpAnyH_take (i := 14) (v := .pointer (some ⟨p, 213, none⟩)) rfl (by kernel_rfl) (by kernel_rfl) (by kernel_rfl) (fun _ _ _ h => h) (Or.inl ⟨by kernel_rfl, fun w' hw' => by obtain ⟨q0, q1, q2, q3, q4, q5, q6, q7, q8, q9⟩ := hw'; go_simp⟩) hS ?_
        refine wpAnyH_take (i := 15) (v := .pointer (some ⟨p, 213 + b * 32, none⟩)) rfl (by kernel_rfl) (by kernel_rfl) (by kernel_rfl) (fun _ _ _ h => h) (Or.inl ⟨by kernel_rfl, fun w' hw' => by obtain ⟨q0, q1, q2, q3, q4, q5, q6, q7, q8, q9⟩ := hw'; go_simp⟩) hS ?_
        refine wpAnyH_take (i := 16) (v := .pointer (some ⟨p, 213 + b * 32 + k * 4, none⟩)) rfl (by kernel_rfl) (by kernel_rfl) (by kernel_rfl) (fun _ _ _ h => h) (Or.inl ⟨by kernel_rfl, fun w' hw' => by obtain ⟨q0, q1, q2, q3, q4, q5, q6, q7, q8, q9⟩ := hw'; go_simp⟩) hS ?_
        refine wpAnyH_take (i := 17) (v := sval U9) rfl (by kernel_rfl) (by kernel_rfl) (by kernel_rfl) (fun _ _ _ h => h) (Or.inl ⟨by kernel_rfl, fun w' hw' => by obtain ⟨q0, q1, q2, q3, q4, q5, q6, q7, q8, q9⟩ := hw'; go_simp⟩) hS ?_
        simp only [Act.put, List.setIfInBounds_toArray]
        refine wpAnyH_ready (rs := [18, 19]) (by kernel_rfl) (by simp) ?_
        refine AllReadyH.cons rfl (fun K' hK' => ?_) (AllReadyH.cons rfl (fun K' hK' => ?_) AllReadyH.nil)
        · clear hS
          go_simp
          have hb : Below Y0.heap.size Y0 (Y0.alloc (.cells #[.int .u64 0, .int .u64 0, .int .u64 0, .int .u64 0] 79)) := (Below.refl _ _).alloc (Nat.le_refl _) _
          have P8 := Hid.of BF.out.size
          replace BF := Hid.of (BF.out.trans (hb.mono BF.out.size))
          have K8 := Hid.of (Blk.new Y0 79 #[.int .u64 0, .int .u64 0, .int .u64 0, .int .u64 0])
          refine hK'.out _ _ (SA6.out _ BF.out) (fun hS => ?_)
          clear hK' K' hb
          revert P8 BF K8 hS
          generalize Y0.alloc (.cells #[.int .u64 0, .int .u64 0, .int .u64 0, .int .u64 0] 79) = Y1
          generalize Y0.heap.size = p8
          intro P8 BF K8 hS
          refine wpAnyH_ready (rs := [19]) (by kernel_rfl) (by simp) ?_
          refine AllReadyH.cons rfl (fun K' hK' => ?_) AllReadyH.nil
          clear hS
          go_simp
          have hb : Below Y1.heap.size Y1 (Y1.alloc (.cells #[.int .u64 0, .int .u64 0, .int .u64 0, .int .u64 0] 79)) := (Below.refl _ _).alloc (Nat.le_refl _) _
          have P9 := Hid.of BF.out.size
          have N89 := Hid.of (Nat.ne_of_lt K8.out.lt)
          replace BF := Hid.of (BF.out.trans (hb.mono BF.out.size))
          replace K8 := Hid.of (K8.out.below hb K8.out.lt)
          have K9 := Hid.of (Blk.new Y1 79 #[.int .u64 0, .int .u64 0, .int .u64 0, .int .u64 0])
          refine hK'.out _ _ (SA6.out _ BF.out) (fun hS => ?_)
          clear hK' K' hb
          revert P9 N89 BF K8 K9 hS
          generalize Y1.alloc (.cells #[.int .u64 0, .int .u64 0, .int .u64 0, .int .u64 0] 79) = Y2
          generalize Y1.heap.size = p9
          intro P9 N89 BF K8 K9 hS
          refine wpAnyH_ready (rs := [20]) (by kernel_rfl) (by simp) ?_
          refine AllReadyH.cons rfl (fun K' hK' => ?_) AllReadyH.nil
          clear hS
          replace K8 : Hid (SB Y2 p8 zeroS) := K8
          replace K9 : Hid (SB Y2 p9 zeroS) := K9
          have f8 := K8.out.frozen
          obtain ⟨y0, y1, y2, y3⟩ := SB.cells K8.out
          go_simp
          replace K9 : Hid (SB _ p9 zeroS) := Blk.other4 K9.out (Ne.symm N89.out) (.int .u64 (U8 0)) (.int .u64 (U8 1)) (.int .u64 (U8 2)) (.int .u64 (U8 3))
          replace BF := Hid.of (below_set4 BF.out (b' := p8) P8.out (.int .u64 (U8 0)) (.int .u64 (U8 1)) (.int .u64 (U8 2)) (.int .u64 (U8 3)))
          replace K8 := Hid.of (SB.set4 K8.out U8)
          refine hK'.out _ _ (SA6.out _ BF.out) (fun hS => ?_)
          clear hK' K' f8 y0 y1 y2 y3
          refine wpAnyH_ready (rs := [21]) (by kernel_rfl) (by simp) ?_
          refine AllReadyH.cons rfl (fun K' hK' => ?_) AllReadyH.nil
          clear hS
          have f9 := K9.out.frozen
          obtain ⟨y0, y1, y2, y3⟩ := SB.cells K9.out
          go_simp
          replace K8 : Hid (SB _ p8 U8) := Blk.other4 K8.out N89.out (.int .u64 (U9 0)) (.int .u64 (U9 1)) (.int .u64 (U9 2)) (.int .u64 (U9 3))
          replace BF := Hid.of (below_set4 BF.out (b' := p9) P9.out (.int .u64 (U9 0)) (.int .u64 (U9 1)) (.int .u64 (U9 2)) (.int .u64 (U9 3)))
          replace K9 := Hid.of (SB.set4 K9.out U9)
          refine hK'.out _ _ (SA6.out _ BF.out) (fun hS => ?_)
          clear hK' K' f9 y0 y1 y2 y3
          refine wpAnyH_done (by kernel_rfl) ?_ _
          clear hS
          revert K8 K9 BF
          generalize ((((((((Y2.setCell ⟨p8, 0, none⟩ (.int .u64 (U8 0))).setCell ⟨p8, 1, none⟩ (.int .u64 (U8 1))).setCell ⟨p8, 2, none⟩ (.int .u64 (U8 2))).setCell ⟨p8, 3, none⟩ (.int .u64 (U8 3))).setCell ⟨p9, 0, none⟩ (.int .u64 (U9 0))).setCell ⟨p9, 1, none⟩ (.int .u64 (U9 1))).setCell ⟨p9, 2, none⟩ (.int .u64 (U9 2))).setCell ⟨p9, 3, none⟩ (.int .u64 (U9 3))) = Z0
          intro K8 BF K9
          have BFZ := BF
          have DZ := Hid.of (LD.out.below BFZ.out)
          have HTZ : Hid (Tab Z0) := HTW.out.below BFZ.out HTW.out.lt
          have K5 : Hid (SB Z0 p5 (ofS [(a : Int)])) := HB5.out.below BFZ.out HB5.out.lt
          have K6 : Hid (SB Z0 p6 (ofS [(b : Int)])) := HB6.out.below BFZ.out HB6.out.lt
          have NBq : Hid (∀ q, wr.heap.size ≤ q → q ≠ p ∧ q ≠ r ∧ v1.ownBlock ≠ some q) := fun q hq => ⟨by have := LD.out.lt.1; omega, by have := LD.out.lt.2; omega, fun ee => by have := (LD.out.qu.lt q ee).2; omega⟩
          have NB8 := Hid.of (NBq.out p8 P8.out)
          have NB9 := Hid.of (NBq.out p9 P9.out)
          cases hsf : SF k with
          | true =>
            have c7 := WtB.seen DZ.out.wb (e := k) (by omega)
            rw [hsf] at c7
            have HNX : Hid (relL s (goL SF FF TA TB a b n (k + 1)) = relL s1 (crsD (rowS U8) (rowS U9) ln)) := by show _ = _; rw [goL_succ, relL_app, ← HS1.out]; unfold goE; rw [if_pos hsf, ← HU8.out, ← HU9.out, ← HLN.out]
            clear hsf
            go_wp2_with fail
            clear c7
            refine wp_region_held_drew (S := fun w' => w'.cell? ⟨p8, 0, none⟩ = some (.int .u64 (U8 0)) ∧ w'.cell? ⟨p8, 1, none⟩ = some (.int .u64 (U8 1)) ∧ w'.cell? ⟨p8, 2, none⟩ = some (.int .u64 (U8 2)) ∧ w'.cell? ⟨p8, 3, none⟩ = some (.int .u64 (U8 3)) ∧ w'.cell? ⟨p9, 0, none⟩ = some (.int .u64 (U9 0)) ∧ w'.cell? ⟨p9, 1, none⟩ = some (.int .u64 (U9 1)) ∧ w'.cell? ⟨p9, 2, none⟩ = some (.int .u64 (U9 2)) ∧ w'.cell? ⟨p9, 3, none⟩ = some (.int .u64 (U9 3)) ∧ w'.cell? ⟨p6, 0, none⟩ = some (.int .u64 ((ofS [(b : Int)]) 0)) ∧ w'.cell? ⟨p6, 1, none⟩ = some (.int .u64 ((ofS [(b : Int)]) 1)) ∧ w'.cell? ⟨p6, 2, none⟩ = some (.int .u64 ((ofS [(b : Int)]) 2)) ∧ w'.cell? ⟨p6, 3, none⟩ = some (.int .u64 ((ofS [(b : Int)]) 3))) (by kernel_rfl) (SAP.out p8 p9 _ (Blk.drew K8.out) (Blk.drew K9.out) (Blk.drew K6.out)) (fun hS => ?_)
            replace K8 : Hid (SB Z0.drew p8 U8) := Blk.drew K8.out
            replace K9 : Hid (SB Z0.drew p9 U9) := Blk.drew K9.out
            replace K6 : Hid (SB Z0.drew p6 (ofS [(b : Int)])) := Blk.drew K6.out
            replace K5 : Hid (SB Z0.drew p5 (ofS [(a : Int)])) := Blk.drew K5.out
            replace DZ : Hid (DW Z0.drew B p r m l SF FF TA TB v1 s1) := DZ.out.drew
            replace HTZ : Hid (Tab Z0.drew) := HTZ.out.below ((Below.refl Z0.heap.size _).drew) HTZ.out.lt
            replace BFZ : Hid (Below wr.heap.size wr Z0.drew) := BFZ.out.drew
            revert hS K8 K9 K6 K5 DZ HTZ BFZ
            generalize Z0.drew = Y0
            intro hS K8 K9 K6 K5 DZ HTZ BFZ
            refine wpAnyH_take (i := 0) (v := .pointer (some ⟨p, 0, none⟩)) rfl (by kernel_rfl) (by kernel_rfl) (by kernel_rfl) (fun _ _ _ h => h) (Or.inl ⟨by kernel_rfl, fun w' hw' => by obtain ⟨q0, q1, q2, q3, q4, q5, q6, q7, q8, q9, q10, q11⟩ := hw'; go_simp⟩) hS ?_
            refine wpAnyH_take (i := 1) (v := sval U8) rfl (by kernel_rfl) (by kernel_rfl) (by kernel_rfl) (fun _ _ _ h => h) (Or.inl ⟨by kernel_rfl, fun w' hw' => by obtain ⟨q0, q1, q2, q3, q4, q5, q6, q7, q8, q9, q10, q11⟩ := hw'; go_simp⟩) hS ?_
            refine wpAnyH_take (i := 2) (v := sval U9) rfl (by kernel_rfl) (by kernel_rfl) (by kernel_rfl) (fun _ _ _ h => h) (Or.inl ⟨by kernel_rfl, fun w' hw' => by obtain ⟨q0, q1, q2, q3, q4, q5, q6, q7, q8, q9, q10, q11⟩ := hw'; go_simp⟩) hS ?_
            refine wpAnyH_take (i := 3) (v := .pointer (some ⟨p, 0, none⟩)) rfl (by kernel_rfl) (by kernel_rfl) (by kernel_rfl) (fun _ _ _ h => h) (Or.inl ⟨by kernel_rfl, fun w' hw' => by obtain ⟨q0, q1, q2, q3, q4, q5, q6, q7, q8, q9, q10, q11⟩ := hw'; go_simp⟩) hS ?_
            refine wpAnyH_take (i := 4) (v := .int .i64 n) rfl (by kernel_rfl) (by kernel_rfl) (by kernel_rfl) (fun _ _ _ h => h) (Or.inl ⟨by kernel_rfl, fun w' hw' => by obtain ⟨q0, q1, q2, q3, q4, q5, q6, q7, q8, q9, q10, q11⟩ := hw'; go_simp⟩) hS ?_
            refine wpAnyH_take (i := 5) (v := .int .i64 (k : Int)) rfl (by kernel_rfl) (by kernel_rfl) (by kernel_rfl) (fun _ _ _ h => h) (Or.inl ⟨by kernel_rfl, fun w' hw' => by obtain ⟨q0, q1, q2, q3, q4, q5, q6, q7, q8, q9, q10, q11⟩ := hw'; go_simp⟩) hS ?_
            simp only [Act.put, List.setIfInBounds_toArray]
            refine wpAnyH_ready (rs := [6]) (by kernel_rfl) (by simp) ?_
            refine AllReadyH.cons rfl (fun K' hK' => ?_) AllReadyH.nil
            clear hS
            go_simp
            refine (behind_any p m l SF FF TA TB _ _ n hn0 (by omega) k (by omega) Y0 DZ.out.wb).mono ?_
            rintro e1 Y21 ⟨rfl, rfl⟩
            rw [← HLN.out]
            refine hK'.out _ _ (SAP.out p8 p9 _ K8.out K9.out K6.out) (fun hS => ?_)
            clear hK' K'
            refine wpAnyH_ready (rs := [7]) (by kernel_rfl) (by simp) ?_
            refine AllReadyH.cons rfl (fun K' hK' => ?_) AllReadyH.nil
            clear hS
            go_simp
            refine (dmeet_any U8 U9 okU8.out okU9.out bdU8.out bdU9.out ln s1 HQ1.out B p r hB0 m l SF FF TA TB v1 _ HTZ.out DZ.out).mono ?_
            rintro e1 Y22 ⟨rfl, v2, d2, k2⟩
            have D2 := Hid.of d2
            have KK := Hid.of k2
            replace K8 : Hid (SB _ p8 U8) := (k2.blk p8 K8.out.lt (NB8.out.1) (NB8.out.2.1) (NB8.out.2.2)).trans K8.out
            replace K9 : Hid (SB _ p9 U9) := (k2.blk p9 K9.out.lt (NB9.out.1) (NB9.out.2.1) (NB9.out.2.2)).trans K9.out
            replace K6 : Hid (SB _ p6 (ofS [(b : Int)])) := (k2.blk p6 K6.out.lt (NB6.out.1) (NB6.out.2.1) (NB6.out.2.2)).trans K6.out
            replace K5 : Hid (SB _ p5 (ofS [(a : Int)])) := (k2.blk p5 K5.out.lt (NB5.out.1) (NB5.out.2.1) (NB5.out.2.2)).trans K5.out
            refine hK'.out _ _ (SAP.out p8 p9 _ K8.out K9.out K6.out) (fun hS => ?_)
            clear hK' K' d2 k2
            refine wpAnyH_done (by kernel_rfl) ?_ _
            clear hS
            go_wp2_with fail
            go_roundw
            case rel => exact ⟨k + 1, v2, by omega, by go_num, (by show DW _ _ _ _ _ _ _ _ _ _ _ _; rw [HNX.out]; exact D2.out), Hid.of (LK.out.trans ((KDd.of_below BFZ.out HBwr.out).trans KK.out))⟩
            case measure => simp [intOf]; omega
          | false =>
            have c7 := WtB.seen DZ.out.wb (e := k) (by omega)
            rw [hsf] at c7
            have HNX : Hid (relL s (goL SF FF TA TB a b n (k + 1)) = relL (relL s1 (crsD (rowS U8) (rowS (ofS [(b : Int)])) ln)) (crsD (rowS (ofS [(a : Int)])) (rowS U9) n)) := by show _ = _; rw [goL_succ, relL_app, ← HS1.out]; unfold goE; rw [if_neg (by rw [hsf]; simp), relL_app, ← HU8.out, ← HU9.out, ← HLN.out]
            clear hsf
            go_wp2_with fail
            clear c7
            refine wp_region_held_drew (S := fun w' => w'.cell? ⟨p8, 0, none⟩ = some (.int .u64 (U8 0)) ∧ w'.cell? ⟨p8, 1, none⟩ = some (.int .u64 (U8 1)) ∧ w'.cell? ⟨p8, 2, none⟩ = some (.int .u64 (U8 2)) ∧ w'.cell? ⟨p8, 3, none⟩ = some (.int .u64 (U8 3)) ∧ w'.cell? ⟨p9, 0, none⟩ = some (.int .u64 (U9 0)) ∧ w'.cell? ⟨p9, 1, none⟩ = some (.int .u64 (U9 1)) ∧ w'.cell? ⟨p9, 2, none⟩ = some (.int .u64 (U9 2)) ∧ w'.cell? ⟨p9, 3, none⟩ = some (.int .u64 (U9 3)) ∧ w'.cell? ⟨p6, 0, none⟩ = some (.int .u64 ((ofS [(b : Int)]) 0)) ∧ w'.cell? ⟨p6, 1, none⟩ = some (.int .u64 ((ofS [(b : Int)]) 1)) ∧ w'.cell? ⟨p6, 2, none⟩ = some (.int .u64 ((ofS [(b : Int)]) 2)) ∧ w'.cell? ⟨p6, 3, none⟩ = some (.int .u64 ((ofS [(b : Int)]) 3))) (by kernel_rfl) (SAP.out p8 p9 _ (Blk.drew K8.out) (Blk.drew K9.out) (Blk.drew K6.out)) (fun hS => ?_)
            replace K8 : Hid (SB Z0.drew p8 U8) := Blk.drew K8.out
            replace K9 : Hid (SB Z0.drew p9 U9) := Blk.drew K9.out
            replace K6 : Hid (SB Z0.drew p6 (ofS [(b : Int)])) := Blk.drew K6.out
            replace K5 : Hid (SB Z0.drew p5 (ofS [(a : Int)])) := Blk.drew K5.out
            replace DZ : Hid (DW Z0.drew B p r m l SF FF TA TB v1 s1) := DZ.out.drew
            replace HTZ : Hid (Tab Z0.drew) := HTZ.out.below ((Below.refl Z0.heap.size _).drew) HTZ.out.lt
            replace BFZ : Hid (Below wr.heap.size wr Z0.drew) := BFZ.out.drew
            revert hS K8 K9 K6 K5 DZ HTZ BFZ
            generalize Z0.drew = Y0
            intro hS K8 K9 K6 K5 DZ HTZ BFZ
            refine wpAnyH_take (i := 0) (v := .pointer (some ⟨p, 0, none⟩)) rfl (by kernel_rfl) (by kernel_rfl) (by kernel_rfl) (fun _ _ _ h => h) (Or.inl ⟨by kernel_rfl, fun w' hw' => by obtain ⟨q0, q1, q2, q3, q4, q5, q6, q7, q8, q9, q10, q11⟩ := hw'; go_simp⟩) hS ?_
            refine wpAnyH_take (i := 1) (v := sval U8) rfl (by kernel_rfl) (by kernel_rfl) (by kernel_rfl) (fun _ _ _ h => h) (Or.inl ⟨by kernel_rfl, fun w' hw' => by obtain ⟨q0, q1, q2, q3, q4, q5, q6, q7, q8, q9, q10, q11⟩ := hw'; go_simp⟩) hS ?_
            refine wpAnyH_take (i := 2) (v := sval (ofS [(b : Int)])) rfl (by kernel_rfl) (by kernel_rfl) (by kernel_rfl) (fun _ _ _ h => h) (Or.inl ⟨by kernel_rfl, fun w' hw' => by obtain ⟨q0, q1, q2, q3, q4, q5, q6, q7, q8, q9, q10, q11⟩ := hw'; go_simp⟩) hS ?_
            refine wpAnyH_take (i := 3) (v := .pointer (some ⟨p, 0, none⟩)) rfl (by kernel_rfl) (by kernel_rfl) (by kernel_rfl) (fun _ _ _ h => h) (Or.inl ⟨by kernel_rfl, fun w' hw' => by obtain ⟨q0, q1, q2, q3, q4, q5, q6, q7, q8, q9, q10, q11⟩ := hw'; go_simp⟩) hS ?_
            refine wpAnyH_take (i := 4) (v := .int .i64 n) rfl (by kernel_rfl) (by kernel_rfl) (by kernel_rfl) (fun _ _ _ h => h) (Or.inl ⟨by kernel_rfl, fun w' hw' => by obtain ⟨q0, q1, q2, q3, q4, q5, q6, q7, q8, q9, q10, q11⟩ := hw'; go_simp⟩) hS ?_
            refine wpAnyH_take (i := 5) (v := .int .i64 (k : Int)) rfl (by kernel_rfl) (by kernel_rfl) (by kernel_rfl) (fun _ _ _ h => h) (Or.inl ⟨by kernel_rfl, fun w' hw' => by obtain ⟨q0, q1, q2, q3, q4, q5, q6, q7, q8, q9, q10, q11⟩ := hw'; go_simp⟩) hS ?_
            simp only [Act.put, List.setIfInBounds_toArray]
            refine wpAnyH_ready (rs := [6]) (by kernel_rfl) (by simp) ?_
            refine AllReadyH.cons rfl (fun K' hK' => ?_) AllReadyH.nil
            clear hS
            go_simp
            refine (behind_any p m l SF FF TA TB _ _ n hn0 (by omega) k (by omega) Y0 DZ.out.wb).mono ?_
            rintro e1 Y21 ⟨rfl, rfl⟩
            rw [← HLN.out]
            refine hK'.out _ _ (SAP.out p8 p9 _ K8.out K9.out K6.out) (fun hS => ?_)
            clear hK' K'
            refine wpAnyH_ready (rs := [7]) (by kernel_rfl) (by simp) ?_
            refine AllReadyH.cons rfl (fun K' hK' => ?_) AllReadyH.nil
            clear hS
            go_simp
            refine (dmeet_any U8 (ofS [(b : Int)]) okU8.out okB.out bdU8.out bdB.out ln s1 HQ1.out B p r hB0 m l SF FF TA TB v1 _ HTZ.out DZ.out).mono ?_
            rintro e1 Y22 ⟨rfl, v2, d2, k2⟩
            have D2 := Hid.of d2
            have KK := Hid.of k2
            replace K8 : Hid (SB _ p8 U8) := (k2.blk p8 K8.out.lt (NB8.out.1) (NB8.out.2.1) (NB8.out.2.2)).trans K8.out
            replace K9 : Hid (SB _ p9 U9) := (k2.blk p9 K9.out.lt (NB9.out.1) (NB9.out.2.1) (NB9.out.2.2)).trans K9.out
            replace K6 : Hid (SB _ p6 (ofS [(b : Int)])) := (k2.blk p6 K6.out.lt (NB6.out.1) (NB6.out.2.1) (NB6.out.2.2)).trans K6.out
            replace K5 : Hid (SB _ p5 (ofS [(a : Int)])) := (k2.blk p5 K5.out.lt (NB5.out.1) (NB5.out.2.1) (NB5.out.2.2)).trans K5.out
            refine hK'.out _ _ (SAP.out p8 p9 _ K8.out K9.out K6.out) (fun hS => ?_)
            clear hK' K' d2 k2
            refine wpAnyH_done (by kernel_rfl) ?_ _
            clear hS
            have HT3 : Hid (Tab Y22) := HTZ.out.below KK.out.bel hB0
            obtain ⟨a0, a1, a2, a3⟩ := SB.cells K5.out
            obtain ⟨z0, z1, z2, z3⟩ := SB.cells K9.out
            go_wp2_with fail
            clear a0 a1 a2 a3 z0 z1 z2 z3
            refine (dmeet_any (ofS [(a : Int)]) U9 okA.out okU9.out bdA.out bdU9.out n (relL s1 (crsD (rowS U8) (rowS (ofS [(b : Int)])) ln)) HQ2.out B p r hB0 m l SF FF TA TB v2 _ HT3.out D2.out).mono ?_
            rintro e1 Y9 ⟨rfl, v3, d3, k3⟩
            have D3 := Hid.of d3
            have K3 := Hid.of k3
            clear d3 k3
            go_wp2_with fail
            go_roundw
            case rel => exact ⟨k + 1, v3, by omega, by go_num, (by show DW _ _ _ _ _ _ _ _ _ _ _ _; rw [HNX.out]; exact D3.out), Hid.of (LK.out.trans ((KDd.of_below BFZ.out HBwr.out).trans (KK.out.trans K3.out)))⟩
            case measure => simp [intOf]; omega
        · clear hS
          go_simp
          have hb : Below Y0.heap.size Y0 (Y0.alloc (.cells #[.int .u64 0, .int .u64 0, .int .u64 0, .int .u64 0] 79)) := (Below.refl _ _).alloc (Nat.le_refl _) _
          have P9 := Hid.of BF.out.size
          replace BF := Hid.of (BF.out.trans (hb.mono BF.out.size))
          have K9 := Hid.of (Blk.new Y0 79 #[.int .u64 0, .int .u64 0, .int .u64 0, .int .u64 0])
          refine hK'.out _ _ (SA6.out _ BF.out) (fun hS => ?_)
          clear hK' K' hb
          revert P9 BF K9 hS
          generalize Y0.alloc (.cells #[.int .u64 0, .int .u64 0, .int .u64 0, .int .u64 0] 79) = Y3
          generalize Y0.heap.size = p9
          intro P9 BF K9 hS
          refine wpAnyH_ready (rs := [18]) (by kernel_rfl) (by simp) ?_
          refine AllReadyH.cons rfl (fun K' hK' => ?_) AllReadyH.nil
          clear hS
          go_simp
          have hb : Below Y3.heap.size Y3 (Y3.alloc (.cells #[.int .u64 0, .int .u64 0, .int .u64 0, .int .u64 0] 79)) := (Below.refl _ _).alloc (Nat.le_refl _) _
          have P8 := Hid.of BF.out.size
          have N89 := Hid.of (Ne.symm (Nat.ne_of_lt K9.out.lt))
          replace BF := Hid.of (BF.out.trans (hb.mono BF.out.size))
          replace K9 := Hid.of (K9.out.below hb K9.out.lt)
          have K8 := Hid.of (Blk.new Y3 79 #[.int .u64 0, .int .u64 0, .int .u64 0, .int .u64 0])
          refine hK'.out _ _ (SA6.out _ BF.out) (fun hS => ?_)
          clear hK' K' hb
          revert P8 N89 BF K9 K8 hS
          generalize Y3.alloc (.cells #[.int .u64 0, .int .u64 0, .int .u64 0, .int .u64 0] 79) = Y4
          generalize Y3.heap.size = p8
          intro P8 N89 BF K9 K8 hS
          refine wpAnyH_ready (rs := [20]) (by kernel_rfl) (by simp) ?_
          refine AllReadyH.cons rfl (fun K' hK' => ?_) AllReadyH.nil
          clear hS
          replace K8 : Hid (SB Y4 p8 zeroS) := K8
          replace K9 : Hid (SB Y4 p9 zeroS) := K9
          have f8 := K8.out.frozen
          obtain ⟨y0, y1, y2, y3⟩ := SB.cells K8.out
          go_simp
          replace K9 : Hid (SB _ p9 zeroS) := Blk.other4 K9.out (Ne.symm N89.out) (.int .u64 (U8 0)) (.int .u64 (U8 1)) (.int .u64 (U8 2)) (.int .u64 (U8 3))
          replace BF := Hid.of (below_set4 BF.out (b' := p8) P8.out (.int .u64 (U8 0)) (.int .u64 (U8 1)) (.int .u64 (U8 2)) (.int .u64 (U8 3)))
          replace K8 := Hid.of (SB.set4 K8.out U8)
          refine hK'.out _ _ (SA6.out _ BF.out) (fun hS => ?_)
          clear hK' K' f8 y0 y1 y2 y3
          refine wpAnyH_ready (rs := [21]) (by kernel_rfl) (by simp) ?_
          refine AllReadyH.cons rfl (fun K' hK' => ?_) AllReadyH.nil
          clear hS
          have f9 := K9.out.frozen
          obtain ⟨y0, y1, y2, y3⟩ := SB.cells K9.out
          go_simp
          replace K8 : Hid (SB _ p8 U8) := Blk.other4 K8.out N89.out (.int .u64 (U9 0)) (.int .u64 (U9 1)) (.int .u64 (U9 2)) (.int .u64 (U9 3))
          replace BF := Hid.of (below_set4 BF.out (b' := p9) P9.out (.int .u64 (U9 0)) (.int .u64 (U9 1)) (.int .u64 (U9 2)) (.int .u64 (U9 3)))
          replace K9 := Hid.of (SB.set4 K9.out U9)
          refine hK'.out _ _ (SA6.out _ BF.out) (fun hS => ?_)
          clear hK' K' f9 y0 y1 y2 y3
          refine wpAnyH_done (by kernel_rfl) ?_ _
          clear hS
          revert K8 K9 BF
          generalize ((((((((Y4.setCell ⟨p8, 0, none⟩ (.int .u64 (U8 0))).setCell ⟨p8, 1, none⟩ (.int .u64 (U8 1))).setCell ⟨p8, 2, none⟩ (.int .u64 (U8 2))).setCell ⟨p8, 3, none⟩ (.int .u64 (U8 3))).setCell ⟨p9, 0, none⟩ (.int .u64 (U9 0))).setCell ⟨p9, 1, none⟩ (.int .u64 (U9 1))).setCell ⟨p9, 2, none⟩ (.int .u64 (U9 2))).setCell ⟨p9, 3, none⟩ (.int .u64 (U9 3))) = Z0
          intro K8 BF K9
          have BFZ := BF
          have DZ := Hid.of (LD.out.below BFZ.out)
          have HTZ : Hid (Tab Z0) := HTW.out.below BFZ.out HTW.out.lt
          have K5 : Hid (SB Z0 p5 (ofS [(a : Int)])) := HB5.out.below BFZ.out HB5.out.lt
          have K6 : Hid (SB Z0 p6 (ofS [(b : Int)])) := HB6.out.below BFZ.out HB6.out.lt
          have NBq : Hid (∀ q, wr.heap.size ≤ q → q ≠ p ∧ q ≠ r ∧ v1.ownBlock ≠ some q) := fun q hq => ⟨by have := LD.out.lt.1; omega, by have := LD.out.lt.2; omega, fun ee => by have := (LD.out.qu.lt q ee).2; omega⟩
          have NB8 := Hid.of (NBq.out p8 P8.out)
          have NB9 := Hid.of (NBq.out p9 P9.out)
          cases hsf : SF k with
          | true =>
            have c7 := WtB.seen DZ.out.wb (e := k) (by omega)
            rw [hsf] at c7
            have HNX : Hid (relL s (goL SF FF TA TB a b n (k + 1)) = relL s1 (crsD (rowS U8) (rowS U9) ln)) := by show _ = _; rw [goL_succ, relL_app, ← HS1.out]; unfold goE; rw [if_pos hsf, ← HU8.out, ← HU9.out, ← HLN.out]
            clear hsf
            go_wp2_with fail
            clear c7
            refine wp_region_held_drew (S := fun w' => w'.cell? ⟨p8, 0, none⟩ = some (.int .u64 (U8 0)) ∧ w'.cell? ⟨p8, 1, none⟩ = some (.int .u64 (U8 1)) ∧ w'.cell? ⟨p8, 2, none⟩ = some (.int .u64 (U8 2)) ∧ w'.cell? ⟨p8, 3, none⟩ = some (.int .u64 (U8 3)) ∧ w'.cell? ⟨p9, 0, none⟩ = some (.int .u64 (U9 0)) ∧ w'.cell? ⟨p9, 1, none⟩ = some (.int .u64 (U9 1)) ∧ w'.cell? ⟨p9, 2, none⟩ = some (.int .u64 (U9 2)) ∧ w'.cell? ⟨p9, 3, none⟩ = some (.int .u64 (U9 3)) ∧ w'.cell? ⟨p6, 0, none⟩ = some (.int .u64 ((ofS [(b : Int)]) 0)) ∧ w'.cell? ⟨p6, 1, none⟩ = some (.int .u64 ((ofS [(b : Int)]) 1)) ∧ w'.cell? ⟨p6, 2, none⟩ = some (.int .u64 ((ofS [(b : Int)]) 2)) ∧ w'.cell? ⟨p6, 3, none⟩ = some (.int .u64 ((ofS [(b : Int)]) 3))) (by kernel_rfl) (SAP.out p8 p9 _ (Blk.drew K8.out) (Blk.drew K9.out) (Blk.drew K6.out)) (fun hS => ?_)
            replace K8 : Hid (SB Z0.drew p8 U8) := Blk.drew K8.out
            replace K9 : Hid (SB Z0.drew p9 U9) := Blk.drew K9.out
            replace K6 : Hid (SB Z0.drew p6 (ofS [(b : Int)])) := Blk.drew K6.out
            replace K5 : Hid (SB Z0.drew p5 (ofS [(a : Int)])) := Blk.drew K5.out
            replace DZ : Hid (DW Z0.drew B p r m l SF FF TA TB v1 s1) := DZ.out.drew
            replace HTZ : Hid (Tab Z0.drew) := HTZ.out.below ((Below.refl Z0.heap.size _).drew) HTZ.out.lt
            replace BFZ : Hid (Below wr.heap.size wr Z0.drew) := BFZ.out.drew
            revert hS K8 K9 K6 K5 DZ HTZ BFZ
            generalize Z0.drew = Y0
            intro hS K8 K9 K6 K5 DZ HTZ BFZ
            refine wpAnyH_take (i := 0) (v := .pointer (some ⟨p, 0, none⟩)) rfl (by kernel_rfl) (by kernel_rfl) (by kernel_rfl) (fun _ _ _ h => h) (Or.inl ⟨by kernel_rfl, fun w' hw' => by obtain ⟨q0, q1, q2, q3, q4, q5, q6, q7, q8, q9, q10, q11⟩ := hw'; go_simp⟩) hS ?_
            refine wpAnyH_take (i := 1) (v := sval U8) rfl (by kernel_rfl) (by kernel_rfl) (by kernel_rfl) (fun _ _ _ h => h) (Or.inl ⟨by kernel_rfl, fun w' hw' => by obtain ⟨q0, q1, q2, q3, q4, q5, q6, q7, q8, q9, q10, q11⟩ := hw'; go_simp⟩) hS ?_
            refine wpAnyH_take (i := 2) (v := sval U9) rfl (by kernel_rfl) (by kernel_rfl) (by kernel_rfl) (fun _ _ _ h => h) (Or.inl ⟨by kernel_rfl, fun w' hw' => by obtain ⟨q0, q1, q2, q3, q4, q5, q6, q7, q8, q9, q10, q11⟩ := hw'; go_simp⟩) hS ?_
            refine wpAnyH_take (i := 3) (v := .pointer (some ⟨p, 0, none⟩)) rfl (by kernel_rfl) (by kernel_rfl) (by kernel_rfl) (fun _ _ _ h => h) (Or.inl ⟨by kernel_rfl, fun w' hw' => by obtain ⟨q0, q1, q2, q3, q4, q5, q6, q7, q8, q9, q10, q11⟩ := hw'; go_simp⟩) hS ?_
            refine wpAnyH_take (i := 4) (v := .int .i64 n) rfl (by kernel_rfl) (by kernel_rfl) (by kernel_rfl) (fun _ _ _ h => h) (Or.inl ⟨by kernel_rfl, fun w' hw' => by obtain ⟨q0, q1, q2, q3, q4, q5, q6, q7, q8, q9, q10, q11⟩ := hw'; go_simp⟩) hS ?_
            refine wpAnyH_take (i := 5) (v := .int .i64 (k : Int)) rfl (by kernel_rfl) (by kernel_rfl) (by kernel_rfl) (fun _ _ _ h => h) (Or.inl ⟨by kernel_rfl, fun w' hw' => by obtain ⟨q0, q1, q2, q3, q4, q5, q6, q7, q8, q9, q10, q11⟩ := hw'; go_simp⟩) hS ?_
            simp only [Act.put, List.setIfInBounds_toArray]
            refine wpAnyH_ready (rs := [6]) (by kernel_rfl) (by simp) ?_
            refine AllReadyH.cons rfl (fun K' hK' => ?_) AllReadyH.nil
            clear hS
            go_simp
            refine (behind_any p m l SF FF TA TB _ _ n hn0 (by omega) k (by omega) Y0 DZ.out.wb).mono ?_
            rintro e1 Y21 ⟨rfl, rfl⟩
            rw [← HLN.out]
            refine hK'.out _ _ (SAP.out p8 p9 _ K8.out K9.out K6.out) (fun hS => ?_)
            clear hK' K'
            refine wpAnyH_ready (rs := [7]) (by kernel_rfl) (by simp) ?_
            refine AllReadyH.cons rfl (fun K' hK' => ?_) AllReadyH.nil
            clear hS
            go_simp
            refine (dmeet_any U8 U9 okU8.out okU9.out bdU8.out bdU9.out ln s1 HQ1.out B p r hB0 m l SF FF TA TB v1 _ HTZ.out DZ.out).mono ?_
            rintro e1 Y22 ⟨rfl, v2, d2, k2⟩
            have D2 := Hid.of d2
            have KK := Hid.of k2
            replace K8 : Hid (SB _ p8 U8) := (k2.blk p8 K8.out.lt (NB8.out.1) (NB8.out.2.1) (NB8.out.2.2)).trans K8.out
            replace K9 : Hid (SB _ p9 U9) := (k2.blk p9 K9.out.lt (NB9.out.1) (NB9.out.2.1) (NB9.out.2.2)).trans K9.out
            replace K6 : Hid (SB _ p6 (ofS [(b : Int)])) := (k2.blk p6 K6.out.lt (NB6.out.1) (NB6.out.2.1) (NB6.out.2.2)).trans K6.out
            replace K5 : Hid (SB _ p5 (ofS [(a : Int)])) := (k2.blk p5 K5.out.lt (NB5.out.1) (NB5.out.2.1) (NB5.out.2.2)).trans K5.out
            refine hK'.out _ _ (SAP.out p8 p9 _ K8.out K9.out K6.out) (fun hS => ?_)
            clear hK' K' d2 k2
            refine wpAnyH_done (by kernel_rfl) ?_ _
            clear hS
            go_wp2_with fail
            go_roundw
            case rel => exact ⟨k + 1, v2, by omega, by go_num, (by show DW _ _ _ _ _ _ _ _ _ _ _ _; rw [HNX.out]; exact D2.out), Hid.of (LK.out.trans ((KDd.of_below BFZ.out HBwr.out).trans KK.out))⟩
            case measure => simp [intOf]; omega
          | false =>
            have c7 := WtB.seen DZ.out.wb (e := k) (by omega)
            rw [hsf] at c7
            have HNX : Hid (relL s (goL SF FF TA TB a b n (k + 1)) = relL (relL s1 (crsD (rowS U8) (rowS (ofS [(b : Int)])) ln)) (crsD (rowS (ofS [(a : Int)])) (rowS U9) n)) := by show _ = _; rw [goL_succ, relL_app, ← HS1.out]; unfold goE; rw [if_neg (by rw [hsf]; simp), relL_app, ← HU8.out, ← HU9.out, ← HLN.out]
            clear hsf
            go_wp2_with fail
            clear c7
            refine wp_region_held_drew (S := fun w' => w'.cell? ⟨p8, 0, none⟩ = some (.int .u64 (U8 0)) ∧ w'.cell? ⟨p8, 1, none⟩ = some (.int .u64 (U8 1)) ∧ w'.cell? ⟨p8, 2, none⟩ = some (.int .u64 (U8 2)) ∧ w'.cell? ⟨p8, 3, none⟩ = some (.int .u64 (U8 3)) ∧ w'.cell? ⟨p9, 0, none⟩ = some (.int .u64 (U9 0)) ∧ w'.cell? ⟨p9, 1, none⟩ = some (.int .u64 (U9 1)) ∧ w'.cell? ⟨p9, 2, none⟩ = some (.int .u64 (U9 2)) ∧ w'.cell? ⟨p9, 3, none⟩ = some (.int .u64 (U9 3)) ∧ w'.cell? ⟨p6, 0, none⟩ = some (.int .u64 ((ofS [(b : Int)]) 0)) ∧ w'.cell? ⟨p6, 1, none⟩ = some (.int .u64 ((ofS [(b : Int)]) 1)) ∧ w'.cell? ⟨p6, 2, none⟩ = some (.int .u64 ((ofS [(b : Int)]) 2)) ∧ w'.cell? ⟨p6, 3, none⟩ = some (.int .u64 ((ofS [(b : Int)]) 3))) (by kernel_rfl) (SAP.out p8 p9 _ (Blk.drew K8.out) (Blk.drew K9.out) (Blk.drew K6.out)) (fun hS => ?_)
            replace K8 : Hid (SB Z0.drew p8 U8) := Blk.drew K8.out
            replace K9 : Hid (SB Z0.drew p9 U9) := Blk.drew K9.out
            replace K6 : Hid (SB Z0.drew p6 (ofS [(b : Int)])) := Blk.drew K6.out
            replace K5 : Hid (SB Z0.drew p5 (ofS [(a : Int)])) := Blk.drew K5.out
            replace DZ : Hid (DW Z0.drew B p r m l SF FF TA TB v1 s1) := DZ.out.drew
            replace HTZ : Hid (Tab Z0.drew) := HTZ.out.below ((Below.refl Z0.heap.size _).drew) HTZ.out.lt
            replace BFZ : Hid (Below wr.heap.size wr Z0.drew) := BFZ.out.drew
            revert hS K8 K9 K6 K5 DZ HTZ BFZ
            generalize Z0.drew = Y0
            intro hS K8 K9 K6 K5 DZ HTZ BFZ
            refine wpAnyH_take (i := 0) (v := .pointer (some ⟨p, 0, none⟩)) rfl (by kernel_rfl) (by kernel_rfl) (by kernel_rfl) (fun _ _ _ h => h) (Or.inl ⟨by kernel_rfl, fun w' hw' => by obtain ⟨q0, q1, q2, q3, q4, q5, q6, q7, q8, q9, q10, q11⟩ := hw'; go_simp⟩) hS ?_
            refine wpAnyH_take (i := 1) (v := sval U8) rfl (by kernel_rfl) (by kernel_rfl) (by kernel_rfl) (fun _ _ _ h => h) (Or.inl ⟨by kernel_rfl, fun w' hw' => by obtain ⟨q0, q1, q2, q3, q4, q5, q6, q7, q8, q9, q10, q11⟩ := hw'; go_simp⟩) hS ?_
            refine wpAnyH_take (i := 2) (v := sval (ofS [(b : Int)])) rfl (by kernel_rfl) (by kernel_rfl) (by kernel_rfl) (fun _ _ _ h => h) (Or.inl ⟨by kernel_rfl, fun w' hw' => by obtain ⟨q0, q1, q2, q3, q4, q5, q6, q7, q8, q9, q10, q11⟩ := hw'; go_simp⟩) hS ?_
            refine wpAnyH_take (i := 3) (v := .pointer (some ⟨p, 0, none⟩)) rfl (by kernel_rfl) (by kernel_rfl) (by kernel_rfl) (fun _ _ _ h => h) (Or.inl ⟨by kernel_rfl, fun w' hw' => by obtain ⟨q0, q1, q2, q3, q4, q5, q6, q7, q8, q9, q10, q11⟩ := hw'; go_simp⟩) hS ?_
            refine wpAnyH_take (i := 4) (v := .int .i64 n) rfl (by kernel_rfl) (by kernel_rfl) (by kernel_rfl) (fun _ _ _ h => h) (Or.inl ⟨by kernel_rfl, fun w' hw' => by obtain ⟨q0, q1, q2, q3, q4, q5, q6, q7, q8, q9, q10, q11⟩ := hw'; go_simp⟩) hS ?_
            refine wpAnyH_take (i := 5) (v := .int .i64 (k : Int)) rfl (by kernel_rfl) (by kernel_rfl) (by kernel_rfl) (fun _ _ _ h => h) (Or.inl ⟨by kernel_rfl, fun w' hw' => by obtain ⟨q0, q1, q2, q3, q4, q5, q6, q7, q8, q9, q10, q11⟩ := hw'; go_simp⟩) hS ?_
            simp only [Act.put, List.setIfInBounds_toArray]
            refine wpAnyH_ready (rs := [6]) (by kernel_rfl) (by simp) ?_
            refine AllReadyH.cons rfl (fun K' hK' => ?_) AllReadyH.nil
            clear hS
            go_simp
            refine (behind_any p m l SF FF TA TB _ _ n hn0 (by omega) k (by omega) Y0 DZ.out.wb).mono ?_
            rintro e1 Y21 ⟨rfl, rfl⟩
            rw [← HLN.out]
            refine hK'.out _ _ (SAP.out p8 p9 _ K8.out K9.out K6.out) (fun hS => ?_)
            clear hK' K'
            refine wpAnyH_ready (rs := [7]) (by kernel_rfl) (by simp) ?_
            refine AllReadyH.cons rfl (fun K' hK' => ?_) AllReadyH.nil
            clear hS
            go_simp
            refine (dmeet_any U8 (ofS [(b : Int)]) okU8.out okB.out bdU8.out bdB.out ln s1 HQ1.out B p r hB0 m l SF FF TA TB v1 _ HTZ.out DZ.out).mono ?_
            rintro e1 Y22 ⟨rfl, v2, d2, k2⟩
            have D2 := Hid.of d2
            have KK := Hid.of k2
            replace K8 : Hid (SB _ p8 U8) := (k2.blk p8 K8.out.lt (NB8.out.1) (NB8.out.2.1) (NB8.out.2.2)).trans K8.out
            replace K9 : Hid (SB _ p9 U9) := (k2.blk p9 K9.out.lt (NB9.out.1) (NB9.out.2.1) (NB9.out.2.2)).trans K9.out
            replace K6 : Hid (SB _ p6 (ofS [(b : Int)])) := (k2.blk p6 K6.out.lt (NB6.out.1) (NB6.out.2.1) (NB6.out.2.2)).trans K6.out
            replace K5 : Hid (SB _ p5 (ofS [(a : Int)])) := (k2.blk p5 K5.out.lt (NB5.out.1) (NB5.out.2.1) (NB5.out.2.2)).trans K5.out
            refine hK'.out _ _ (SAP.out p8 p9 _ K8.out K9.out K6.out) (fun hS => ?_)
            clear hK' K' d2 k2
            refine wpAnyH_done (by kernel_rfl) ?_ _
            clear hS
            have HT3 : Hid (Tab Y22) := HTZ.out.below KK.out.bel hB0
            obtain ⟨a0, a1, a2, a3⟩ := SB.cells K5.out
            obtain ⟨z0, z1, z2, z3⟩ := SB.cells K9.out
            go_wp2_with fail
            clear a0 a1 a2 a3 z0 z1 z2 z3
            refine (dmeet_any (ofS [(a : Int)]) U9 okA.out okU9.out bdA.out bdU9.out n (relL s1 (crsD (rowS U8) (rowS (ofS [(b : Int)])) ln)) HQ2.out B p r hB0 m l SF FF TA TB v2 _ HT3.out D2.out).mono ?_
            rintro e1 Y9 ⟨rfl, v3, d3, k3⟩
            have D3 := Hid.of d3
            have K3 := Hid.of k3
            clear d3 k3
            go_wp2_with fail
            go_roundw
            case rel => exact ⟨k + 1, v3, by omega, by go_num, (by show DW _ _ _ _ _ _ _ _ _ _ _ _; rw [HNX.out]; exact D3.out), Hid.of (LK.out.trans ((KDd.of_below BFZ.out HBwr.out).trans (KK.out.trans K3.out)))⟩
            case measure => simp [intOf]; omega

      · have hk2 : k = ev := by omega
        subst hk2
        go_wp2_with fail
        go_end0
        exact ⟨rfl, v1, LD.out, (KDd.of_below BX.out HBw.out).trans LK.out⟩

end Go.Proofs.YtgebfkmfhpcdhaaDoor
