/-
  The walks of slices.Index, slices.Contains and row.Has: whether a list has a number.
  The walk of beside.leads.
  The walk of finder.spread.
  The walks of finder.end and finder.list.
  The walk of machine.compare.
-/
import Derived.Test.YtcjcjaeaoianfaaDoorG03
import Derived.Test.YtcjcjaeaoianfaaDoorG12
import Derived.Test.YtcjcjaeaoianfaaDoorG11
namespace Go.Proofs.YtcjcjaeaoianfaaDoor
open Go.RowKit

/-- What slices.Index answers: the first place, or -1. -/
def idxFrom (n : Int) : Nat → List Int → Int
  | _, [] => -1
  | k, x :: r => if n = x then k else idxFrom n (k + 1) r

theorem idx_has (n : Int) : ∀ (xs : List Int) (k : Nat), decide (0 ≤ idxFrom n k xs) = hasB xs n
  | [], _ => rfl
  | x :: r, k => by
    unfold idxFrom
    by_cases h : n = x
    · rw [if_pos h]; subst h; simp [hasB]
    · rw [if_neg h, idx_has n r (k + 1)]
      have h1 : (n == x) = false := by simp [h]
      simp only [hasB, List.contains_cons, h1, Bool.false_or]
theorem idx_bd (n : Int) : ∀ (xs : List Int) (k : Nat), -1 ≤ idxFrom n k xs ∧ idxFrom n k xs ≤ k + xs.length
  | [], _ => by simp [idxFrom]
  | x :: r, k => by
    unfold idxFrom
    have := idx_bd n r (k + 1)
    split
    · simp; omega
    · simp only [List.length_cons]; omega
theorem idx_hit {xs : List Int} {k : Nat} {n x : Int} (h : k < xs.length) (e : Hid (idxFrom n 0 xs = idxFrom n k (xs.drop k))) (hv : Hid (x = xs[k]?.getD 0)) (hx : (n == x) = true) : (k : Int) = idxFrom n 0 xs := by
  have hx : n = x := by simpa using hx
  rw [e.out, drop_cons h, ← hv.out, idxFrom, if_pos hx]
theorem idx_miss {xs : List Int} {k : Nat} {n x : Int} (h : k < xs.length) (e : Hid (idxFrom n 0 xs = idxFrom n k (xs.drop k))) (hv : Hid (x = xs[k]?.getD 0)) (hx : (n == x) = false) : Hid (idxFrom n 0 xs = idxFrom n (k + 1) (xs.drop (k + 1))) := by
  have hx : ¬ n = x := by simpa using hx
  show idxFrom n 0 xs = _
  rw [e.out, drop_cons h, ← hv.out, idxFrom, if_neg hx]
theorem idx_end {xs : List Int} {k : Nat} {n : Int} (h : ¬ k < xs.length) (e : Hid (idxFrom n 0 xs = idxFrom n k (xs.drop k))) : -1 = idxFrom n 0 xs := by
  rw [e.out, List.drop_eq_nil_of_le (by omega)]; rfl

set_option maxHeartbeats 400000 in
theorem index_some (b off cap : Nat) (xs : List Int) (n : Int) (w : World) (hl : xs.length ≤ 9223372036854775807) (hc : Cells w b off xs) :
    Calls Tryd.prog 122 #[.slice (some ⟨b, off, none⟩) xs.length cap, .int .i64 n] w fun e w' => e = .returned (.int .i64 (idxFrom n 0 xs)) ∧ w' = w := by
  go_enter Tryd.func122, Tryd.ntmps122
  go_wp2
  go_loop [8] (fun i => ∃ k : Nat, k ≤ xs.length ∧ i = .int .i64 k ∧ Hid (idxFrom n 0 xs = idxFrom n k (xs.drop k))) (fun i => xs.length - (intOf i).toNat)
  case atStart => exact ⟨0, Nat.zero_le _, rfl, rfl⟩
  case round =>
    obtain ⟨k, hk, rfl, he⟩ := hrel
    by_cases hlt : k < xs.length
    · obtain ⟨x, HX, hcell⟩ := hc.at hlt
      go_wp2
      · go_ret
        exact ⟨ret_int (idx_hit hlt he HX (by assumption)), rfl⟩
      · go_round
        case rel => exact ⟨k + 1, by omega, by go_num, idx_miss hlt he HX (by assumption)⟩
        case measure => simp [intOf]; omega
    · go_wp2
      go_ret
      exact ⟨ret_int (idx_end hlt he), rfl⟩

set_option maxHeartbeats 400000 in
theorem index_nil (a : Option Addr) (cap : Nat) (n : Int) (w : World) :
    Calls Tryd.prog 122 #[.slice a 0 cap, .int .i64 n] w fun e w' => e = .returned (.int .i64 (-1)) ∧ w' = w := by
  go_enter Tryd.func122, Tryd.ntmps122
  go_wp2
  refine wp_loop_rounds 1 ?_
  rw [rounds_succ]
  go_wp2
  go_ret
  exact ⟨rfl, rfl⟩

theorem index_any (a : Option Addr) (cap : Nat) (xs : List Int) (n : Int) (w : World) (hs : At w a xs) (hl : xs.length ≤ maxLen) :
    Calls Tryd.prog 122 #[.slice a xs.length cap, .int .i64 n] w fun e w' => e = .returned (.int .i64 (idxFrom n 0 xs)) ∧ w' = w := by
  rcases hs with rfl | ⟨b, off, rfl, -, hc⟩
  · exact index_nil a cap n w
  · exact index_some b off cap xs n w hl hc

set_option maxHeartbeats 400000 in
theorem contains_any (a : Option Addr) (cap : Nat) (xs : List Int) (n : Int) (w : World) (hs : At w a xs) (hl : xs.length ≤ maxLen) :
    Calls Tryd.prog 108 #[.slice a xs.length cap, .int .i64 n] w fun e w' => e = .returned (.bool (hasB xs n)) ∧ w' = w := by
  go_enter Tryd.func108, Tryd.ntmps108
  go_wp2_with fail
  refine (index_any a cap xs n _ hs hl).mono ?_
  rintro e w' ⟨rfl, rfl⟩
  go_wp2
  go_ret
  exact ⟨ret_bool (idx_has n xs 0), rfl⟩

set_option maxHeartbeats 400000 in
theorem rowHas_any (a : Option Addr) (cap : Nat) (xs : List Int) (n : Int) (w : World) (hs : At w a xs) (hl : xs.length ≤ maxLen) :
    Calls Tryd.prog 86 #[.slice a xs.length cap, .int .i64 n] w fun e w' => e = .returned (.bool (hasB xs n)) ∧ w' = w := by
  go_enter Tryd.func86, Tryd.ntmps86
  go_wp2_with fail
  refine (contains_any a cap xs n _ hs hl).mono ?_
  rintro e w' ⟨rfl, rfl⟩
  go_wp2
  go_ret
  exact ⟨rfl, rfl⟩

end Go.Proofs.YtcjcjaeaoianfaaDoor
namespace Go.Proofs.YtcjcjaeaoianfaaDoor
open Go.RowKit
set_option linter.unusedVariables false

theorem TW.made {B : Nat} {W : World} {bt N : Nat} (h : Blk W bt 22 (madeCells #[.slice none 0 0] N)) (hB : B ≤ bt) : TW B W bt N (fun _ => .slice none 0 0) (fun _ => []) := by
  refine ⟨⟨_, h, size_madeCells _ _, fun p hp => ?_⟩, fun p hp => World.ownsRow_nil _ _ _ _, fun p q _ _ _ => .inl rfl, hB⟩
  unfold madeCells
  rw [Array.getElem?_map, Array.getElem?_range, if_pos hp]
  simp [Nat.mod_one]
theorem TW.congr {B : Nat} {W : World} {bt N : Nat} {vv : Nat → Value} {T T' : Nat → List Int} (h : TW B W bt N vv T) (hT : ∀ p, p < N → T' p = T p) : TW B W bt N vv T' :=
  ⟨h.blk, fun p hp => by rw [hT p hp]; exact h.own p hp, h.ne, h.lo⟩
theorem w64_in (n : Int) (h : -9223372036854775808 ≤ n ∧ n ≤ 9223372036854775807) : wrap64 n = n := by unfold wrap64; omega
/-- What leads leaves. -/
def LeadsPost (w : World) (N : Nat) (T : Nat → List Int) (e : Ending) (w' : World) : Prop :=
  ∃ bt vv, e = .returned (.slice (some ⟨bt, 0, none⟩) N N) ∧ TW w.heap.size w' bt N vv T ∧ Below w.heap.size w w'

set_option maxRecDepth 100000 in
set_option maxHeartbeats 8000000 in
theorem leads_some (S0 E0 : Nat) (starts : List Int) (ars : List Arr) (ends : List Int) (a1 : Option Addr) (c1 : Nat) (a2 : Option Addr) (c2 : Nat) (a3 : Option Addr) (c3 : Nat) (fa : Option Addr) (fc : Nat) (of : List Int) (w : World) (hS : S0 ≤ 256) (hE : E0 ≤ 8) (hlen : ars.length ≤ 4096) (hca : Hid (AtA w a2 ars)) (hin : Hid (∀ a ∈ ars, (0 ≤ a.f ∧ a.f < (S0 : Int)) ∧ 0 ≤ a.e ∧ a.e < (E0 : Int))) (hof : Hid (At w fa of)) (hofl : Hid (of.length ≤ maxLen)) :
    Calls Tryd.prog 52 #[mval ⟨S0, E0, starts, ars, ends⟩ ⟨a1, c1, a2, c2, a3, c3⟩, .slice fa of.length fc] w fun e w' => LeadsPost w (S0 * E0) (tabL ars of E0 (S0 * E0) ars.length) e w' := by
  obtain ⟨i0, hi, hz0, hz1, hz2⟩ := info_parts Tryd.infoInts
  have hN : S0 * E0 ≤ 2048 := Nat.le_trans (Nat.mul_le_mul hS hE) (by decide)
  obtain ⟨N, HN⟩ : ∃ N, Hid (N = S0 * E0) := ⟨_, rfl⟩
  have hmul : ((S0 : Int) * (E0 : Int)) = (N : Int) := by rw [HN.out]; simp
  rw [← HN.out] at hN ⊢
  have hmk : ∀ w : World, (Instr.makeSlice 40 (.int .i64 N) (.int .i64 N)).run Tryd.prog w = .ok (.slice (some ⟨w.heap.size, 0, none⟩) N N) (w.alloc (.cells (madeCells #[.slice none 0 0] N) 22)) := fun w => by
    have := run_make (P := Tryd.prog) w 40 22 i0 (.slice none 0 0) Tryd.underlying40 hi hz0 .i64 .i64 N N (by omega) (by omega) (by rw [hz2]; omega) (by omega)
    rw [hz1, Int.toNat_natCast, Nat.mul_one] at this
    exact this
  clear hi hz0 hz1 hz2
  obtain ⟨j0, ji, jz0, jz1, jz2⟩ := info_parts Tryd.infoInt
  have hw1 : IntKind.i64.wrap ((S0 : Int) * (E0 : Int)) = (N : Int) := by rw [hmul]; simp [IntKind.wrap, IntKind.bits, IntKind.signed]; omega
  go_enter Tryd.func52, Tryd.ntmps52
  go_wp2_with fail
  go_loopw [18] (fun i wr => ∃ (k : Nat) (vv : Nat → Value), k ≤ N ∧ i = .int .i64 k ∧ Hid (Blk wr w.heap.size 25 (mcells ⟨S0, E0, starts, ars, ends⟩ ⟨a1, c1, a2, c2, a3, c3⟩)) ∧ Hid (TW w.heap.size wr (w.heap.size + 1) N vv (tab0 of E0 k)) ∧ Hid (Below w.heap.size w wr)) (fun i _ => N - (intOf i).toNat)
  case atStart =>
    refine ⟨0, fun _ => .slice none 0 0, by omega, rfl, (Blk.new w _ _).alloc _, ?_, ((Below.refl _ _).alloc (Nat.le_refl _) _).alloc (by simp) _⟩
    have := Blk.new (w.alloc (.cells (mcells ⟨S0, E0, starts, ars, ends⟩ ⟨a1, c1, a2, c2, a3, c3⟩) 25)) 22 (madeCells #[.slice none 0 0] N)
    rw [World.size_alloc] at this
    exact (TW.made (B := w.heap.size) this (Nat.le_succ _)).congr (T' := tab0 of E0 0) (fun p _ => by simp [tab0])
  case round =>
    clear hmk
    obtain ⟨k, vv, hk, rfl, HM, HT, HB⟩ := hrel
    obtain ⟨x0, x1, x2, x3, x4⟩ := mcell_at HM.out
    by_cases hlt : k < N
    · have hE0 : 0 < E0 := by
        rcases Nat.eq_zero_or_pos E0 with h | h
        · rw [HN.out, h] at hlt; simp at hlt
        · exact h
      have hmc : ((k : Int) % (E0 : Int)) = ((k % E0 : Nat) : Int) := by simp
      have hdc : ((k : Int) / (E0 : Int)) = ((k / E0 : Nat) : Int) := by simp
      have hml : k % E0 < E0 := Nat.mod_lt _ hE0
      have hlb := HM.out.lt
      have HMC := Hid.of hmc
      have HDC := Hid.of hdc
      have hkd : k / E0 ≤ k := Nat.div_le_self _ _
      have hwq : wrap64 ((k : Int) / (E0 : Int)) = (k : Int) / (E0 : Int) := w64_in _ (by rw [hdc]; generalize k / E0 = d at hkd; omega)
      clear hmc hdc
      have hHas := fun W (hW : Below w.heap.size w W) => rowHas_any fa fc of ((k : Int) % (E0 : Int)) W (hof.out.below hW (Nat.le_refl _)) hofl.out
      have HHas := Hid.of hHas
      clear hHas
      cases hh : hasB of ((k : Int) % (E0 : Int)) with
      | true =>
        have HNX : Hid (∀ p, p < N → tab0 of E0 (k + 1) p = tab0 of E0 k p) := fun p _ => tab0_skip (by rw [← HMC.out]; exact hh) p
        go_wp2_with fail
        refine (HHas.out _ HB.out).mono ?_
        rintro e w1 ⟨rfl, rfl⟩
        rw [hh]
        go_wp2_with fail
        go_roundw
        case rel => exact ⟨k + 1, vv, by omega, by go_num, HM, HT.out.congr HNX.out, HB⟩
        case measure => simp [intOf]; omega
      | false =>
        obtain ⟨z1, zf, hT2, hB2⟩ := HT.out.store (W3 := wr.alloc (.cells #[.int .i64 ((k : Int) / (E0 : Int))] 3)) (W2 := wr.alloc (.cells #[.int .i64 ((k : Int) / (E0 : Int))] 3)) (v := .slice (some ⟨wr.heap.size, 0, none⟩) 1 1) (xs := [(k : Int) / (E0 : Int)]) hlt ((Below.refl _ _).alloc (Nat.le_refl _) _) (World.ownsRow_lit wr #[.int .i64 ((k : Int) / (E0 : Int))] 1 HB.out.size (by unfold maxLen; omega) rfl) ⟨rfl, rfl, rfl, Nat.le_refl _, fun _ _ _ => rfl⟩ (.inr ⟨_, rfl, Nat.le_refl _⟩) (tab0 of E0 (k + 1)) (fun q hq => by
          by_cases e : q = k
          · subst e; rw [upd_same, tab0_put (by rw [← HMC.out]; exact hh), HDC.out]
          · rw [upd_other _ e]; exact tab0_other e)
        have HT2 := Hid.of hT2
        have HB2 := Hid.of (HB.out.trans (hB2 w.heap.size (Nat.le_refl _) HB.out.size))
        have HM2 := Hid.of (((HM.out.alloc (.cells #[.int .i64 ((k : Int) / (E0 : Int))] 3)).other (b' := w.heap.size + 1) (j := k) (by omega) (.slice (some ⟨wr.heap.size, 0, none⟩) 1 1)))
        clear hT2 hB2
        have hlt1 := HT.out.lt
        rw [World.setCell_alloc_past _ _ _ _ hlt1] at HT2 HB2 HM2
        go_wp2_with fail
        refine (HHas.out _ HB.out).mono ?_
        rintro e w1 ⟨rfl, rfl⟩
        rw [hh]
        go_wp2_with fail
        go_roundw
        case rel => exact ⟨k + 1, _, by omega, by go_num, HM2, HT2, HB2⟩
        case measure => simp [intOf]; omega
    · have hkN : k = N := by omega
      subst hkN
      have HT0 : Hid (TW w.heap.size wr (w.heap.size + 1) k vv (tabL ars of E0 k 0)) := HT.out.congr (fun p _ => tabL_zero _ _ _ _ _)
      clear HT
      go_wp2_with fail
      clear x0 x1 x2 x3 x4
      go_loopw [40] (fun i wr => ∃ (q : Nat) (vv : Nat → Value), q ≤ ars.length ∧ i = .int .i64 q ∧ Hid (Blk wr w.heap.size 25 (mcells ⟨S0, E0, starts, ars, ends⟩ ⟨a1, c1, a2, c2, a3, c3⟩)) ∧ Hid (TW w.heap.size wr (w.heap.size + 1) k vv (tabL ars of E0 k q)) ∧ Hid (Below w.heap.size w wr)) (fun i _ => ars.length - (intOf i).toNat)
      case atStart => exact ⟨0, vv, Nat.zero_le _, rfl, HM, HT0, HB⟩
      case round =>
        clear HM HT0 HB
        obtain ⟨q, vv, hq, rfl, HM, HT, HB⟩ := hrel
        obtain ⟨x0, x1, x2, x3, x4⟩ := mcell_at HM.out
        have hlb := HM.out.lt
        by_cases hqt : q < ars.length
        · have hat2 : AtA wr a2 ars := hca.out.below HB.out (Nat.le_refl _)
          rcases hat2 with hat2 | ⟨b, off, ha2, hb, hcc⟩
          · rw [hat2] at hqt; simp at hqt
          obtain ⟨a, HA, y0, y1, y2⟩ := hcc.at hqt
          subst ha2
          clear hcc
          have HAM : Hid ((0 ≤ a.f ∧ a.f < (S0 : Int)) ∧ 0 ≤ a.e ∧ a.e < (E0 : Int)) := hin.out a (by rw [HA.out, List.getElem?_eq_getElem hqt]; exact List.getElem_mem hqt)
          have hHas := fun W (hW : Below w.heap.size w W) => rowHas_any fa fc of a.e W (hof.out.below hW (Nat.le_refl _)) hofl.out
          have HHas := Hid.of hHas
          clear hHas
          have HE : Hid (tabL ars of E0 k (q + 1) = fun p : Nat => if (hasB of a.e && decide (a.f * E0 + a.e = (p : Int))) = true then tabL ars of E0 k q p ++ [a.t] else tabL ars of E0 k q p) := by
            show _ = _
            funext p; exact tabL_next hqt HA
          have HBA := Hid.of (HB.out.alloc HB.out.size (.cells #[.int .i64 a.f, .int .i64 a.e, .int .i64 a.t] 51))
          have HTA := Hid.of (HT.out.below ((Below.refl _ _).alloc (Nat.le_refl _) (.cells #[.int .i64 a.f, .int .i64 a.e, .int .i64 a.t] 51)))
          have HMA := Hid.of (HM.out.alloc (.cells #[.int .i64 a.f, .int .i64 a.e, .int .i64 a.t] 51))
          have HAA := Hid.of (Blk.new wr 51 #[.int .i64 a.f, .int .i64 a.e, .int .i64 a.t])
          cases hh : hasB of a.e with
          | false =>
            rw [hh] at HE
            go_wp2_with fail
            refine (HHas.out _ HBA.out).mono ?_
            rintro e w1 ⟨rfl, rfl⟩
            rw [hh]
            go_wp2_with fail
            go_roundw
            case rel => exact ⟨q + 1, vv, by omega, by go_num, HMA, by show TW _ _ _ _ _ _; rw [HE.out]; exact HTA.out, HBA⟩
            case measure => simp [intOf]; omega
          | true =>
            obtain ⟨P0, HP0⟩ : ∃ P0 : Nat, Hid ((P0 : Int) = a.f * E0 + a.e ∧ P0 < k) := by
              obtain ⟨F, hF⟩ : ∃ F : Nat, a.f = F := ⟨a.f.toNat, by have := HAM.out.1.1; omega⟩
              obtain ⟨G, hG⟩ : ∃ G : Nat, a.e = G := ⟨a.e.toNat, by have := HAM.out.2.1; omega⟩
              refine ⟨F * E0 + G, by rw [hF, hG]; simp, ?_⟩
              have h1 : F < S0 := by have := HAM.out.1.2; omega
              have h2 : G < E0 := by have := HAM.out.2.2; omega
              rw [HN.out]
              have h3 : (F + 1) * E0 ≤ S0 * E0 := Nat.mul_le_mul_right _ h1
              rw [Nat.succ_mul] at h3
              omega
            have hpk := HP0.out.2
            have hpv := HP0.out.1
            have HE2 : Hid (∀ p, p < k → tabL ars of E0 k (q + 1) p = upd (tabL ars of E0 k q) P0 (tabL ars of E0 k q P0 ++ [a.t]) p) := fun p hp => by
              rw [HE.out]
              show (if _ then _ else _) = _
              by_cases e : p = P0
              · subst e; rw [upd_same, if_pos]; simp [hh]; omega
              · rw [upd_other _ e, if_neg]; simp [hh]; omega
            clear hpv HE
            have hwm : wrap64 (a.f * (E0 : Int) + a.e) = (P0 : Int) := by rw [← HP0.out.1]; exact w64_in _ (by omega)
            have hb1 : 0 ≤ a.f * (E0 : Int) ∧ a.f * (E0 : Int) ≤ (P0 : Int) := by
              have h0 := HAM.out
              exact ⟨Int.mul_nonneg h0.1.1 (by omega), by have := HP0.out.1; have := h0.2.1; omega⟩
            have hwn : wrap64 (a.f * (E0 : Int)) = a.f * (E0 : Int) := w64_in _ (by omega)
            go_wp2_with fail
            refine (HHas.out _ HBA.out).mono ?_
            rintro e w1 ⟨rfl, rfl⟩
            rw [hh]
            clear x0 x1 x2 x3 x4 y0 y1 y2
            revert HBA HTA HMA HAA
            generalize hV : wr.alloc (.cells #[.int .i64 a.f, .int .i64 a.e, .int .i64 a.t] 51) = V
            intro HBA HTA HMA HAA
            obtain ⟨x0, x1, x2, x3, x4⟩ := mcell_at HMA.out
            have y0 : V.cell? ⟨wr.heap.size, 0, none⟩ = some (.int .i64 a.f) := HAA.out.cell 0 rfl
            have y1 : V.cell? ⟨wr.heap.size, 1, none⟩ = some (.int .i64 a.e) := HAA.out.cell 1 rfl
            have y2 : V.cell? ⟨wr.heap.size, 2, none⟩ = some (.int .i64 a.t) := HAA.out.cell 2 rfl
            have hl1 := HMA.out.lt
            have hl2 := HAA.out.lt
            have hl3 := HTA.out.lt
            clear hV HM HT HB HHas hb hlb
            obtain ⟨ra, rc, hrv, hr1, hr2, hr3⟩ := own_form2 (HTA.out.own P0 hpk)
            have hzp := HTA.out.cell hpk
            rw [hrv] at hzp
            have HRV := Hid.of hrv
            clear hrv
            have MNE : Hid ((Value.slice ra (tabL ars of E0 k q P0).length rc).ownBlock ≠ some w.heap.size) := fun e => by
              rw [← HRV.out] at e
              obtain ⟨cs, hc⟩ := own_type (HTA.out.own P0 hpk) e
              rw [show V.heap[w.heap.size]? = _ from HMA.out] at hc; cases hc
            have hRl : (tabL ars of E0 k q P0).length ≤ 4097 := by
              unfold tabL tab0
              rw [List.length_append, List.length_map]
              have h1 : ((ars.take q).filter fun a => hasB of a.e && decide (a.f * E0 + a.e = (P0 : Int))).length ≤ ars.length := Nat.le_trans (List.length_filter_le _ _) (List.length_take_le' _ _)
              split <;> simp <;> omega
            go_wp2_with fail
            go_region_law (first | (refine step_append_block rfl (.tmp 61) (.tmp 64) 22 rfl w.heap.size 3 j0 (.int .i64 0) 1 8 Tryd.underlying22 ji jz0 jz1 jz2 rfl (by decide) _ (tabL ars of E0 k q P0).length ((tabL ars of E0 k q P0).map (Value.int .i64)) rfl (World.ownsRow.alloc (own_same (W := V) (by rw [← HRV.out]; exact HTA.out.own P0 hpk) (fun _ _ => rfl)) _) ⟨V.heap.size, 0, none⟩ 1 1 [.int .i64 a.t] rfl rfl (cell_one_new _ _ _) (by intro u hu; simp at hu; subst hu; rfl) (by decide) (by unfold maxLen; omega) (by omega) (Nat.le_trans HBA.out.size (((Below.refl _ V).drew).alloc (Nat.le_refl _) _).size) ?_; intro v9 w9 o9 g9 n9; obtain ⟨ga, gc, hv9, -, -, -⟩ := own_form2 o9; subst hv9; obtain ⟨e1, e2, e3, e4⟩ := HTA.out.store (v := .slice ga ((tabL ars of E0 k q P0).length + 1) gc) (xs := tabL ars of E0 k q P0 ++ [a.t]) hpk (((Below.refl _ V).drew).alloc (Nat.le_refl _) _) (show World.ownsRow _ _ _ _ _ _ _ by rw [List.length_append, List.map_append]; exact o9) (by rw [HRV.out]; exact g9) (by rw [HRV.out]; exact n9.imp id (fun h => ⟨_, h, (((Below.refl _ V).drew).alloc (Nat.le_refl _) _).size⟩)) (tabL ars of E0 k (q + 1)) HE2.out; rw [HRV.out] at e1; have M9 := Hid.of (Blk.other (b' := w.heap.size + 1) (j := P0) ((g9.block w.heap.size (Nat.lt_of_lt_of_le hl1 (((Below.refl _ V).drew).alloc (Nat.le_refl _) _).size) (fun e => MNE.out e.symm)).trans (HMA.out.below (((Below.refl _ V).drew).alloc (Nat.le_refl _) _) hl1)) (by omega) (.slice ga ((tabL ars of E0 k q P0).length + 1) gc)); have E3 := Hid.of e3; have E4 := Hid.of (e4 w.heap.size (Nat.le_refl _) HBA.out.size); clear e3 e4 o9 g9 n9))
            all_goals
              have M4 : Hid (Blk (w9.setCell ⟨w.heap.size + 1, P0, none⟩ (.slice ga ((tabL ars of E0 k q P0).length + 1) gc)) w.heap.size 25 (mcells ⟨S0, E0, starts, ars, ends⟩ ⟨a1, c1, some ⟨b, off, none⟩, c2, a3, c3⟩)) := M9.out
              go_wp2_with fail
              go_roundw
              case rel => exact ⟨q + 1, _, by omega, by go_num, M4, E3, HBA.out.trans E4.out⟩
              case measure => simp [intOf]; omega
        · have hqq : q = ars.length := by omega
          subst hqq
          go_wp2_with fail
          go_ret
          exact ⟨_, vv, rfl, HT.out, HB.out⟩

end Go.Proofs.YtcjcjaeaoianfaaDoor
namespace Go.Proofs.YtcjcjaeaoianfaaDoor
open Go.RowKit
set_option linter.unusedVariables false

/-- What spread leaves. -/
def SprPost (B : Nat) (W : World) (bf br : Nat) (ev : Int) (vs va ve vp : Value) (S E : List Int) (r : Option BS) (e : Ending) (W' : World) : Prop :=
  ∃ va' vp', Turn (FF bf br vs va ve vp) (FF bf br vs va' ve vp') W W' ∧ match r with
    | none => e = .returned (.bool false)
    | some s => e = .returned (.bool true) ∧ FD B W' bf br s.ps.length ev vs va' ve vp' S (srtA s.ar) E s.ps ∧ s.ps.length ≤ 256

theorem bPair_ev {a b : Mach} {ofA ofB : List Int} {s : BS} {k E0 : Nat} {p : Int × Int} (hE : a.ev = (E0 : Int)) : (evL E0 ofA ofB).foldl (bEv a b ofA ofB k p) s = bEvs a b ofA ofB k p s a.ev.toNat := by
  rw [bEvs_evL, hE]; rfl
theorem go_big {a b : Mach} {ofA ofB : List Int} {f k : Nat} {s : BS} {p : Int × Int} (hp : s.ps[k]? = some p) (hB : bBig (bEvs a b ofA ofB k p s a.ev.toNat) = true) (hf : 0 < f) : bGo a b ofA ofB f k s = none := by
  obtain ⟨g, rfl⟩ : ∃ g, f = g + 1 := ⟨f - 1, by omega⟩
  have hk := (List.getElem?_eq_some_iff.1 hp).1
  have e : bPair a b ofA ofB s k = bEvs a b ofA ofB k p s a.ev.toNat := by unfold bPair; rw [hp]; rfl
  unfold bGo
  rw [if_pos hk, e, if_pos hB]
theorem go_next {a b : Mach} {ofA ofB : List Int} {f k : Nat} {s : BS} {p : Int × Int} (hp : s.ps[k]? = some p) (hB : bBig (bEvs a b ofA ofB k p s a.ev.toNat) = false) (hf : 0 < f) : bGo a b ofA ofB f k s = bGo a b ofA ofB (f - 1) (k + 1) (bEvs a b ofA ofB k p s a.ev.toNat) := by
  obtain ⟨g, rfl⟩ : ∃ g, f = g + 1 := ⟨f - 1, by omega⟩
  have hk := (List.getElem?_eq_some_iff.1 hp).1
  have e : bPair a b ofA ofB s k = bEvs a b ofA ofB k p s a.ev.toNat := by unfold bPair; rw [hp]; rfl
  rw [bGo, if_pos hk, e, if_neg (by rw [hB]; simp)]; rfl
theorem go_end {a b : Mach} {ofA ofB : List Int} {f k : Nat} {s : BS} (h : ¬ k < s.ps.length) : bGo a b ofA ofB f k s = some s := by
  cases f with
  | zero => rfl
  | succ f => rw [bGo, if_neg h]
theorem wrap_at {x E0 e N : Nat} (h : x * E0 + e < N) (hN : N ≤ 2048) : wrap64 ((x : Int) * (E0 : Int)) = (x : Int) * (E0 : Int) ∧ wrap64 ((x : Int) * (E0 : Int) + (e : Int)) = ((x * E0 + e : Nat) : Int) := by
  have h1 : ((x : Int) * (E0 : Int)) = ((x * E0 : Nat) : Int) := by simp
  have h2 : ((x : Int) * (E0 : Int) + (e : Int)) = ((x * E0 + e : Nat) : Int) := by simp
  constructor
  · rw [h1]; exact w64_in _ (by generalize x * E0 = d at h; omega)
  · rw [h2]; exact w64_in _ (by generalize x * E0 = d at h; omega)
theorem iwrap_at {x E0 e N : Nat} (h : x * E0 + e < N) (hN : N ≤ 2048) : IntKind.i64.wrap ((x : Int) * (E0 : Int)) = (x : Int) * (E0 : Int) ∧ IntKind.i64.wrap ((x : Int) * (E0 : Int) + (e : Int)) = ((x * E0 + e : Nat) : Int) := by
  have h1 : ((x : Int) * (E0 : Int)) = ((x * E0 : Nat) : Int) := by simp
  have h2 : ((x : Int) * (E0 : Int) + (e : Int)) = ((x * E0 + e : Nat) : Int) := by simp
  constructor
  · rw [h1]; generalize x * E0 = d at h; simp [IntKind.wrap, IntKind.bits, IntKind.signed]; omega
  · rw [h2]; generalize x * E0 = d at h; simp [IntKind.wrap, IntKind.bits, IntKind.signed]; omega
theorem place_lt {x E0 e S0 : Nat} (h1 : x < S0) (h2 : e < E0) : x * E0 + e < S0 * E0 := by
  have h3 : (x + 1) * E0 ≤ S0 * E0 := Nat.mul_le_mul_right _ h1
  rw [Nat.succ_mul] at h3
  omega

set_option maxHeartbeats 8000000 in
set_option maxRecDepth 100000 in
theorem bspread_any (B : Nat) (W : World) (bf br : Nat) (vs va ve vp : Value) (S E : List Int) (a b : Mach) (ofA ofB : List Int) (SA SB E0 : Nat) (ta tb : Nat) (TA TB : Nat → List Int) (ea : Option Addr) (ec : Nat) (s0 : BS)
    (ma : Hid (mayB a = true)) (mb : Hid (mayB b = true)) (hSA : a.st = (SA : Int)) (hSB : b.st = (SB : Int)) (hEa : Hid (a.ev = (E0 : Int))) (hE8 : E0 ≤ 8) (hSA2 : SA ≤ 256) (hSB2 : SB ≤ 256)
    (hF : Hid (FD B W bf br s0.ps.length (E0 : Int) vs va ve vp S (srtA s0.ar) E s0.ps)) (hs0 : Hid (s0.ps = crossP a.starts b.starts ∧ s0.ar = [])) (hfit : s0.ps.length ≤ 256)
    (hTA : Hid (RT (FF bf br vs va ve vp) W ta (SA * E0) TA)) (hTB : Hid (RT (FF bf br vs va ve vp) W tb (SB * E0) TB)) (hev : Hid (AtF W (FF bf br vs va ve vp) ea (evL E0 ofA ofB)))
    (eA : Hid (∀ x e : Nat, x < SA → e < E0 → TA (x * E0 + e) = toL a.arrows ofA x e)) (eB : Hid (∀ x e : Nat, x < SB → e < E0 → TB (x * E0 + e) = toL b.arrows ofB x e)) :
    Calls Tryd.prog 51 #[.pointer (some ⟨bf, 0, none⟩), .slice ea (evL E0 ofA ofB).length ec, .slice (some ⟨ta, 0, none⟩) (SA * E0) (SA * E0), .slice (some ⟨tb, 0, none⟩) (SB * E0) (SB * E0)] W fun e W' => SprPost B W bf br (E0 : Int) vs va ve vp S E (besideS a b ofA ofB) e W' := by
  have hNA : SA * E0 ≤ 2048 := Nat.le_trans (Nat.mul_le_mul hSA2 hE8) (by decide)
  have hNB : SB * E0 ≤ 2048 := Nat.le_trans (Nat.mul_le_mul hSB2 hE8) (by decide)
  obtain ⟨NA, HNA⟩ : ∃ N, Hid (N = SA * E0) := ⟨_, rfl⟩
  obtain ⟨NB, HNB⟩ : ∃ N, Hid (N = SB * E0) := ⟨_, rfl⟩
  rw [← HNA.out] at hNA hTA ⊢
  rw [← HNB.out] at hNB hTB ⊢
  have hel : (evL E0 ofA ofB).length ≤ 8 := Nat.le_trans (evL_len _ _ _) hE8
  have SI0 : Hid (SI a b 0 0 s0) := by
    have sa := may_starts ma.out
    have sb := may_starts mb.out
    refine ⟨?_, fun p hp => ?_, fun x hx => ?_⟩
    · rw [hs0.out.1]; exact nodup_crossP (inc_nodup sa.1) (inc_nodup sb.1)
    · rw [hs0.out.1] at hp
      obtain ⟨h1, h2⟩ := (mem_crossP _ _ _).1 hp
      exact ⟨sa.2 _ h1, sb.2 _ h2⟩
    · rw [hs0.out.2] at hx; simp at hx
  have HBS : Hid (besideS a b ofA ofB = bGo a b ofA ofB 300 0 s0) := by
    show _ = _
    unfold besideS
    congr 1
    have h1 := hs0.out
    cases s0
    simp at h1
    rw [h1.1, h1.2]
  have HL0 : Hid ((srtA s0.ar).length = s0.ar.length) := by show _ = _; rw [hs0.out.2]; rfl
  have HG0 : Hid (bBig s0 = false) := bBig_mk hfit (by rw [hs0.out.2]; simp)
  go_enter Tryd.func51, Tryd.ntmps51
  go_wp2_with fail
  go_loopw [9] (fun i wr => ∃ (k : Nat) (s : BS) (va' vp' : Value), i = .int .i64 k ∧ k ≤ s.ps.length ∧ s.ps.length ≤ 256 ∧ Hid (FD B wr bf br s.ps.length (E0 : Int) vs va' ve vp' S (srtA s.ar) E s.ps) ∧ Hid (Turn (FF bf br vs va ve vp) (FF bf br vs va' ve vp') W wr) ∧ Hid (bBig s = false) ∧ Hid ((srtA s.ar).length = s.ar.length) ∧ Hid (SI a b k 0 s) ∧ Hid (besideS a b ofA ofB = bGo a b ofA ofB (300 - k) k s)) (fun i _ => 300 - (intOf i).toNat)
  case atStart => exact ⟨0, s0, va, vp, rfl, Nat.zero_le _, hfit, hF, Turn.refl _ _, HG0, HL0, SI0, HBS⟩
  case round =>
    clear hF hfit HG0 HL0 SI0 HBS
    obtain ⟨k, s, va1, vp1, rfl, hk, hps, HF, HT, HG, HL, HS, HE⟩ := hrel
    have c0 := HF.out.cells.1
    have c5 := HF.out.cells.2.2.2.2.2.1
    have lb := HF.out.blk.lt
    by_cases hlt : k < s.ps.length
    · obtain ⟨p, hp⟩ : ∃ p, Hid (s.ps[k]? = some p) := ⟨_, List.getElem?_eq_getElem hlt⟩
      have hcr := HS.out.cr p (List.mem_of_getElem? hp.out)
      rw [hSA, hSB] at hcr
      obtain ⟨px, py⟩ := p
      dsimp only at hcr
      obtain ⟨x0, rfl⟩ : ∃ x0 : Nat, px = x0 := ⟨px.toNat, by omega⟩
      obtain ⟨y0, rfl⟩ : ∃ y0 : Nat, py = y0 := ⟨py.toNat, by omega⟩
      have hx0 : x0 < SA := by omega
      have hy0 : y0 < SB := by omega
      clear hcr
      obtain ⟨g, cap, hvp, hg1, hg2, p0, p1⟩ := HF.out.ps.cell hp.out
      rw [hvp] at c5
      have HX1 : Hid (Turn (FF bf br vs va1 ve vp1) (FF bf br vs va1 ve vp1) wr (wr.alloc (.cells #[.int .i64 x0, .int .i64 y0] 110))) := (Turn.refl _ _).alloc _
      have HXF := Hid.of (HF.out.alloc (.cells #[.int .i64 x0, .int .i64 y0] 110))
      have HXP := Hid.of (Blk.new wr 110 #[.int .i64 x0, .int .i64 y0])
      have HNF : Hid (¬ FF bf br vs va1 ve vp1 wr.heap.size) := fun h => by have := (HF.out.lt _ h).2; omega
      go_wp2_with fail
      clear c0 c5 p0 p1 hg1 hg2 hvp lb
      have HXT := Hid.of (HT.out.trans HX1.out)
      have HXA := Hid.of (hTA.out.turn HXT.out)
      have HXB := Hid.of (hTB.out.turn HXT.out)
      have HXE := Hid.of (hev.out.turn HXT.out)
      revert HXF HXP HXT HXA HXB HXE
      clear HX1 HF HT
      obtain ⟨pb, Hpb⟩ : ∃ pb, pb = wr.heap.size := ⟨_, rfl⟩
      rw [← Hpb] at HNF ⊢
      generalize wr.alloc (.cells #[.int .i64 x0, .int .i64 y0] 110) = X
      intro HXF HXP HXT HXA HXB HXE
      clear Hpb
      have SIQ : Hid (∀ e : Int, 0 ≤ e → SI a b k e s) := fun e he => HS.out.mono (.inr ⟨rfl, he⟩)
      go_loopw [31] (fun i wr => ∃ (q : Nat) (va' vp' : Value), q ≤ (evL E0 ofA ofB).length ∧ i = .int .i64 q ∧ Hid (FD B wr bf br (((evL E0 ofA ofB).take q).foldl (bEv a b ofA ofB k ((x0 : Int), (y0 : Int))) s).ps.length (E0 : Int) vs va' ve vp' S (srtA (((evL E0 ofA ofB).take q).foldl (bEv a b ofA ofB k ((x0 : Int), (y0 : Int))) s).ar) E (((evL E0 ofA ofB).take q).foldl (bEv a b ofA ofB k ((x0 : Int), (y0 : Int))) s).ps) ∧ Hid (Turn (FF bf br vs va1 ve vp1) (FF bf br vs va' ve vp') X wr) ∧ Hid (bBig (((evL E0 ofA ofB).take q).foldl (bEv a b ofA ofB k ((x0 : Int), (y0 : Int))) s) = false) ∧ Hid ((srtA (((evL E0 ofA ofB).take q).foldl (bEv a b ofA ofB k ((x0 : Int), (y0 : Int))) s).ar).length = (((evL E0 ofA ofB).take q).foldl (bEv a b ofA ofB k ((x0 : Int), (y0 : Int))) s).ar.length) ∧ Hid (∀ e : Int, 0 ≤ e → (∀ x ∈ (evL E0 ofA ofB).take q, x < e) → SI a b k e (((evL E0 ofA ofB).take q).foldl (bEv a b ofA ofB k ((x0 : Int), (y0 : Int))) s))) (fun i _ => (evL E0 ofA ofB).length - (intOf i).toNat)
      case atStart => exact ⟨0, va1, vp1, Nat.zero_le _, rfl, HXF, Turn.refl _ _, HG, HL, fun e he _ => SIQ.out e he⟩
      case round =>
        clear HG HL SIQ HXF
        obtain ⟨q, va2, vp2, hq, rfl, HF, HT, HG, HL, HSQ⟩ := hrel
        by_cases hqt : q < (evL E0 ofA ofB).length
        · obtain ⟨be, oe, ex, hea, hbe, HEX, ce⟩ := (HXE.out.turn HT.out).get hqt
          have hmem : ex ∈ evL E0 ofA ofB := by rw [HEX.out, List.getElem?_eq_getElem hqt]; exact List.getElem_mem hqt
          obtain ⟨hexb, hexh⟩ := evL_bd ex hmem
          have hnx : ((evL E0 ofA ofB).take (q + 1)) = (evL E0 ofA ofB).take q ++ [ex] := by
            rw [List.take_add_one, List.getElem?_eq_getElem hqt]
            have := HEX.out
            rw [List.getElem?_eq_getElem hqt] at this
            rw [this]; rfl
          have hsi := HSQ.out ex hexb.1 (fun x hx => by
            obtain ⟨j, hj⟩ := List.mem_iff_getElem?.1 hx
            rw [List.getElem?_take] at hj
            split at hj
            · rename_i hjq
              obtain ⟨l1, e1⟩ := List.getElem?_eq_some_iff.1 hj
              have h3 := List.pairwise_iff_getElem.1 (evL_inc E0 ofA ofB) j q l1 hqt hjq
              have := HEX.out
              rw [List.getElem?_eq_getElem hqt, Option.getD_some] at this
              rw [this, ← e1]; exact h3
            · cases hj)
          obtain ⟨e0, rfl⟩ : ∃ e0 : Nat, ex = e0 := ⟨ex.toNat, by omega⟩
          have he0 : e0 < E0 := by omega
          have HSI := Hid.of hsi
          have HNX : Hid (((evL E0 ofA ofB).take (q + 1)).foldl (bEv a b ofA ofB k ((x0 : Int), (y0 : Int))) s = bEv a b ofA ofB k ((x0 : Int), (y0 : Int)) (((evL E0 ofA ofB).take q).foldl (bEv a b ofA ofB k ((x0 : Int), (y0 : Int))) s) (e0 : Int)) := by show _ = _; rw [hnx, List.foldl_append]; rfl
          have HMON : Hid (∀ s2, s2 = ((evL E0 ofA ofB).take (q + 1)).foldl (bEv a b ofA ofB k ((x0 : Int), (y0 : Int))) s → bBig s2 = true → bBig ((evL E0 ofA ofB).foldl (bEv a b ofA ofB k ((x0 : Int), (y0 : Int))) s) = true) := fun s2 h1 h2 => by
            rw [← List.take_append_drop (q + 1) (evL E0 ofA ofB), List.foldl_append, ← h1]
            exact bBig_evs _ h2
          have HTK : Hid (∀ e : Int, (∀ x ∈ (evL E0 ofA ofB).take (q + 1), x < e) → (e0 : Int) < e) := fun e h => h _ (by rw [hnx]; simp)
          clear hsi hnx hmem
          have ia := place_lt hx0 he0
          have ib := place_lt hy0 he0
          rw [← HNA.out] at ia
          rw [← HNB.out] at ib
          obtain ⟨wa1, wa2⟩ := wrap_at ia hNA
          obtain ⟨wb1, wb2⟩ := wrap_at ib hNB
          obtain ⟨va1', va2'⟩ := iwrap_at ia hNA
          obtain ⟨vb1', vb2'⟩ := iwrap_at ib hNB
          obtain ⟨pa, Hpa⟩ : ∃ pa, Hid (pa = x0 * E0 + e0) := ⟨_, rfl⟩
          obtain ⟨qa, Hqa⟩ : ∃ qa, Hid (qa = y0 * E0 + e0) := ⟨_, rfl⟩
          rw [← Hpa.out] at ia wa2 va2'
          rw [← Hqa.out] at ib wb2 vb2'
          have HRA := Hid.of (HXA.out.turn HT.out)
          have HRB := Hid.of (HXB.out.turn HT.out)
          obtain ⟨aa, ac, ra1, ra2⟩ := HRA.out.row pa ia
          obtain ⟨ba, bc, rb1, rb2⟩ := HRB.out.row qa ib
          have RA2 := Hid.of ra2
          have RB2 := Hid.of rb2
          have HLA : Hid (TA pa = toL a.arrows ofA x0 e0) := by show _ = _; rw [Hpa.out]; exact eA.out x0 e0 hx0 he0
          have HLB : Hid (TB qa = toL b.arrows ofB y0 e0) := by show _ = _; rw [Hqa.out]; exact eB.out y0 e0 hy0 he0
          clear ra2 rb2
          obtain ⟨s1, HS1⟩ : ∃ s1, Hid (s1 = ((evL E0 ofA ofB).take q).foldl (bEv a b ofA ofB k ((x0 : Int), (y0 : Int))) s) := ⟨_, rfl⟩
          rw [← HS1.out] at HF HG HL HSI HNX
          have HFO : Hid ((crossP (TA pa) (TB qa)).foldl (bAdd k (e0 : Int)) s1 = bEv a b ofA ofB k ((x0 : Int), (y0 : Int)) s1 (e0 : Int)) := by
            show _ = _
            rw [HLA.out, HLB.out]
            unfold bEv
            rw [leadsP_to ma.out mb.out ofA ofB _ _ hexh]
          have HS2 : Hid (SI a b k ((e0 : Int) + 1) (bEv a b ofA ofB k ((x0 : Int), (y0 : Int)) s1 (e0 : Int))) := by
            rw [← HFO.out]
            refine HSI.out.fold (fun p hp => ?_)
            obtain ⟨h1, h2⟩ := (mem_crossP _ _ _).1 hp
            rw [HLA.out] at h1
            rw [HLB.out] at h2
            exact ⟨toL_bd ma.out ofA _ ⟨by omega, by rw [hSA]; omega⟩ _ h1, toL_bd mb.out ofB _ ⟨by omega, by rw [hSB]; omega⟩ _ h2⟩
          have HPX : Hid (∀ {F' : Nat → Prop} {Y : World}, Turn (FF bf br vs va1 ve vp1) F' X Y → Blk Y pb 110 #[.int .i64 x0, .int .i64 y0]) := fun {F' Y} t => (t.block pb HXP.out.lt HNF.out).trans HXP.out
          have b0 := (HPX.out HT.out).cell 0 rfl
          have b1 := (HPX.out HT.out).cell 1 rfl
          have f1 := HF.out.cells.2.1
          have lpb := (HPX.out HT.out).lt
          have lta := HRA.out.lt
          have ltb := HRB.out.lt
          have lbf := HF.out.blk.lt
          have HLEAD : Hid (Calls Tryd.prog 85 #[.pointer (some ⟨bf, 0, none⟩), .int .i64 k, .int .i64 e0, .slice aa (TA pa).length ac, .slice ba (TB qa).length bc] wr.drew fun r W' => LeadPost B wr.drew bf br (E0 : Int) vs va2 ve vp2 S E ((crossP (TA pa) (TB qa)).foldl (bAdd k (e0 : Int)) s1) r W') :=
            lead_any B wr.drew bf br (E0 : Int) vs va2 ve vp2 S E s1 a b k (e0 : Int) aa ba ac bc (TA pa) (TB qa) HF.out.drew HG HL HSI.out.lo (by omega) (by omega) (RA2.out.turn (Turn.refl _ _).drew) (RB2.out.turn (Turn.refl _ _).drew) (by rw [HLA.out]; exact toL_len ma.out _ _ _) (by rw [HLB.out]; exact toL_len mb.out _ _ _) (by rw [HLA.out]; exact toL_inc ma.out _ _ _) (by rw [HLB.out]; exact toL_inc mb.out _ _ _)
              (fun x hx => by rw [HLA.out] at hx; have := toL_bd ma.out ofA (s := (x0 : Int)) _ ⟨by omega, by rw [hSA]; omega⟩ x hx; rw [hSA] at this; omega) (fun x hx => by rw [HLB.out] at hx; have := toL_bd mb.out ofB (s := (y0 : Int)) _ ⟨by omega, by rw [hSB]; omega⟩ x hx; rw [hSB] at this; omega)
          rw [HFO.out] at HLEAD
          obtain ⟨s2, HS2e⟩ : ∃ s2, Hid (s2 = bEv a b ofA ofB k ((x0 : Int), (y0 : Int)) s1 (e0 : Int)) := ⟨_, rfl⟩
          rw [← HS2e.out] at HLEAD HS2 HNX
          clear HFO HLA HLB HSI HEX
          rw [hea]
          have HAFT : Hid (∀ (w1 : World) (va3 vp3 : Value), Turn (FF bf br vs va2 ve vp2) (FF bf br vs va3 ve vp3) wr.drew w1 → w1.cell? ⟨bf, 1, none⟩ = some (.int .i64 E0) → w1.cell? ⟨pb, 0, none⟩ = some (.int .i64 x0) ∧ w1.cell? ⟨pb, 1, none⟩ = some (.int .i64 y0) ∧ w1.cell? ⟨bf, 1, none⟩ = some (.int .i64 E0) ∧ w1.cell? ⟨ta, pa, none⟩ = some (.slice aa (TA pa).length ac) ∧ w1.cell? ⟨tb, qa, none⟩ = some (.slice ba (TB qa).length bc)) := fun w1 va3 vp3 t hbf => by
            have t' := HT.out.drew.trans t
            refine ⟨(HPX.out t').cell 0 rfl, (HPX.out t').cell 1 rfl, hbf, ?_, ?_⟩
            · exact (World.cell?_of_block (w := wr) (t.block ta HRA.out.lt HRA.out.nf)).trans ra1
            · exact (World.cell?_of_block (w := wr) (t.block tb HRB.out.lt HRB.out.nf)).trans rb1
          have hk8 : k ≤ 256 := by omega
          go_wp2_with fail
          cases hb2 : bBig s2 with
          | true =>
            have HNO : Hid (besideS a b ofA ofB = none) := by
              show _ = _
              rw [HE.out]
              refine go_big hp.out ?_ (by omega)
              rw [← bPair_ev hEa.out]
              exact HMON.out s2 HNX.out.symm hb2
            go_region_held3 (fun w' => w'.cell? ⟨pb, 0, none⟩ = some (.int .i64 x0) ∧ w'.cell? ⟨pb, 1, none⟩ = some (.int .i64 y0) ∧ w'.cell? ⟨bf, 1, none⟩ = some (.int .i64 E0) ∧ w'.cell? ⟨ta, pa, none⟩ = some (.slice aa (TA pa).length ac) ∧ w'.cell? ⟨tb, qa, none⟩ = some (.slice ba (TB qa).length bc)) (go_keep) (first | (go_at_call 85; refine HLEAD.out.mono ?_; rintro r w1 ⟨va3, vp3, rfl, hT3, hc3, hF3⟩; have T3 := Hid.of (HT.out.drew.trans hT3); have F3 := Hid.of hF3; rw [hb2]; obtain ⟨d0, d1, d2, d3, d4⟩ := HAFT.out w1 va3 vp3 hT3 hc3; clear hT3 hF3 hc3))
            go_wp2_with fail
            go_ret
            refine ⟨va3, vp3, HXT.out.trans T3.out, ?_⟩
            rw [HNO.out]; rfl
          | false =>
            go_region_held3 (fun w' => w'.cell? ⟨pb, 0, none⟩ = some (.int .i64 x0) ∧ w'.cell? ⟨pb, 1, none⟩ = some (.int .i64 y0) ∧ w'.cell? ⟨bf, 1, none⟩ = some (.int .i64 E0) ∧ w'.cell? ⟨ta, pa, none⟩ = some (.slice aa (TA pa).length ac) ∧ w'.cell? ⟨tb, qa, none⟩ = some (.slice ba (TB qa).length bc)) (go_keep) (first | (go_at_call 85; refine HLEAD.out.mono ?_; rintro r w1 ⟨va3, vp3, rfl, hT3, hc3, hF3⟩; have T3 := Hid.of (HT.out.drew.trans hT3); have F3 := Hid.of hF3; rw [hb2]; obtain ⟨d0, d1, d2, d3, d4⟩ := HAFT.out w1 va3 vp3 hT3 hc3; clear hT3 hF3 hc3))
            go_wp2_with fail
            go_roundw
            case rel => exact ⟨q + 1, va3, vp3, by omega, by go_num, by show FD _ _ _ _ _ _ _ _ _ _ _ _ _ _; rw [HNX.out]; exact (F3.out hb2).1, T3, by show _ = _; rw [HNX.out]; exact hb2, by show _ = _; rw [HNX.out]; exact (F3.out hb2).2, fun e he h => by rw [HNX.out]; exact HS2.out.mono (.inr ⟨rfl, by have := HTK.out e h; omega⟩)⟩
            case measure => simp [intOf]; omega
        · have hqq : q = (evL E0 ofA ofB).length := by omega
          rw [List.take_of_length_le (show (evL E0 ofA ofB).length ≤ q by omega)] at HF HG HL HSQ
          rw [bPair_ev hEa.out] at HF HG HL HSQ
          have HNG : Hid (besideS a b ofA ofB = bGo a b ofA ofB (300 - (k + 1)) (k + 1) (bEvs a b ofA ofB k ((x0 : Int), (y0 : Int)) s a.ev.toNat)) := by
            show _ = _
            rw [HE.out, go_next hp.out HG.out (by omega)]; rfl
          have hbs := bBig_some HG.out
          have HPS : Hid (k + 1 ≤ (bEvs a b ofA ofB k ((x0 : Int), (y0 : Int)) s a.ev.toNat).ps.length) := by
            obtain ⟨t, ht⟩ := bEvs_ps a b ofA ofB k ((x0 : Int), (y0 : Int)) s a.ev.toNat
            show _ ≤ _
            rw [ht, List.length_append]; omega
          have HSN : Hid (SI a b ((k + 1 : Nat) : Int) 0 (bEvs a b ofA ofB k ((x0 : Int), (y0 : Int)) s a.ev.toNat)) := (HSQ.out (E0 : Int) (by omega) (fun x hx => by have := (evL_bd x hx).1.2; omega)).mono (.inl (by omega))
          go_wp2_with fail
          go_roundw
          case rel => exact ⟨k + 1, _, va2, vp2, by go_num, HPS.out, hbs.1, HF, HXT.out.trans HT.out, HG, HL, HSN, HNG⟩
          case measure => simp [intOf]; omega
    · have HFIN : Hid (besideS a b ofA ofB = some s) := by show _ = _; rw [HE.out]; exact go_end hlt
      go_wp2_with fail
      go_ret
      refine ⟨va1, vp1, HT.out, ?_⟩
      rw [HFIN.out]
      exact ⟨rfl, HF.out, hps⟩

end Go.Proofs.YtcjcjaeaoianfaaDoor
namespace Go.Proofs.YtcjcjaeaoianfaaDoor
open Go.RowKit
set_option linter.unusedVariables false

section
variable {B : Nat} {W : World} {bf br : Nat} {st ev : Int} {vs va ve vp : Value} {S : List Int} {A : List Arr} {E : List Int} {P : List (Int × Int)}
theorem FD.setSt (h : FD B W bf br st ev vs va ve vp S A E P) (st' : Int) : FD B (W.setCell ⟨bf, 0, none⟩ (.int .i64 st')) bf br st' ev vs va ve vp S A E P := by
  obtain ⟨a1, a2⟩ := h.apart
  have key : ∀ v ∈ [vs, va, ve, vp], ∀ k, v.ownBlock = some k → (W.setCell ⟨bf, 0, none⟩ (.int .i64 st')).heap[k]? = W.heap[k]? := fun v hv k hk => Below.heap_setCell _ _ _ _ (fun e => (a2 v hv).1 (by rw [hk, e]))
  exact ⟨h.blk.set 0 _, own_same h.st (key vs (by simp)), own_same h.ar (key va (by simp)), own_same h.en (key ve (by simp)), own_same h.ps (key vp (by simp)), (Below.heap_setCell _ _ _ _ (Ne.symm a1)).trans h.mp, h.ne, h.nd, h.cr, h.lof, h.lor⟩
end
/-- What end leaves. -/
def EndPost (w0 : World) (bf br : Nat) (M ev : Int) (vs va vp : Value) (S : List Int) (A : List Arr) (E : List Int) (P : List (Int × Int)) (e : Ending) (W' : World) : Prop :=
  e = .returned (.tuple #[]) ∧ ∃ ve', FD w0.heap.size W' bf br M ev vs va ve' vp S A E P ∧ Below w0.heap.size w0 W'

set_option maxHeartbeats 8000000 in
set_option maxRecDepth 100000 in
theorem end_any (w0 W : World) (bf br : Nat) (ev : Int) (vs va vp : Value) (S : List Int) (A : List Arr) (P : List (Int × Int)) (a b : Mach) (ea eb : Option Addr) (ca cb : Nat) (M : Int)
    (hF : Hid (FD w0.heap.size W bf br P.length ev vs va (.slice none 0 0) vp S A [] P)) (hB : Hid (Below w0.heap.size w0 W)) (hA : Hid (At w0 ea a.ends)) (hb : Hid (At w0 eb b.ends)) (lA : Hid (a.ends.length ≤ maxLen)) (lB : Hid (b.ends.length ≤ maxLen)) (hP : P.length ≤ 256) (hM : (if (P.length : Int) < 1 then (1 : Int) else (P.length : Int)) = M) :
    Calls Tryd.prog 53 #[.pointer (some ⟨bf, 0, none⟩), .slice ea a.ends.length ca, .slice eb b.ends.length cb] W fun e W' => EndPost w0 bf br M ev vs va vp S A (endsP a b P P.length) P e W' := by
  obtain ⟨j0, ji, jz0, jz1, jz2⟩ := info_parts Tryd.infoInt
  obtain ⟨pa, pc, hvp, hpc1, hpc2, hpc3⟩ := own_form2 hF.out.ps
  have c5 := hF.out.cells.2.2.2.2.2.1
  have lb := hF.out.blk.lt
  rw [hvp] at c5
  have HVP := Hid.of hvp
  clear hvp
  go_enter Tryd.func53, Tryd.ntmps53
  go_wp2_with fail
  clear c5 lb
  go_loopw [13] (fun i wr => ∃ (n : Nat) (ve' : Value), n ≤ P.length ∧ i = .int .i64 n ∧ Hid (FD w0.heap.size wr bf br P.length ev vs va ve' vp S A (endsP a b P n) P) ∧ Hid (Below w0.heap.size w0 wr)) (fun i _ => P.length - (intOf i).toNat)
  case atStart => exact ⟨0, _, Nat.zero_le _, rfl, hF, hB⟩
  case round =>
    clear hF hB
    obtain ⟨n, ve1, hn, rfl, HF, HB⟩ := hrel
    by_cases hlt : n < P.length
    · obtain ⟨p, hp⟩ : ∃ p, Hid (P[n]? = some p) := ⟨_, List.getElem?_eq_getElem hlt⟩
      have HE := Hid.of (endsP_succ (a := a) (b := b) hp)
      obtain ⟨g, cap, hvp, hg1, hg2, p0, p1⟩ := HF.out.ps.cell hp.out
      have hva := HVP.out.symm.trans hvp
      simp only [Value.slice.injEq] at hva
      obtain ⟨rfl, -, rfl⟩ := hva
      clear hvp
      have HFA := Hid.of (HF.out.alloc (.cells #[.int .i64 p.1, .int .i64 p.2] 110))
      have HBA := Hid.of (HB.out.alloc HB.out.size (.cells #[.int .i64 p.1, .int .i64 p.2] 110))
      have KA := Hid.of (Blk.new wr 110 #[.int .i64 p.1, .int .i64 p.2])
      have HA1 : Hid (∀ V : World, Below w0.heap.size w0 V → Calls Tryd.prog 86 #[.slice ea a.ends.length ca, .int .i64 p.1] V fun e w' => e = .returned (.bool (hasB a.ends p.1)) ∧ w' = V) := fun V hV => rowHas_any ea ca a.ends p.1 V (hA.out.below hV (Nat.le_refl _)) lA.out
      have HB1 : Hid (∀ V : World, Below w0.heap.size w0 V → Calls Tryd.prog 86 #[.slice eb b.ends.length cb, .int .i64 p.2] V fun e w' => e = .returned (.bool (hasB b.ends p.2)) ∧ w' = V) := fun V hV => rowHas_any eb cb b.ends p.2 V (hb.out.below hV (Nat.le_refl _)) lB.out
      go_wp2_with fail
      refine (HA1.out _ HBA.out).mono ?_
      rintro e w1 ⟨rfl, rfl⟩
      clear p0 p1
      revert HFA HBA KA
      generalize wr.alloc (.cells #[.int .i64 p.1, .int .i64 p.2] 110) = V
      intro HFA HBA KA
      have k1 := KA.out.cell 1 rfl
      have lk := KA.out.lt
      cases h1 : hasB a.ends p.1 with
      | false =>
        rw [h1] at HE
        go_wp2_with fail
        go_roundw
        case rel => exact ⟨n + 1, ve1, by omega, by go_num, by show FD _ _ _ _ _ _ _ _ _ _ _ _ _ _; rw [HE.out]; exact HFA.out, HBA⟩
        case measure => simp [intOf]; omega
      | true =>
        rw [h1] at HE
        go_wp2_with fail
        refine (HB1.out _ HBA.out).mono ?_
        rintro e w1 ⟨rfl, rfl⟩
        cases h2 : hasB b.ends p.2 with
        | false =>
          rw [h2] at HE
          go_wp2_with fail
          go_roundw
          case rel => exact ⟨n + 1, ve1, by omega, by go_num, by show FD _ _ _ _ _ _ _ _ _ _ _ _ _ _; rw [HE.out]; exact HFA.out, HBA⟩
          case measure => simp [intOf]; omega
        | true =>
          rw [h2] at HE
          obtain ⟨qa, qc, hve, -, -, -⟩ := own_form2 HFA.out.en
          subst hve
          have c4 := HFA.out.cells.2.2.2.2.1
          have hel : (endsP a b P n).length ≤ 256 := Nat.le_trans (endsP_len a b P n) (by omega)
          have lbf := HFA.out.blk.lt
          clear k1
          go_wp2_with (at_builtin; refine wpList_append_block _ rfl (.tmp 33) (.tmp 35) 22 rfl w0.heap.size 3 j0 (.int .i64 0) 1 8 Tryd.underlying22 ji jz0 jz1 jz2 rfl (by decide) _ _ _ rfl (World.ownsRow.alloc HFA.out.en _) ⟨w1.heap.size, 0, none⟩ 1 1 [.int .i64 (n : Int)] rfl rfl (cell_one_new _ _ _) (by intro u hu; simp at hu; subst hu; rfl) (by decide) (by unfold maxLen; omega) (by omega) (by have := HBA.out.size; simp; omega) ?_)
          intro v9 w9 o9 g9 n9
          obtain ⟨ga, gc, hv9, -, -, -⟩ := own_form2 o9
          subst hv9
          obtain ⟨e1, e2, e3⟩ := HFA.out.pushE ((Below.refl _ _).alloc (Nat.le_refl _) _) o9 g9 (by rw [World.size_alloc]; exact n9)
          have E2 := Hid.of e2
          have B2 := Hid.of (HBA.out.trans (e3.below (fun j hj => (HFA.out.lt j hj).1) HBA.out.size))
          have z4 := e1.cell 4 rfl
          have zf := e1.frozen
          clear e2 e3 o9 g9 n9
          go_wp2_with fail
          go_roundw
          case rel => exact ⟨n + 1, _, by omega, by go_num, by show FD _ _ _ _ _ _ _ _ _ _ _ _ _ _; rw [HE.out]; exact E2.out, B2⟩
          case measure => simp [intOf]; omega
    · have hnn : n = P.length := by omega
      subst hnn
      have c0 := HF.out.cells.1
      have cf := HF.out.blk.frozen
      have lbf := HF.out.blk.lt
      have HFS := Hid.of (HF.out.setSt M)
      have HBS := Hid.of (HB.out.setCell (p := ⟨bf, 0, none⟩) HF.out.lof (.int .i64 M))
      have HMX : Hid (max (P.length : Int) 1 = M) := by show _ = _; rw [← hM]; split <;> omega
      go_wp2_with fail
      rw [HMX.out]
      go_end0
      exact ⟨rfl, ve1, HFS.out, HBS.out⟩

set_option maxHeartbeats 8000000 in
set_option maxRecDepth 100000 in
theorem list_any (B : Nat) (W : World) (bf br : Nat) (st ev : Int) (vs va ve vp : Value) (S : List Int) (A : List Arr) (E : List Int) (P : List (Int × Int)) (hF : Hid (FD B W bf br st ev vs va ve vp S A E P)) (hP : P.length ≤ 256) :
    Calls Tryd.prog 54 #[.pointer (some ⟨bf, 0, none⟩)] W fun e W' => ∃ v, e = .returned v ∧ Own2 W' W.heap.size v (prs P) ∧ Below W.heap.size W W' := by
  obtain ⟨i1, hi, hz0, hz1, hz2⟩ := info_parts Tryd.infoInts
  obtain ⟨pa, pc, hvp, hpc1, hpc2, hpc3⟩ := own_form2 hF.out.ps
  have c5 := hF.out.cells.2.2.2.2.2.1
  have lb := hF.out.blk.lt
  rw [hvp] at c5
  have HVP := Hid.of hvp
  clear hvp
  go_enter Tryd.func54, Tryd.ntmps54
  go_wp2_with fail
  clear c5 lb
  go_loopw [3, 11] (fun v i wr => ∃ (n : Nat), n ≤ P.length ∧ i = .int .i64 n ∧ Hid (Own2 wr W.heap.size v (prs (P.take n))) ∧ Hid (Below W.heap.size W wr)) (fun _ i _ => P.length - (intOf i).toNat)
  case atStart => exact ⟨0, Nat.zero_le _, rfl, own2_nil _ _, Below.refl _ _⟩
  case round =>
    obtain ⟨n, hn, rfl, HO, HB⟩ := hrel
    by_cases hlt : n < P.length
    · obtain ⟨p, hp⟩ : ∃ p, Hid (P[n]? = some p) := ⟨_, List.getElem?_eq_getElem hlt⟩
      have HN : Hid (prs (P.take (n + 1)) = prs (P.take n) ++ [[p.1, p.2]]) := by
        show _ = _
        rw [List.take_add_one, hp.out]
        exact prs_snoc _ _
      obtain ⟨g, cap, hvp, hg1, hg2, p0, p1⟩ := (hF.out.below HB.out).ps.cell hp.out
      have hva := HVP.out.symm.trans hvp
      simp only [Value.slice.injEq] at hva
      obtain ⟨rfl, -, rfl⟩ := hva
      clear hvp
      obtain ⟨vs1, ho, hin⟩ := HO.out
      have hpl : (prs (P.take n)).length ≤ 256 := by rw [prs_len, List.length_take]; omega
      have HO1 := Hid.of ho
      have HI1 := Hid.of hin
      clear ho hin
      have hbsz := HB.out.size
      go_wp2_with (at_builtin; refine wpList_append_block _ rfl (.tmp 15) (.tmp 21) 40 rfl W.heap.size 22 i1 (.slice none 0 0) 1 24 Tryd.underlying40 hi hz0 hz1 hz2 rfl (by decide) _ _ vs1 rfl (World.ownsRow.alloc (World.ownsRow.alloc (World.ownsRow.alloc HO1.out (.cells #[.int .i64 p.1, .int .i64 p.2] 110)) (.cells #[.int .i64 p.1, .int .i64 p.2] 3)) (.cells #[.slice (some ⟨wr.heap.size + 1, 0, none⟩) 2 2] 22)) ⟨wr.heap.size + 1 + 1, 0, none⟩ 1 1 [.slice (some ⟨wr.heap.size + 1, 0, none⟩) 2 2] rfl rfl ?c1 (by intro u hu; simp at hu; subst hu; rfl) (by decide) (by unfold maxLen; omega) (by omega) (by simp; omega) ?_)
      case c1 =>
        have := cell_one_new ((wr.alloc (.cells #[.int .i64 p.1, .int .i64 p.2] 110)).alloc (.cells #[.int .i64 p.1, .int .i64 p.2] 3)) (.slice (some ⟨wr.heap.size + 1, 0, none⟩) 2 2) 22
        rw [World.size_alloc, World.size_alloc] at this
        exact this
      intro v9 w9 o9 g9 n9
      have hlay : Below wr.heap.size wr (((wr.alloc (.cells #[.int .i64 p.1, .int .i64 p.2] 110)).alloc (.cells #[.int .i64 p.1, .int .i64 p.2] 3)).alloc (.cells #[.slice (some ⟨wr.heap.size + 1, 0, none⟩) 2 2] 22)) := (((Below.refl _ _).alloc (Nat.le_refl _) _).alloc (by simp) _).alloc (by simp; omega) _
      have hx : InnB (((wr.alloc (.cells #[.int .i64 p.1, .int .i64 p.2] 110)).alloc (.cells #[.int .i64 p.1, .int .i64 p.2] 3)).alloc (.cells #[.slice (some ⟨wr.heap.size + 1, 0, none⟩) 2 2] 22)) (.slice (some ⟨wr.heap.size + 1, 0, none⟩) 2 2) [p.1, p.2] := by
        have := innB_new (wr.alloc (.cells #[.int .i64 p.1, .int .i64 p.2] 110)) p.1 p.2
        rw [World.size_alloc] at this
        exact this.below ((Below.refl _ _).alloc (Nat.le_refl _) _)
      have hr : ∀ k, u3.ownBlock = some k → W.heap.size ≤ k := fun k hk => (HO1.out.lt k hk).1
      have HO2 : Hid (Own2 w9 W.heap.size v9 (prs (P.take (n + 1)))) := by
        show Own2 _ _ _ _
        rw [HN.out]
        exact Own2.snoc (World.ownsRow.alloc (World.ownsRow.alloc (World.ownsRow.alloc HO1.out _) _) _) (fun j x xs h1 h2 => (HI1.out j x xs h1 h2).below hlay) hx o9 g9
      have HB2 : Hid (Below W.heap.size W w9) := (HB.out.trans (hlay.mono HB.out.size)).grown g9 (Nat.le_trans HB.out.size hlay.size) hr
      clear hlay hx hr o9 g9 n9 p0 p1
      go_wp2_with fail
      go_roundw
      case rel => exact ⟨n + 1, by omega, by go_num, HO2, HB2⟩
      case measure => simp [intOf]; omega
    · have hnn : n = P.length := by omega
      subst hnn
      rw [List.take_of_length_le (Nat.le_refl _)] at HO
      go_wp2_with fail
      go_ret
      exact ⟨_, rfl, HO.out, HB.out⟩

end Go.Proofs.YtcjcjaeaoianfaaDoor
namespace Go.Proofs.YtcjcjaeaoianfaaDoor
open Go.RowKit
set_option linter.unusedVariables false

/-- An arrow's cells. -/
abbrev acells (a : Arr) : Array Value := #[.int .i64 a.f, .int .i64 a.e, .int .i64 a.t]

set_option maxRecDepth 100000 in
set_option maxHeartbeats 4000000 in
theorem compare_any (a b : Arr) (w : World) :
    Calls Tryd.prog 71 #[.agg (acells a), .agg (acells b)] w fun e w' => e = .returned (.int .i64 (cmpA a b)) ∧ Below w.heap.size w w' := by
  have k1 : Blk ((w.alloc (.cells (acells a) 51)).alloc (.cells (acells b) 51)) w.heap.size 51 (acells a) := (Blk.new w _ _).alloc _
  have k2 : Blk ((w.alloc (.cells (acells a) 51)).alloc (.cells (acells b) 51)) (w.heap.size + 1) 51 (acells b) := by
    have := Blk.new (w.alloc (.cells (acells a) 51)) 51 (acells b)
    rwa [World.size_alloc] at this
  have hB : Below w.heap.size w ((w.alloc (.cells (acells a) 51)).alloc (.cells (acells b) 51)) := ((Below.refl _ _).alloc (Nat.le_refl _) _).alloc (by simp) _
  have hsz : ((w.alloc (.cells (acells a) 51)).alloc (.cells (acells b) 51)).heap.size = w.heap.size + 2 := by simp
  have K1 := Hid.of k1
  have K2 := Hid.of k2
  have HB := Hid.of hB
  have HS := Hid.of hsz
  clear k1 k2 hB hsz
  go_enter Tryd.func71, Tryd.ntmps71
  go_wp2
  revert K1 K2 HB HS
  generalize (w.alloc (.cells (acells a) 51)).alloc (.cells (acells b) 51) = V
  intro K1 K2 HB HS
  have a0 : V.cell? ⟨w.heap.size, 0, none⟩ = some (.int .i64 a.f) := K1.out.cell 0 rfl
  have a1 : V.cell? ⟨w.heap.size, 1, none⟩ = some (.int .i64 a.e) := K1.out.cell 1 rfl
  have a2 : V.cell? ⟨w.heap.size, 2, none⟩ = some (.int .i64 a.t) := K1.out.cell 2 rfl
  have b0 : V.cell? ⟨w.heap.size + 1, 0, none⟩ = some (.int .i64 b.f) := K2.out.cell 0 rfl
  have b1 : V.cell? ⟨w.heap.size + 1, 1, none⟩ = some (.int .i64 b.e) := K2.out.cell 1 rfl
  have b2 : V.cell? ⟨w.heap.size + 1, 2, none⟩ = some (.int .i64 b.t) := K2.out.cell 2 rfl
  have hs := HS.out
  have hn1 : w.heap.size < V.heap.size := by omega
  have hn2 : w.heap.size + 1 < V.heap.size := by omega
  have n1 := World.new_ne V _ a0
  have n2 := World.new_ne V _ b0
  go_region_held3 (fun w' => w'.cell? ⟨w.heap.size, 0, none⟩ = some (.int .i64 a.f) ∧ w'.cell? ⟨w.heap.size, 1, none⟩ = some (.int .i64 a.e) ∧ w'.cell? ⟨w.heap.size, 2, none⟩ = some (.int .i64 a.t) ∧ w'.cell? ⟨w.heap.size + 1, 0, none⟩ = some (.int .i64 b.f) ∧ w'.cell? ⟨w.heap.size + 1, 1, none⟩ = some (.int .i64 b.e) ∧ w'.cell? ⟨w.heap.size + 1, 2, none⟩ = some (.int .i64 b.t)) (go_keep) (first | (go_at_call 96; refine (cmp_any _ _ _).mono ?_; rintro e w1 ⟨rfl, rfl⟩) | (go_at_call 95; refine (or_any (cmpI a.f b.f) (cmpI a.e b.e) (cmpI a.t b.t) _ _ (by go_simp) (by go_simp) (by go_simp)).mono ?_; rintro e w1 ⟨rfl, rfl⟩))
  go_wp2
  go_ret
  exact ⟨rfl, (HB.out.alloc HB.out.size _).drew⟩

end Go.Proofs.YtcjcjaeaoianfaaDoor
