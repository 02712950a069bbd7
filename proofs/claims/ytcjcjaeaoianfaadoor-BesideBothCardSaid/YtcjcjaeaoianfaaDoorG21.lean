/-
  Plain: states, and where unseen events lead to from them, as the reference finds them. No program, no model.
  The walk of hide.Seen: what is seen of a word.
  What is said of a set of states (an array of four words) in a world. The walks of Set.With, Set.Join and Set.Meets.
-/
import Derived.Test.YtcjcjaeaoianfaaDoorG06
import Derived.Test.YtcjcjaeaoianfaaDoorG20
import Derived.Test.YtcjcjaeaoianfaaDoorG04
import Derived.Test.YtcjcjaeaoianfaaDoorG08
import Derived.Test.YtcjcjaeaoianfaaDoorG11
import Derived.Test.YtcjcjaeaoianfaaDoorG07
import Derived.Test.YtcjcjaeaoianfaaDoorG05
import Derived.Laws.EntriesVeiled
import Derived.Laws.Bits64b
import Derived.BigQuiet
import Derived.BigRegion
import Derived.Deep.RegionHeld3
namespace Go.Proofs.YtcjcjaeaoianfaaDoor
open Go.RowKit
set_option linter.unusedVariables false

/-- What is seen of a word. -/
def seenL (seen word : List Int) : List Int := word.filter fun n => hasB seen n == true

/-- One arrow more. -/
def wAdd (seen : List Int) (x : Int) (l : List Int) (a : Arr) : List Int := if (decide (a.f = x) && (!hasB seen a.e && !hasB l a.t)) = true then l ++ [a.t] else l
def wRow (ars : List Arr) (seen : List Int) (x : Int) (l : List Int) : List Int := ars.foldl (wAdd seen x) l
def wGo (ars : List Arr) (seen : List Int) : Nat → Nat → List Int → List Int
  | 0, _, l => l
  | f + 1, k, l => if k < l.length then wGo ars seen f (k + 1) (wRow ars seen (l[k]?.getD 0) l) else l
def wideL (ars : List Arr) (seen ss : List Int) : List Int := srt (wGo ars seen (ss.length + 256) 0 ss)

/-- How a list has grown. -/
def WB (ss l : List Int) : Prop := ∃ t, l = ss ++ t ∧ t.Nodup ∧ ∀ x ∈ t, 0 ≤ x ∧ x < (256 : Nat)
theorem WB.refl (ss : List Int) : WB ss ss := ⟨[], by simp, by simp, by simp⟩
theorem WB.len {ss l : List Int} (h : WB ss l) : l.length ≤ ss.length + 256 := by
  obtain ⟨t, rfl, h1, h2⟩ := h
  have := nodup_len 256 t h1 h2
  rw [List.length_append]; omega
theorem WB.add {ss l : List Int} (h : WB ss l) {seen : List Int} {x : Int} {a : Arr} (ha : 0 ≤ a.t ∧ a.t < (256 : Nat)) : WB ss (wAdd seen x l a) := by
  unfold wAdd
  split
  · rename_i hc
    obtain ⟨t, rfl, h1, h2⟩ := h
    have hn : a.t ∉ ss ++ t := by
      intro hm
      rw [(hasB_iff _ _).2 hm] at hc
      simp at hc
    refine ⟨t ++ [a.t], by rw [List.append_assoc], ?_, ?_⟩
    · rw [List.nodup_append]
      exact ⟨h1, by simp, fun y hy z hz e => by simp at hz; subst hz; subst e; exact hn (by simp [hy])⟩
    · intro y hy
      rcases List.mem_append.1 hy with hy | hy
      · exact h2 y hy
      · have : y = a.t := by simpa using hy
        rw [this]; exact ha
  · exact h
theorem wAdd_pre (seen : List Int) (x : Int) (l : List Int) (a : Arr) : ∃ t, wAdd seen x l a = l ++ t := by
  unfold wAdd; split
  · exact ⟨_, rfl⟩
  · exact ⟨[], by simp⟩
theorem wRow_pre (seen : List Int) (x : Int) : ∀ (ars : List Arr) (l : List Int), ∃ t, wRow ars seen x l = l ++ t
  | [], l => ⟨[], by simp [wRow]⟩
  | a :: r, l => by
    obtain ⟨t, h⟩ := wAdd_pre seen x l a
    obtain ⟨u, h'⟩ := wRow_pre seen x r (wAdd seen x l a)
    exact ⟨t ++ u, by show wRow r seen x (wAdd seen x l a) = _; rw [h', h, List.append_assoc]⟩
theorem wRow_take {ars : List Arr} {seen : List Int} {x : Int} {l : List Int} {j : Nat} {a : Arr} (h : j < ars.length) (ha : Hid (a = ars[j]?.getD arr0)) : wRow (ars.take (j + 1)) seen x l = wAdd seen x (wRow (ars.take j) seen x l) a := by
  have ha := ha.out
  rw [List.getElem?_eq_getElem h, Option.getD_some] at ha
  unfold wRow
  rw [List.take_add_one, List.getElem?_eq_getElem h, List.foldl_append, ← ha]; rfl
theorem wRow_nth {ars : List Arr} {seen : List Int} {x : Int} {l : List Int} {k : Nat} (h : k < l.length) : k < (wRow ars seen x l).length ∧ (wRow ars seen x l)[k]?.getD 0 = l[k]?.getD 0 := by
  obtain ⟨t, e⟩ := wRow_pre seen x ars l
  rw [e, List.getElem?_append_left h, List.length_append]
  exact ⟨by omega, rfl⟩
theorem wGo_next {ars : List Arr} {seen : List Int} {f k : Nat} {l : List Int} (hk : k < l.length) (hf : 0 < f) : wGo ars seen f k l = wGo ars seen (f - 1) (k + 1) (wRow ars seen (l[k]?.getD 0) l) := by
  obtain ⟨g, rfl⟩ : ∃ g, f = g + 1 := ⟨f - 1, by omega⟩
  rw [wGo, if_pos hk]; rfl
theorem wGo_end {ars : List Arr} {seen : List Int} {f k : Nat} {l : List Int} (hk : ¬ k < l.length) : wGo ars seen f k l = l := by
  cases f with
  | zero => rfl
  | succ g => rw [wGo, if_neg hk]
theorem wGo_none (seen : List Int) : ∀ (f k : Nat) (l : List Int), wGo [] seen f k l = l
  | 0, _, _ => rfl
  | f + 1, k, l => by
    rw [wGo]
    split
    · exact wGo_none seen f (k + 1) l
    · rfl
theorem wide_none (seen ss : List Int) : wideL [] seen ss = srt ss := by unfold wideL; rw [wGo_none]

end Go.Proofs.YtcjcjaeaoianfaaDoor
namespace Go.Proofs.YtcjcjaeaoianfaaDoor
open Go.RowKit
set_option linter.unusedVariables false

theorem hasB_perm {S xs : List Int} (h : ∀ x, x ∈ S ↔ x ∈ xs) (x : Int) : hasB S x = hasB xs x := by
  have := h x
  cases h1 : hasB S x <;> cases h2 : hasB xs x <;> simp_all [hasB]

set_option maxHeartbeats 2000000 in
set_option maxRecDepth 100000 in
theorem pSeen_some (bx ox cx cy : Nat) (ay : Option Addr) (xs ys : List Int) (w : World) (hl : xs.length ≤ 17592186044416) (hbx : bx < w.heap.size) (hc : Cells w bx ox xs) (ht : Hid (At w ay ys)) (hm : Hid (ys.length ≤ 17592186044416)) :
    Calls Tryd.prog 24 #[.slice (some ⟨bx, ox, none⟩) xs.length cx, .slice ay ys.length cy] w fun e w' => ∃ v, e = .returned v ∧ Own w' w.heap.size v (seenL ys xs) ∧ Below w.heap.size w w' := by
  obtain ⟨i0, hi, hz0, hz1, hz2⟩ := info_parts Tryd.infoInt
  go_enter Tryd.func24, Tryd.ntmps24
  go_wp2_with fail
  refine (clone_any ay cy ys _ ht.out hm.out).mono ?_
  rintro e w1 ⟨sv, rfl, hs1, hb1⟩
  have S1 := Hid.of hs1
  have B1 := Hid.of hb1
  clear hs1 hb1
  go_wp2_with fail
  refine (sortI_any _ _ sv ys S1.out hm.out).mono ?_
  rintro e W0 ⟨rfl, S, hSl, hSm, hSs, hSo, hb2⟩
  have B2 : Hid (Below w.heap.size w W0) := hb2 _ _ (Nat.le_refl _) B1.out
  have HM : Hid (∀ x, hasB S x = hasB ys x) := fun x => hasB_perm hSm x
  have HS := Hid.of hSs
  have HL : Hid (S.length ≤ 17592186044416) := by show _ ≤ _; rw [hSl]; exact hm.out
  obtain ⟨sa, sc, rfl, hat, -⟩ := hSo.at
  have HA := Hid.of hat
  clear hSl hSm hSs hSo hb2 hat S1 B1
  go_wp2
  go_loopw [6, 17] (fun v i wr => ∃ k : Nat, k ≤ xs.length ∧ i = .int .i64 k ∧ Own wr W0.heap.size v (onlyTo xs ys true k) ∧ Below W0.heap.size W0 wr) (fun _ i _ => xs.length - (intOf i).toNat)
  case atStart => exact ⟨0, Nat.zero_le _, rfl, own_nil _ _, Below.refl _ _⟩
  case round =>
    obtain ⟨k, hk, rfl, hown, hbel⟩ := hrel
    by_cases hlt : k < xs.length
    · obtain ⟨x, HX, hcx0⟩ := hc.at hlt
      have hcx1 : W0.cell? ⟨bx, ox + k, none⟩ = some (.int .i64 x) := (B2.out.cell (p := ⟨bx, ox + k, none⟩) hbx).trans hcx0
      have hcx : wr.cell? ⟨bx, ox + k, none⟩ = some (.int .i64 x) := (hbel.cell (p := ⟨bx, ox + k, none⟩) (Nat.lt_of_lt_of_le hbx B2.out.size)).trans hcx1
      clear hcx0 hcx1
      have HT : Hid (At wr sa S) := HA.out.below hbel (Nat.le_refl _)
      have hsz := hbel.size
      have hll := onlyTo_len xs ys true k
      go_wp2_with fail
      refine (searchI_any sa sc S x _ HT.out HL.out HS.out).mono ?_
      rintro e w' ⟨⟨n0, rfl⟩, q, rfl⟩
      rw [HM.out x]
      have hownq : Own (wr.drewN q) W0.heap.size u6 (onlyTo xs ys true k) := hown
      have hbelq : Below W0.heap.size W0 (wr.drewN q) := below_drewN hbel q
      have hszq : W0.heap.size ≤ (wr.drewN q).heap.size := hsz
      by_cases hh : hasB ys x = true
      · have HH : Hid (hasB ys x = true) := hh
        clear hown hbel hsz
        rw [hh]
        clear hh
        generalize wr.drewN q = wq at *
        go_wp2_with (at_builtin; refine wpList_append_own _ rfl _ _ 22 rfl W0.heap.size 3 i0 (.int .i64 0) 1 8 Tryd.underlying22 hi hz0 hz1 hz2 rfl (by decide) _ _ _ rfl (World.ownsRow.alloc hownq _) ⟨wq.heap.size, 0, none⟩ 1 1 [.int .i64 x] rfl rfl (cell_one_new _ _ _) (by intro u hu; simp at hu; subst hu; rfl) (by unfold maxLen; omega) (by omega) (by simp; omega) ?_)
        intro v' w1 hown' hgrow _
        obtain ⟨r1, r2, -⟩ := own_snoc hownq hbelq hszq hown' hgrow
        rw [← onlyTo_hit hlt HX HH.out] at r1
        clear hown' hgrow hownq hcx
        go_wp2
        go_roundw
        case rel => exact ⟨k + 1, by omega, by go_num, r1, r2⟩
        case measure => simp [intOf]; omega
      · have hh : hasB ys x = false := by simpa using hh
        have r1 := hownq
        rw [← onlyTo_miss (b := true) hlt HX (by rw [hh]; simp)] at r1
        rw [hh]
        clear hown hbel hsz hownq hh
        generalize wr.drewN q = wq at *
        go_wp2
        go_roundw
        case rel => exact ⟨k + 1, by omega, by go_num, r1, hbelq⟩
        case measure => simp [intOf]; omega
    · rw [onlyTo_all ys true hlt] at hown
      go_wp2
      go_ret
      exact ⟨_, rfl, Own.low hown B2.out.size, B2.out.trans (hbel.mono B2.out.size)⟩

set_option maxHeartbeats 1000000 in
theorem pSeen_nil (ax : Option Addr) (cx cy : Nat) (ay : Option Addr) (ys : List Int) (w : World) (ht : Hid (At w ay ys)) (hm : Hid (ys.length ≤ 17592186044416)) :
    Calls Tryd.prog 24 #[.slice ax 0 cx, .slice ay ys.length cy] w fun e w' => e = .returned (.slice none 0 0) ∧ Below w.heap.size w w' := by
  go_enter Tryd.func24, Tryd.ntmps24
  go_wp2_with fail
  refine (clone_any ay cy ys _ ht.out hm.out).mono ?_
  rintro e w1 ⟨sv, rfl, hs1, hb1⟩
  have S1 := Hid.of hs1
  have B1 := Hid.of hb1
  clear hs1 hb1
  go_wp2_with fail
  refine (sortI_any _ _ sv ys S1.out hm.out).mono ?_
  rintro e W0 ⟨rfl, S, hSl, hSm, hSs, hSo, hb2⟩
  have B2 : Hid (Below w.heap.size w W0) := hb2 _ _ (Nat.le_refl _) B1.out
  clear hSl hSm hSs hSo hb2 S1 B1
  go_wp2
  refine wp_loop_rounds 1 ?_
  rw [rounds_succ]
  go_wp2
  go_ret
  exact ⟨rfl, B2.out⟩

theorem pSeen_any (ax ay : Option Addr) (cx cy : Nat) (xs ys : List Int) (w : World) (hs : At w ax xs) (hl : xs.length ≤ 17592186044416) (ht : At w ay ys) (hm : ys.length ≤ 17592186044416) :
    Calls Tryd.prog 24 #[.slice ax xs.length cx, .slice ay ys.length cy] w fun e w' => ∃ v, e = .returned v ∧ Own w' w.heap.size v (seenL ys xs) ∧ Below w.heap.size w w' := by
  rcases hs with rfl | ⟨b, off, rfl, hb, hc⟩
  · refine (pSeen_nil ax cx cy ay ys w (Hid.of ht) (Hid.of hm)).mono ?_
    rintro e w' ⟨rfl, hb⟩
    exact ⟨_, rfl, own_nil _ _, hb⟩
  · exact pSeen_some b off cx cy ay xs ys w hl hb hc (Hid.of ht) (Hid.of hm)

end Go.Proofs.YtcjcjaeaoianfaaDoor
namespace Go.Proofs.YtcjcjaeaoianfaaDoor
open Go.RowKit
set_option linter.unusedVariables false

/-- A set's cells, and its value. -/
abbrev scells (S : Nat → Nat) : Array Value := #[.int .u64 (S 0), .int .u64 (S 1), .int .u64 (S 2), .int .u64 (S 3)]
abbrev sval (S : Nat → Nat) : Value := .agg (scells S)

/-- The first k words joined. -/
def mixS (k : Nat) (S T : Nat → Nat) : Nat → Nat := fun j => if j < k then S j ||| T j else S j

theorem or_words {S T : Nat → Nat} (h : okS S) (h' : okS T) (k : Nat) : bits .or .u64 (S k : Int) (T k : Int) = ((S k ||| T k : Nat) : Int) := bits_or_u64_nat _ _ (h k) (h' k)

/-- A set's block. -/
abbrev SB (W : World) (b : Nat) (S : Nat → Nat) : Prop := Blk W b 55 (scells S)

theorem SB.cells {W : World} {b : Nat} {S : Nat → Nat} (h : SB W b S) : W.cell? ⟨b, 0, none⟩ = some (.int .u64 (S 0)) ∧ W.cell? ⟨b, 1, none⟩ = some (.int .u64 (S 1)) ∧ W.cell? ⟨b, 2, none⟩ = some (.int .u64 (S 2)) ∧ W.cell? ⟨b, 3, none⟩ = some (.int .u64 (S 3)) :=
  ⟨h.cell 0 rfl, h.cell 1 rfl, h.cell 2 rfl, h.cell 3 rfl⟩

theorem mix_step0 {S T : Nat → Nat} (h : okS S) (h' : okS T) : (scells (mixS 0 S T)).setIfInBounds 0 (.int .u64 (bits .or .u64 (mixS 0 S T 0) (T 0))) = scells (mixS 1 S T) := by
  show (#[.int .u64 (bits .or .u64 (S 0) (T 0)), .int .u64 (S 1), .int .u64 (S 2), .int .u64 (S 3)] : Array Value) = _
  rw [or_words h h']; rfl
theorem mix_step1 {S T : Nat → Nat} (h : okS S) (h' : okS T) : (scells (mixS 1 S T)).setIfInBounds 1 (.int .u64 (bits .or .u64 (mixS 1 S T 1) (T 1))) = scells (mixS 2 S T) := by
  show (#[.int .u64 (mixS 1 S T 0), .int .u64 (bits .or .u64 (S 1) (T 1)), .int .u64 (S 2), .int .u64 (S 3)] : Array Value) = _
  rw [or_words h h']; rfl
theorem mix_step2 {S T : Nat → Nat} (h : okS S) (h' : okS T) : (scells (mixS 2 S T)).setIfInBounds 2 (.int .u64 (bits .or .u64 (mixS 2 S T 2) (T 2))) = scells (mixS 3 S T) := by
  show (#[.int .u64 (mixS 2 S T 0), .int .u64 (mixS 2 S T 1), .int .u64 (bits .or .u64 (S 2) (T 2)), .int .u64 (S 3)] : Array Value) = _
  rw [or_words h h']; rfl
theorem mix_step3 {S T : Nat → Nat} (h : okS S) (h' : okS T) : (scells (mixS 3 S T)).setIfInBounds 3 (.int .u64 (bits .or .u64 (mixS 3 S T 3) (T 3))) = scells (mixS 4 S T) := by
  show (#[.int .u64 (mixS 3 S T 0), .int .u64 (mixS 3 S T 1), .int .u64 (mixS 3 S T 2), .int .u64 (bits .or .u64 (S 3) (T 3))] : Array Value) = _
  rw [or_words h h']; rfl

set_option maxHeartbeats 2000000 in
theorem join_any (S T : Nat → Nat) (w : World) (h : okS S) (h' : okS T) :
    Calls Tryd.prog 91 #[sval S, sval T] w fun e w' => e = .returned (sval (joinS S T)) ∧ Below w.heap.size w w' := by
  go_enter Tryd.func91, Tryd.ntmps91
  go_wp2
  go_loopw [6] (fun i wr => ∃ k : Nat, k ≤ 4 ∧ i = .int .i64 k ∧ SB wr w.heap.size (mixS k S T) ∧ SB wr (w.heap.size + 1) T ∧ SB wr (w.heap.size + 2) zeroS ∧ Below w.heap.size w wr) (fun i _ => 4 - (intOf i).toNat)
  case atStart =>
    refine ⟨0, by omega, rfl, ((Blk.new w _ _).alloc _).alloc _, ?_, ?_, (((Below.refl _ _).alloc (Nat.le_refl _) _).alloc (by simp) _).alloc (by simp; omega) _⟩
    · have := (Blk.new (w.alloc (.cells (scells S) 55)) 55 (scells T)).alloc (.cells (scells zeroS) 55)
      rwa [World.size_alloc] at this
    · have := (Blk.new ((w.alloc (.cells (scells S) 55)).alloc (.cells (scells T) 55)) 55 (scells zeroS))
      rwa [World.size_alloc, World.size_alloc] at this
  case round =>
    obtain ⟨k, hk, rfl, s1, s2, s3, hB⟩ := hrel
    have hk' : k = 4 ∨ k = 0 ∨ k = 1 ∨ k = 2 ∨ k = 3 := by omega
    obtain ⟨p0, p1, p2, p3⟩ := s1.cells
    obtain ⟨q0, q1, q2, q3⟩ := s2.cells
    have fz := s1.frozen
    rcases hk' with rfl | rfl | rfl | rfl | rfl
    · obtain ⟨r0, r1, r2, r3⟩ := s3.cells
      have fz3 := s3.frozen
      have e4 : Hid (scells (mixS 4 S T) = scells (joinS S T)) := rfl
      have k1 := (((s3.set 0 (.int .u64 (mixS 4 S T 0))).set 1 (.int .u64 (mixS 4 S T 1))).set 2 (.int .u64 (mixS 4 S T 2))).set 3 (.int .u64 (mixS 4 S T 3))
      have k2 := Hid.of k1
      clear k1
      go_wp2
      have k1 := k2.out
      refine bodyPost_ret (v := sval (joinS S T)) ?_ rfl ⟨rfl, (((hB.setCell (p := ⟨w.heap.size + 1 + 1, 0, none⟩) (by simp; omega) _).setCell (p := ⟨w.heap.size + 1 + 1, 1, none⟩) (by simp; omega) _).setCell (p := ⟨w.heap.size + 1 + 1, 2, none⟩) (by simp; omega) _).setCell (p := ⟨w.heap.size + 1 + 1, 3, none⟩) (by simp; omega) _⟩
      exact results_cell_row (g := w.heap.size + 2) (p := 4) rfl _ _ _ _ _ _ rfl k1 Tryd.underlying55 rfl (by kernel_rfl)
    · go_wp2
      go_region
      go_wp2
      exact ⟨⟨1, by omega, rfl, (by have := s1.set 0 (.int .u64 (bits .or .u64 (mixS 0 S T 0) (T 0))); rwa [mix_step0 h h'] at this), s2.other (by omega) _, s3.other (by omega) _, (hB.setCell (p := ⟨w.heap.size, 0, none⟩) (by simp) _).drew⟩, by simp [intOf]⟩
    · go_wp2
      go_region
      go_wp2
      exact ⟨⟨2, by omega, rfl, (by have := s1.set 1 (.int .u64 (bits .or .u64 (mixS 1 S T 1) (T 1))); rwa [mix_step1 h h'] at this), s2.other (by omega) _, s3.other (by omega) _, (hB.setCell (p := ⟨w.heap.size, 1, none⟩) (by simp) _).drew⟩, by simp [intOf]⟩
    · go_wp2
      go_region
      go_wp2
      exact ⟨⟨3, by omega, rfl, (by have := s1.set 2 (.int .u64 (bits .or .u64 (mixS 2 S T 2) (T 2))); rwa [mix_step2 h h'] at this), s2.other (by omega) _, s3.other (by omega) _, (hB.setCell (p := ⟨w.heap.size, 2, none⟩) (by simp) _).drew⟩, by simp [intOf]⟩
    · go_wp2
      go_region
      go_wp2
      exact ⟨⟨4, by omega, rfl, (by have := s1.set 3 (.int .u64 (bits .or .u64 (mixS 3 S T 3) (T 3))); rwa [mix_step3 h h'] at this), s2.other (by omega) _, s3.other (by omega) _, (hB.setCell (p := ⟨w.heap.size, 3, none⟩) (by simp) _).drew⟩, by simp [intOf]⟩

end Go.Proofs.YtcjcjaeaoianfaaDoor
