/-
  The walk of machine.Accepts.
  The walk of jalousiekeep.has: whether a list has a number.
  The walk of the law BesideBoth.
-/
import Derived.Test.YtcjcjaeaoianfaaDoorCAfterOk
import Derived.Test.YtcjcjaeaoianfaaDoorG25
import Derived.Test.YtcjcjaeaoianfaaDoorG03
import Derived.Test.YtcjcjaeaoianfaaDoorG17
import Derived.Test.YtcjcjaeaoianfaaDoorG20
import Derived.Test.YtcjcjaeaoianfaaDoorG21
import Derived.Test.YtcjcjaeaoianfaaDoorG07
namespace Go.Proofs.YtcjcjaeaoianfaaDoor
open Go.RowKit
set_option linter.unusedVariables false

set_option maxRecDepth 100000 in
set_option maxHeartbeats 4000000 in
theorem pAccepts_err (m : Mach) (l : ML) (wa : Option Addr) (wc : Nat) (word : List Int) (c : Int) (w : World) (hc : (c == 0) = false)
    (H : Hid (∀ W, Below w.heap.size w W → Calls Tryd.prog 38 #[mval m l, .slice l.a1 m.starts.length l.c1, .slice wa word.length wc] W fun e w' => e = .returned (.tuple #[sval zeroS, .int .i64 c]) ∧ Below W.heap.size W w')) :
    Calls Tryd.prog 14 #[mval m l, .slice wa word.length wc] w fun e w' => e = .returned (.tuple #[.bool false, .int .i64 c]) ∧ Below w.heap.size w w' := by
  have B0 : Hid (Below w.heap.size w (w.alloc (.cells (mcells m l) 25))) := (Below.refl _ _).alloc (Nat.le_refl _) _
  have hc' : (c != 0) = true := by simp only [bne, hc]; rfl
  have hc2 : ¬ c = 0 := by simpa using hc
  go_enter Tryd.func14, Tryd.ntmps14
  go_wp2_with fail
  refine (H.out _ B0.out).mono ?_
  rintro e w1 ⟨rfl, hb1⟩
  have HB := Hid.of (B0.out.trans (hb1.mono B0.out.size))
  clear hb1
  go_wp2
  refine bodyPost_ret (results_tmp2 rfl _ _ _) rfl ?_
  exact ⟨rfl, HB.out.alloc HB.out.size _⟩

set_option maxRecDepth 100000 in
set_option maxHeartbeats 4000000 in
theorem pAccepts_ok (m : Mach) (l : ML) (wa : Option Addr) (wc : Nat) (word : List Int) (w : World) (h : MAt w m l) (hT : Hid (Tab w)) (hm : Hid (mayB m = true)) (hv : Hid (At w wa word)) (hwl : Hid (word.length ≤ maxLen)) (hwd : Hid (wordB m.ev word = true)) :
    Calls Tryd.prog 14 #[mval m l, .slice wa word.length wc] w fun e w' => e = .returned (.tuple #[.bool (acceptsB m word), .int .i64 0]) ∧ Below w.heap.size w w' := by
  have b0 : Below w.heap.size w (w.alloc (.cells (mcells m l) 25)) := (Below.refl _ _).alloc (Nat.le_refl _) _
  have h' := h.below b0 (Nat.le_refl _)
  have l1 : m.starts.length ≤ maxLen := Nat.le_trans h.s1 h.s2
  have l3 : Hid (m.ends.length ≤ maxLen) := Nat.le_trans h.e1 h.e2
  have hcall := Hid.of (after_ok m l l.a1 wa l.c1 wc m.starts word _ h' (Hid.of (hT.out.below b0 hT.out.lt)) hm (Hid.of h'.s) (Hid.of l1) (Hid.of (mayB_starts hm.out)) (Hid.of (hv.out.below b0 (Nat.le_refl _))) hwl hwd)
  have B0 := Hid.of b0
  have HM := Hid.of h
  have K1 := Hid.of (Blk.new w 25 (mcells m l))
  clear b0 h h' l1
  go_enter Tryd.func14, Tryd.ntmps14
  go_wp2_with fail
  refine hcall.out.mono ?_
  rintro e w1 ⟨S, hS, rfl, hb1⟩
  have HB := Hid.of (B0.out.trans (hb1.mono B0.out.size))
  have HS := Hid.of hS
  have k2 := (K1.out.below hb1 K1.out.lt).alloc (.cells (scells S) 55)
  have k3 := Blk.new w1 55 (scells S)
  have KM := Hid.of k2
  have KS := Hid.of k3
  have HB2 : Hid (Below w.heap.size w (w1.alloc (.cells (scells S) 55))) := HB.out.alloc HB.out.size _
  clear hb1 hS hcall k2 k3
  go_wp2_with fail
  revert KM KS HB2
  generalize w1.alloc (.cells (scells S) 55) = V
  intro KM KS HB2
  obtain ⟨c0, c1, c2, c3⟩ := SB.cells KS.out
  have e4 : V.cell? ⟨w.heap.size, 4, none⟩ = some (.slice l.a3 m.ends.length l.c3) := KM.out.cell 4 rfl
  have hle := Hid.of (HM.out.below HB2.out.drew (Nat.le_refl _)).e
  have hbd : Hid (∀ x ∈ m.ends, 0 ≤ x ∧ x < 256) := fun x hx => by
    have h1 := ((goIs_iff _ _ _).1 (mayB_ends hm.out)).2 x hx
    have h2 := mayB_size hm.out
    unfold sizeOk at h2
    omega
  have hE : Hid (Rep (ofS m.ends) m.ends) := by
    have := rep_of hbd.out m.ends.length
    rwa [List.take_of_length_le (Nat.le_refl _)] at this
  go_region_held3 (fun w' => w'.cell? ⟨w1.heap.size, 0, none⟩ = some (.int .u64 (S 0)) ∧ w'.cell? ⟨w1.heap.size, 1, none⟩ = some (.int .u64 (S 1)) ∧ w'.cell? ⟨w1.heap.size, 2, none⟩ = some (.int .u64 (S 2)) ∧ w'.cell? ⟨w1.heap.size, 3, none⟩ = some (.int .u64 (S 3)) ∧ w'.cell? ⟨w.heap.size, 4, none⟩ = some (.slice l.a3 m.ends.length l.c3)) (go_keep) (first | (go_at_call 41; refine (of_any l.a3 l.c3 m.ends _ hle.out l3.out hbd.out).mono ?_; rintro e wO ⟨rfl, hbO⟩; have HBO := Hid.of (HB2.out.drew.trans (hbO.mono HB2.out.size)); have KSO := Hid.of (Blk.below (Blk.drew KS.out) hbO KS.out.lt); have KMO := Hid.of (Blk.below (Blk.drew KM.out) hbO KM.out.lt); obtain ⟨d0, d1, d2, d3⟩ := SB.cells KSO.out; have d4 : wO.cell? ⟨w.heap.size, 4, none⟩ = some (.slice l.a3 m.ends.length l.c3) := KMO.out.cell 4 rfl; clear hbO) | (go_at_call 40; refine (meets_any S (ofS m.ends) _ HS.out.ok hE.out.ok).mono ?_; rintro e wM ⟨rfl, hbM⟩; have HBM := Hid.of (HBO.out.trans (hbM.mono HBO.out.size)); obtain ⟨g0, g1, g2, g3⟩ := SB.cells (Blk.below KSO.out hbM KSO.out.lt); have g4 : wM.cell? ⟨w.heap.size, 4, none⟩ = some (.slice l.a3 m.ends.length l.c3) := (Blk.below KMO.out hbM KMO.out.lt).cell 4 rfl; clear hbM))
  have HF : Hid (meetB S (ofS m.ends) = acceptsB m word) := meet_iff HS.out hE.out
  go_wp2
  refine bodyPost_ret (results_tmp2 rfl _ _ _) rfl ?_
  exact ⟨by rw [← HF.out]; rfl, HBM.out⟩

end Go.Proofs.YtcjcjaeaoianfaaDoor
namespace Go.Proofs.YtcjcjaeaoianfaaDoor
open Go.RowKit

set_option maxHeartbeats 400000 in
theorem keepHas_some (b off cap : Nat) (xs : List Int) (n : Int) (w : World) (hl : xs.length ≤ 9223372036854775807) (hc : Cells w b off xs) :
    Calls Tryd.prog 25 #[.slice (some ⟨b, off, none⟩) xs.length cap, .int .i64 n] w fun e w' => e = .returned (.bool (hasB xs n)) ∧ w' = w := by
  go_enter Tryd.func25, Tryd.ntmps25
  go_wp2
  go_loop [5] (fun i => ∃ k : Nat, k ≤ xs.length ∧ i = .int .i64 k ∧ Hid (hasB xs n = hasB (xs.drop k) n)) (fun i => xs.length - (intOf i).toNat)
  case atStart => exact ⟨0, Nat.zero_le _, rfl, rfl⟩
  case round =>
    obtain ⟨k, hk, rfl, he⟩ := hrel
    by_cases hlt : k < xs.length
    · obtain ⟨x, HX, hcell⟩ := hc.at hlt
      go_wp2
      · go_ret
        exact ⟨ret_bool (has_hit hlt he HX (by assumption)), rfl⟩
      · go_round
        case rel => exact ⟨k + 1, by omega, by go_num, has_miss hlt he HX (by assumption)⟩
        case measure => simp [intOf]; omega
    · go_wp2
      go_ret
      exact ⟨ret_bool (has_end hlt he), rfl⟩

set_option maxHeartbeats 400000 in
theorem keepHas_nil (a : Option Addr) (cap : Nat) (n : Int) (w : World) :
    Calls Tryd.prog 25 #[.slice a 0 cap, .int .i64 n] w fun e w' => e = .returned (.bool false) ∧ w' = w := by
  go_enter Tryd.func25, Tryd.ntmps25
  go_wp2
  refine wp_loop_rounds 1 ?_
  rw [rounds_succ]
  go_wp2
  go_ret
  exact ⟨rfl, rfl⟩

theorem keepHas_any (a : Option Addr) (cap : Nat) (xs : List Int) (n : Int) (w : World) (hs : At w a xs) (hl : xs.length ≤ maxLen) :
    Calls Tryd.prog 25 #[.slice a xs.length cap, .int .i64 n] w fun e w' => e = .returned (.bool (hasB xs n)) ∧ w' = w := by
  rcases hs with rfl | ⟨b, off, rfl, -, hc⟩
  · exact keepHas_nil a cap n w
  · exact keepHas_some b off cap xs n w hl hc

end Go.Proofs.YtcjcjaeaoianfaaDoor
namespace Go.Proofs.YtcjcjaeaoianfaaDoor
open Go.RowKit
set_option linter.unusedVariables false

theorem wordB_iff (ev : Int) : ∀ xs : List Int, wordB ev xs = true ↔ ∀ e ∈ xs, 0 ≤ e ∧ e < ev
  | [] => by simp [wordB]
  | x :: r => by
    rw [wordB]
    by_cases h : x < 0 ∨ ev ≤ x
    · rw [if_pos h]
      constructor
      · intro h'; cases h'
      · intro h'; have := h' x (by simp); omega
    · rw [if_neg h, wordB_iff ev r]
      constructor
      · intro h' e he
        rcases List.mem_cons.1 he with rfl | he
        · omega
        · exact h' e he
      · intro h' e he; exact h' e (by simp [he])
theorem seen_own (l word : List Int) : seenL l word = ownW l word := by
  unfold seenL ownW
  congr 1; funext x; cases hasB l x <;> rfl
theorem seen_word {ev : Int} {l word : List Int} (h : wordB ev word = true) : wordB ev (seenL l word) = true :=
  (wordB_iff _ _).2 fun e he => (wordB_iff _ _).1 h e (List.mem_filter.1 he).1
/-- Are the first k of a word of one of both? -/
def ownTo (ofA ofB word : List Int) (k : Nat) : Bool := (word.take k).all fun e => hasB ofA e || hasB ofB e
theorem ownTo_zero (ofA ofB word : List Int) : ownTo ofA ofB word 0 = true := by simp [ownTo]
theorem ownTo_succ {ofA ofB word : List Int} {k : Nat} {x : Int} (h : k < word.length) (hx : Hid (x = word[k]?.getD 0)) : ownTo ofA ofB word (k + 1) = (ownTo ofA ofB word k && (hasB ofA x || hasB ofB x)) := by
  have hx := hx.out
  rw [List.getElem?_eq_getElem h, Option.getD_some] at hx
  unfold ownTo
  rw [List.take_add_one, List.getElem?_eq_getElem h, List.all_append, hx]
  simp
theorem ownTo_all {ofA ofB word : List Int} {k : Nat} (h : ¬ k < word.length) : ownTo ofA ofB word k = word.all fun e => hasB ofA e || hasB ofB e := by
  unfold ownTo; rw [List.take_of_length_le (by omega)]

/-- What the law knows of the memory behind Beside. -/
structure BBI (w W : World) (nb : Nat) (a b M : Mach) (la lb L : ML) : Prop where
  bel : Below w.heap.size w W
  ka : Blk W w.heap.size 25 (mcells a la)
  kb : Blk W (w.heap.size + 1) 25 (mcells b lb)
  kn : Blk W nb 25 (mcells M L)
  mt : MAt W M L
theorem BBI.below {w W W' : World} {nb : Nat} {a b M : Mach} {la lb L : ML} (h : BBI w W nb a b M la lb L) (hb : Below W.heap.size W W') : BBI w W' nb a b M la lb L :=
  ⟨h.bel.trans (hb.mono h.bel.size), h.ka.below hb h.ka.lt, h.kb.below hb h.kb.lt, h.kn.below hb h.kn.lt, h.mt.below hb (Nat.le_refl _)⟩

set_option maxRecDepth 100000 in
set_option maxHeartbeats 4000000 in
theorem bboth_any (a b : Mach) (la lb : ML) (fa ga va : Option Addr) (fc gc vc : Nat) (ofA ofB word : List Int) (w : World) (hT : Hid (Tab w)) (ha : Hid (MAt w a la)) (hb : Hid (MAt w b lb)) (hA : Hid (At w fa ofA)) (lA : Hid (ofA.length ≤ fc ∧ fc ≤ maxLen)) (hB : Hid (At w ga ofB)) (lB : Hid (ofB.length ≤ gc ∧ gc ≤ maxLen)) (hW : Hid (At w va word)) (lW : word.length ≤ 17592186044416) :
    Calls Tryd.prog 6 #[mval a la, mval b lb, .slice fa ofA.length fc, .slice ga ofB.length gc, .slice va word.length vc] w fun e w' => e = .returned (.bool true) ∧ Below w.heap.size w w' := by
  have B0 : Hid (Below w.heap.size w ((w.alloc (.cells (mcells a la) 25)).alloc (.cells (mcells b lb) 25))) := ((Below.refl _ _).alloc (Nat.le_refl _) _).alloc (by simp) _
  have KA0 : Hid (Blk ((w.alloc (.cells (mcells a la) 25)).alloc (.cells (mcells b lb) 25)) w.heap.size 25 (mcells a la)) := (Blk.new w _ _).alloc _
  have KB0 : Hid (Blk ((w.alloc (.cells (mcells a la) 25)).alloc (.cells (mcells b lb) 25)) (w.heap.size + 1) 25 (mcells b lb)) := by
    have := Blk.new (w.alloc (.cells (mcells a la) 25)) 25 (mcells b lb)
    rwa [World.size_alloc] at this
  go_enter Tryd.func6, Tryd.ntmps6
  go_wp2_with fail
  refine (pBeside_any a b la lb fa ga fc gc ofA ofB _ (ha.out.below B0.out (Nat.le_refl _)) (hb.out.below B0.out (Nat.le_refl _)) (hA.out.below B0.out (Nat.le_refl _)) lA.out (hB.out.below B0.out (Nat.le_refl _)) lB.out).mono ?_
  intro e w3 h3
  obtain ⟨L, ba, bc, rfl, mt3, -, hb3, -⟩ := besAll_out h3
  clear h3
  have HC := Hid.of (besOut_cases a b ofA ofB)
  obtain ⟨M, LL, c, HR⟩ : ∃ M LL c, Hid (besOut a b ofA ofB = (M, LL, c)) := ⟨_, _, _, rfl⟩
  rw [HR.out] at mt3 HC ⊢
  dsimp only at mt3 HC ⊢
  have B3 := Hid.of (B0.out.trans (hb3.mono B0.out.size))
  have b4 : Below w3.heap.size w3 (w3.alloc (.cells (mcells M L) 25)) := (Below.refl _ _).alloc (Nat.le_refl _) _
  have B4 := Hid.of (B3.out.trans (b4.mono B3.out.size))
  have KA4 := Hid.of ((KA0.out.below hb3 KA0.out.lt).below b4 (KA0.out.below hb3 KA0.out.lt).lt)
  have KB4 := Hid.of ((KB0.out.below hb3 KB0.out.lt).below b4 (KB0.out.below hb3 KB0.out.lt).lt)
  have N4 := Hid.of (Blk.new w3 25 (mcells M L))
  have MT4 := Hid.of (mt3.below b4 (Nat.le_refl _))
  have l4 := B3.out.size
  clear hb3 b4 mt3 B0 KA0 KB0 B3
  rcases HC.out with ⟨hM, hc⟩ | ⟨s, hs, hM, rfl, hma, hmb, hev, hra, hrb⟩
  · subst hM
    clear HC HR
    have n0 : (w3.alloc (.cells (mcells m0 L) 25)).cell? ⟨w3.heap.size, 0, none⟩ = some (.int .i64 0) := N4.out.cell 0 rfl
    go_wp2
    go_ret
    exact ⟨rfl, B4.out⟩
  · have hmm := may_beside hma hmb hs
    have hacc := fun h => beside_accepts hma hmb hs word h
    rw [← hM] at hmm hacc
    have HEV : Hid (M.ev = a.ev) := by show _ = _; rw [hM]; rfl
    have hst : 0 < M.st := by have := mayB_size hmm; unfold sizeOk at this; omega
    have HMAY := Hid.of hmm
    have HACC := Hid.of hacc
    have HMA := Hid.of hma
    have HMB := Hid.of hmb
    have HEB : Hid (b.ev = a.ev) := hev.symm
    have HLA : Hid (ofA.length ≤ 17592186044416) := by have := rowB_len hra; show _ ≤ _; omega
    have HLB : Hid (ofB.length ≤ 17592186044416) := by have := rowB_len hrb; show _ ≤ _; omega
    clear HC HR hs hM hma hmb hev hra hrb hmm hacc
    go_wp2
    revert B4 KA4 KB4 N4 MT4
    show Hid (Below w.heap.size w (w3.alloc (.cells #[.int .i64 M.st, .int .i64 M.ev, .slice L.a1 M.starts.length L.c1, .slice L.a2 M.arrows.length L.c2, .slice L.a3 M.ends.length L.c3] 25))) → _
    generalize w3.alloc (.cells #[.int .i64 M.st, .int .i64 M.ev, .slice L.a1 M.starts.length L.c1, .slice L.a2 M.arrows.length L.c2, .slice L.a3 M.ends.length L.c3] 25) = V
    intro B4 KA4 KB4 N4 MT4
    go_loopw [14] (fun i wr => ∃ k q : Nat, k ≤ word.length ∧ i = .int .i64 k ∧ wr = V.drewN q ∧ Hid (∀ e ∈ word.take k, 0 ≤ e ∧ e < a.ev)) (fun i _ => word.length - (intOf i).toNat)
    case atStart => exact ⟨0, 0, by omega, rfl, rfl, fun e he => by simp at he⟩
    case round =>
      obtain ⟨k, q, hk, rfl, rfl, HW⟩ := hrel
      by_cases hlt : k < word.length
      · obtain ⟨bw, ow, rfl, hbw, hcw⟩ : ∃ b off, va = some ⟨b, off, none⟩ ∧ b < w.heap.size ∧ Cells w b off word := by
          rcases hW.out with h0 | h
          · rw [h0] at hlt; simp at hlt
          · exact h
        obtain ⟨x, HX, c0⟩ := hcw.at hlt
        have c1 : V.cell? ⟨bw, ow + k, none⟩ = some (.int .i64 x) := (B4.out.cell (p := ⟨bw, ow + k, none⟩) hbw).trans c0
        have e1 : V.cell? ⟨w.heap.size, 1, none⟩ = some (.int .i64 a.ev) := KA4.out.cell 1 rfl
        clear c0 hcw
        by_cases hx0 : x < 0
        · go_wp2
          refine wp_region_any (by kernel_rfl) ?_
          change wpAny _ _ _ _ _ _ _ (World.drew _)
          refine wpAny_take (i := 0) (v := .slice (some ⟨bw, ow, none⟩) word.length vc) rfl (by kernel_rfl) (by kernel_rfl) (by kernel_rfl) (fun _ _ _ h => h) (Or.inl ⟨by rfl, fun w' => by go_simp⟩) ?_
          refine wpAny_take (i := 1) (v := .int .i64 k) rfl (by kernel_rfl) (by kernel_rfl) (by kernel_rfl) (fun _ _ _ h => h) (Or.inl ⟨by rfl, fun w' => by go_simp⟩) ?_
          refine wpAny_take (i := 2) (v := .pointer (some ⟨bw, ow + k, none⟩)) rfl (by kernel_rfl) (by kernel_rfl) (by kernel_rfl) (fun _ _ _ h => h) (Or.inl ⟨by rfl, fun w' => by go_simp⟩) ?_
          refine wpAny_ready (rs := [3]) (by kernel_rfl) (by simp) ?_
          refine AllReady.cons rfl (fun K hK => ?_) AllReady.nil
          go_simp
          refine hK _ _ ?_
          clear hK K
          refine wpAny_take (i := 4) (v := .bool true) rfl (by kernel_rfl) (by kernel_rfl) (by kernel_rfl) (fun _ _ _ h => h) (Or.inl ⟨by rfl, fun w' => by go_simp⟩) ?_
          refine wpAny_take (i := 5) (v := .bool true) rfl (by kernel_rfl) (by kernel_rfl) (by kernel_rfl) (fun _ _ _ h => h) (Or.inl ⟨by rfl, fun w' => by go_simp⟩) ?_
          refine wpAny_take (i := 6) (v := undef) rfl (by kernel_rfl) (by kernel_rfl) (by kernel_rfl) (fun _ _ _ h => h) (Or.inr ⟨by kernel_rfl, rfl⟩) ?_
          refine wpAny_take (i := 7) (v := undef) rfl (by kernel_rfl) (by kernel_rfl) (by kernel_rfl) (fun _ _ _ h => h) (Or.inr ⟨by kernel_rfl, rfl⟩) ?_
          refine wpAny_take (i := 8) (v := undef) rfl (by kernel_rfl) (by kernel_rfl) (by kernel_rfl) (fun _ _ _ h => h) (Or.inr ⟨by kernel_rfl, rfl⟩) ?_
          refine wpAny_take (i := 9) (v := undef) rfl (by kernel_rfl) (by kernel_rfl) (by kernel_rfl) (fun _ _ _ h => h) (Or.inr ⟨by kernel_rfl, rfl⟩) ?_
          refine wpAny_take (i := 10) (v := undef) rfl (by kernel_rfl) (by kernel_rfl) (by kernel_rfl) (fun _ _ _ h => h) (Or.inr ⟨by kernel_rfl, rfl⟩) ?_
          refine wpAny_take (i := 11) (v := undef) rfl (by kernel_rfl) (by kernel_rfl) (by kernel_rfl) (fun _ _ _ h => h) (Or.inr ⟨by kernel_rfl, rfl⟩) ?_
          refine wpAny_take (i := 12) (v := undef) rfl (by kernel_rfl) (by kernel_rfl) (by kernel_rfl) (fun _ _ _ h => h) (Or.inr ⟨by kernel_rfl, rfl⟩) ?_
          refine wpAny_take (i := 13) (v := .bool true) rfl (by kernel_rfl) (by kernel_rfl) (by kernel_rfl) (fun _ _ _ h => h) (Or.inl ⟨by rfl, fun w' => by go_simp⟩) ?_
          refine wpAny_done (by kernel_rfl) ?_ _
          simp only [Act.put, List.setIfInBounds_toArray, List.set_cons_succ, List.set_cons_zero, List.getElem_toArray, List.getElem_cons_succ, List.getElem_cons_zero]
          go_wp2
          go_ret
          exact ⟨rfl, (below_drewN B4.out q).drew⟩
        · by_cases hx1 : a.ev ≤ x
          · go_wp2
            refine wp_region_any (by kernel_rfl) ?_
            change wpAny _ _ _ _ _ _ _ (World.drew _)
            refine wpAny_take (i := 0) (v := .slice (some ⟨bw, ow, none⟩) word.length vc) rfl (by kernel_rfl) (by kernel_rfl) (by kernel_rfl) (fun _ _ _ h => h) (Or.inl ⟨by kernel_rfl, fun w' => by go_simp⟩) ?_
            refine wpAny_take (i := 1) (v := .int .i64 k) rfl (by kernel_rfl) (by kernel_rfl) (by kernel_rfl) (fun _ _ _ h => h) (Or.inl ⟨by kernel_rfl, fun w' => by go_simp⟩) ?_
            refine wpAny_take (i := 2) (v := .pointer (some ⟨bw, ow + k, none⟩)) rfl (by kernel_rfl) (by kernel_rfl) (by kernel_rfl) (fun _ _ _ h => h) (Or.inl ⟨by kernel_rfl, fun w' => by go_simp⟩) ?_
            refine wpAny_ready (rs := [3]) (by kernel_rfl) (by simp) ?_
            refine AllReady.cons rfl (fun K hK => ?_) AllReady.nil
            go_simp
            refine hK _ _ ?_
            clear hK K
            refine wpAny_take (i := 4) (v := .bool false) rfl (by kernel_rfl) (by kernel_rfl) (by kernel_rfl) (fun _ _ _ h => h) (Or.inl ⟨by kernel_rfl, fun w' => by go_simp⟩) ?_
            refine wpAny_take (i := 5) (v := .bool false) rfl (by kernel_rfl) (by kernel_rfl) (by kernel_rfl) (fun _ _ _ h => h) (Or.inl ⟨by kernel_rfl, fun w' => by go_simp⟩) ?_
            refine wpAny_take (i := 6) (v := .slice (some ⟨bw, ow, none⟩) word.length vc) rfl (by kernel_rfl) (by kernel_rfl) (by kernel_rfl) (fun _ _ _ h => h) (Or.inl ⟨by kernel_rfl, fun w' => by go_simp⟩) ?_
            refine wpAny_take (i := 7) (v := .int .i64 k) rfl (by kernel_rfl) (by kernel_rfl) (by kernel_rfl) (fun _ _ _ h => h) (Or.inl ⟨by kernel_rfl, fun w' => by go_simp⟩) ?_
            refine wpAny_take (i := 8) (v := .pointer (some ⟨bw, ow + k, none⟩)) rfl (by kernel_rfl) (by kernel_rfl) (by kernel_rfl) (fun _ _ _ h => h) (Or.inl ⟨by kernel_rfl, fun w' => by go_simp⟩) ?_
            refine wpAny_take (i := 10) (v := .pointer (some ⟨w.heap.size, 1, none⟩)) rfl (by kernel_rfl) (by kernel_rfl) (by kernel_rfl) (fun _ _ _ h => h) (Or.inl ⟨by kernel_rfl, fun w' => by go_simp⟩) ?_
            refine wpAny_ready (rs := [9, 11]) (by kernel_rfl) (by simp) ?_
            refine AllReady.cons rfl (fun K hK => ?_) (AllReady.cons rfl (fun K hK => ?_) AllReady.nil)
            · go_simp
              refine hK _ _ ?_
              clear hK K
              refine wpAny_ready (rs := [11]) (by kernel_rfl) (by simp) ?_
              refine AllReady.cons rfl (fun K hK => ?_) AllReady.nil
              go_simp
              refine hK _ _ ?_
              clear hK K
              refine wpAny_take (i := 12) (v := .bool true) rfl (by kernel_rfl) (by kernel_rfl) (by kernel_rfl) (fun _ _ _ h => h) (Or.inl ⟨by kernel_rfl, fun w' => by go_simp⟩) ?_
              refine wpAny_take (i := 13) (v := .bool true) rfl (by kernel_rfl) (by kernel_rfl) (by kernel_rfl) (fun _ _ _ h => h) (Or.inl ⟨by kernel_rfl, fun w' => by go_simp⟩) ?_
              refine wpAny_done (by kernel_rfl) ?_ _
              simp only [Act.put, List.setIfInBounds_toArray, List.set_cons_succ, List.set_cons_zero, List.getElem_toArray, List.getElem_cons_succ, List.getElem_cons_zero]
              go_wp2
              go_ret
              exact ⟨rfl, (below_drewN B4.out q).drew⟩
            · go_simp
              refine hK _ _ ?_
              clear hK K
              refine wpAny_ready (rs := [9]) (by kernel_rfl) (by simp) ?_
              refine AllReady.cons rfl (fun K hK => ?_) AllReady.nil
              go_simp
              refine hK _ _ ?_
              clear hK K
              refine wpAny_take (i := 12) (v := .bool true) rfl (by kernel_rfl) (by kernel_rfl) (by kernel_rfl) (fun _ _ _ h => h) (Or.inl ⟨by kernel_rfl, fun w' => by go_simp⟩) ?_
              refine wpAny_take (i := 13) (v := .bool true) rfl (by kernel_rfl) (by kernel_rfl) (by kernel_rfl) (fun _ _ _ h => h) (Or.inl ⟨by kernel_rfl, fun w' => by go_simp⟩) ?_
              refine wpAny_done (by kernel_rfl) ?_ _
              simp only [Act.put, List.setIfInBounds_toArray, List.set_cons_succ, List.set_cons_zero, List.getElem_toArray, List.getElem_cons_succ, List.getElem_cons_zero]
              go_wp2
              go_ret
              exact ⟨rfl, (below_drewN B4.out q).drew⟩
          · have HW2 : Hid (∀ e ∈ word.take (k + 1), 0 ≤ e ∧ e < a.ev) := fun e he => by
              have hx := HX.out
              rw [List.getElem?_eq_getElem hlt, Option.getD_some] at hx
              rw [List.take_add_one, List.getElem?_eq_getElem hlt] at he
              rcases List.mem_append.1 he with he | he
              · exact HW.out e he
              · have : e = x := by rw [hx]; simpa using he
                omega
            clear HW HX
            go_wp2
            refine wp_region_any (by kernel_rfl) ?_
            change wpAny _ _ _ _ _ _ _ (World.drew _)
            refine wpAny_take (i := 0) (v := .slice (some ⟨bw, ow, none⟩) word.length vc) rfl (by kernel_rfl) (by kernel_rfl) (by kernel_rfl) (fun _ _ _ h => h) (Or.inl ⟨by kernel_rfl, fun w' => by go_simp⟩) ?_
            refine wpAny_take (i := 1) (v := .int .i64 k) rfl (by kernel_rfl) (by kernel_rfl) (by kernel_rfl) (fun _ _ _ h => h) (Or.inl ⟨by kernel_rfl, fun w' => by go_simp⟩) ?_
            refine wpAny_take (i := 2) (v := .pointer (some ⟨bw, ow + k, none⟩)) rfl (by kernel_rfl) (by kernel_rfl) (by kernel_rfl) (fun _ _ _ h => h) (Or.inl ⟨by kernel_rfl, fun w' => by go_simp⟩) ?_
            refine wpAny_ready (rs := [3]) (by kernel_rfl) (by simp) ?_
            refine AllReady.cons rfl (fun K hK => ?_) AllReady.nil
            go_simp
            refine hK _ _ ?_
            clear hK K
            refine wpAny_take (i := 4) (v := .bool false) rfl (by kernel_rfl) (by kernel_rfl) (by kernel_rfl) (fun _ _ _ h => h) (Or.inl ⟨by kernel_rfl, fun w' => by go_simp⟩) ?_
            refine wpAny_take (i := 5) (v := .bool false) rfl (by kernel_rfl) (by kernel_rfl) (by kernel_rfl) (fun _ _ _ h => h) (Or.inl ⟨by kernel_rfl, fun w' => by go_simp⟩) ?_
            refine wpAny_take (i := 6) (v := .slice (some ⟨bw, ow, none⟩) word.length vc) rfl (by kernel_rfl) (by kernel_rfl) (by kernel_rfl) (fun _ _ _ h => h) (Or.inl ⟨by kernel_rfl, fun w' => by go_simp⟩) ?_
            refine wpAny_take (i := 7) (v := .int .i64 k) rfl (by kernel_rfl) (by kernel_rfl) (by kernel_rfl) (fun _ _ _ h => h) (Or.inl ⟨by kernel_rfl, fun w' => by go_simp⟩) ?_
            refine wpAny_take (i := 8) (v := .pointer (some ⟨bw, ow + k, none⟩)) rfl (by kernel_rfl) (by kernel_rfl) (by kernel_rfl) (fun _ _ _ h => h) (Or.inl ⟨by kernel_rfl, fun w' => by go_simp⟩) ?_
            refine wpAny_take (i := 10) (v := .pointer (some ⟨w.heap.size, 1, none⟩)) rfl (by kernel_rfl) (by kernel_rfl) (by kernel_rfl) (fun _ _ _ h => h) (Or.inl ⟨by kernel_rfl, fun w' => by go_simp⟩) ?_
            refine wpAny_ready (rs := [9, 11]) (by kernel_rfl) (by simp) ?_
            refine AllReady.cons rfl (fun K hK => ?_) (AllReady.cons rfl (fun K hK => ?_) AllReady.nil)
            · go_simp
              refine hK _ _ ?_
              clear hK K
              refine wpAny_ready (rs := [11]) (by kernel_rfl) (by simp) ?_
              refine AllReady.cons rfl (fun K hK => ?_) AllReady.nil
              go_simp
              refine hK _ _ ?_
              clear hK K
              refine wpAny_take (i := 12) (v := .bool false) rfl (by kernel_rfl) (by kernel_rfl) (by kernel_rfl) (fun _ _ _ h => h) (Or.inl ⟨by kernel_rfl, fun w' => by go_simp⟩) ?_
              refine wpAny_take (i := 13) (v := .bool false) rfl (by kernel_rfl) (by kernel_rfl) (by kernel_rfl) (fun _ _ _ h => h) (Or.inl ⟨by kernel_rfl, fun w' => by go_simp⟩) ?_
              refine wpAny_done (by kernel_rfl) ?_ _
              simp only [Act.put, List.setIfInBounds_toArray, List.set_cons_succ, List.set_cons_zero, List.getElem_toArray, List.getElem_cons_succ, List.getElem_cons_zero]
              go_wp2
              go_roundw
              case rel => exact ⟨k + 1, q + 1, by omega, by go_num, rfl, HW2⟩
              case measure => simp [intOf]; omega
            · go_simp
              refine hK _ _ ?_
              clear hK K
              refine wpAny_ready (rs := [9]) (by kernel_rfl) (by simp) ?_
              refine AllReady.cons rfl (fun K hK => ?_) AllReady.nil
              go_simp
              refine hK _ _ ?_
              clear hK K
              refine wpAny_take (i := 12) (v := .bool false) rfl (by kernel_rfl) (by kernel_rfl) (by kernel_rfl) (fun _ _ _ h => h) (Or.inl ⟨by kernel_rfl, fun w' => by go_simp⟩) ?_
              refine wpAny_take (i := 13) (v := .bool false) rfl (by kernel_rfl) (by kernel_rfl) (by kernel_rfl) (fun _ _ _ h => h) (Or.inl ⟨by kernel_rfl, fun w' => by go_simp⟩) ?_
              refine wpAny_done (by kernel_rfl) ?_ _
              simp only [Act.put, List.setIfInBounds_toArray, List.set_cons_succ, List.set_cons_zero, List.getElem_toArray, List.getElem_cons_succ, List.getElem_cons_zero]
              go_wp2
              go_roundw
              case rel => exact ⟨k + 1, q + 1, by omega, by go_num, rfl, HW2⟩
              case measure => simp [intOf]; omega
      · have hk2 : word.length = k := by omega
        subst hk2
        rw [List.take_of_length_le (Nat.le_refl _)] at HW
        have HWD : Hid (wordB a.ev word = true) := (wordB_iff _ _).2 HW.out
        have HAC := Hid.of (HACC.out HW.out)
        clear HACC HW
        have I4 : Hid (BBI w (V.drewN q) w3.heap.size a b M la lb L) := ⟨below_drewN B4.out q, KA4.out, KB4.out, N4.out, MT4.out.below (below_drewN (Below.refl _ _) q) (Nat.le_refl _)⟩
        clear B4 KA4 KB4 N4 MT4
        generalize V.drewN q = V4 at *
        go_wp2_with fail
        refine (pSeen_any va fa vc fc word ofA _ (hW.out.below I4.out.bel (Nat.le_refl _)) (by omega) (hA.out.below I4.out.bel (Nat.le_refl _)) HLA.out).mono ?_
        rintro e w5 ⟨xv, rfl, ox, hb5⟩
        rw [seen_own] at ox
        obtain ⟨xa, xc, rfl, atx, lnx⟩ := ox.at
        have LX := Hid.of lnx
        have AX5 := Hid.of atx
        have I5 := Hid.of (I4.out.below hb5)
        clear ox hb5 I4 atx lnx
        go_wp2_with fail
        refine (pSeen_any va ga vc gc word ofB _ (hW.out.below I5.out.bel (Nat.le_refl _)) (by omega) (hB.out.below I5.out.bel (Nat.le_refl _)) HLB.out).mono ?_
        rintro e w6 ⟨yv, rfl, oy, hb6⟩
        rw [seen_own] at oy
        obtain ⟨ya, yc, rfl, aty, lny⟩ := oy.at
        have LY := Hid.of lny
        have AY6 := Hid.of aty
        have AX6 := Hid.of (AX5.out.below hb6 (Nat.le_refl _))
        have I6 := Hid.of (I5.out.below hb6)
        clear oy hb6 I5 aty lny AX5
        obtain ⟨X, HXX⟩ : ∃ X, Hid (X = ownW ofA word) := ⟨_, rfl⟩
        obtain ⟨Y, HYY⟩ : ∃ Y, Hid (Y = ownW ofB word) := ⟨_, rfl⟩
        rw [← HXX.out] at AX6 LX HAC ⊢
        rw [← HYY.out] at AY6 LY HAC ⊢
        have HWX : Hid (wordB a.ev X = true) := by show _ = _; rw [HXX.out, ← seen_own]; exact seen_word HWD.out
        have HWY : Hid (wordB a.ev Y = true) := by show _ = _; rw [HYY.out, ← seen_own]; exact seen_word HWD.out
        clear HXX HYY
        go_wp2
        go_loopw [17, 18] (fun o i wr => ∃ k : Nat, k ≤ word.length ∧ i = .int .i64 k ∧ o = .bool (ownTo ofA ofB word k) ∧ wr = w6) (fun _ i _ => word.length - (intOf i).toNat)
        case atStart => exact ⟨0, by omega, rfl, by rw [ownTo_zero], rfl⟩
        case round =>
          obtain ⟨k, hk, rfl, rfl, rfl⟩ := hrel
          by_cases hlt : k < word.length
          · obtain ⟨bw, ow, rfl, hbw, hcw⟩ : ∃ b off, va = some ⟨b, off, none⟩ ∧ b < w.heap.size ∧ Cells w b off word := by
              rcases hW.out with h0 | h
              · rw [h0] at hlt; simp at hlt
              · exact h
            obtain ⟨x, HX, c0⟩ := hcw.at hlt
            have c1 : wr.cell? ⟨bw, ow + k, none⟩ = some (.int .i64 x) := (I6.out.bel.cell (p := ⟨bw, ow + k, none⟩) hbw).trans c0
            have HO := Hid.of (ownTo_succ (ofA := ofA) (ofB := ofB) hlt HX)
            clear c0 hcw HX
            generalize ho : ownTo ofA ofB word k = o at *
            cases o with
            | false =>
              clear ho
              go_wp2
              go_roundw
              case rel => exact ⟨k + 1, by omega, by go_num, by rw [HO.out]; rfl, by first | rfl | trivial⟩
              case measure => simp [intOf]; omega
            | true =>
              clear ho
              go_wp2_with fail
              refine (keepHas_any fa fc ofA x _ (hA.out.below I6.out.bel (Nat.le_refl _)) (Nat.le_trans lA.out.1 lA.out.2)).mono ?_
              rintro e w7 ⟨rfl, rfl⟩
              generalize hasB ofA x = p at *
              cases p with
              | true =>
                go_wp2
                go_roundw
                case rel => exact ⟨k + 1, by omega, by go_num, by rw [HO.out]; rfl, by first | rfl | trivial⟩
                case measure => simp [intOf]; omega
              | false =>
                go_wp2_with fail
                refine (keepHas_any ga gc ofB x _ (hB.out.below I6.out.bel (Nat.le_refl _)) (Nat.le_trans lB.out.1 lB.out.2)).mono ?_
                rintro e w8 ⟨rfl, rfl⟩
                generalize hasB ofB x = r at *
                go_wp2
                go_roundw
                case rel => exact ⟨k + 1, by omega, by go_num, by rw [HO.out]; rfl, by first | rfl | trivial⟩
                case measure => simp [intOf]; omega
          · rw [ownTo_all hlt]
            obtain ⟨x0, x1, x2, x3, x4⟩ := mcell_at I6.out.ka
            go_wp2_with fail
            refine (pAccepts_ok a la xa xc X _ (ha.out.below I6.out.bel (Nat.le_refl _)) (Hid.of (hT.out.below I6.out.bel hT.out.lt)) HMA AX6 LX HWX).mono ?_
            rintro e w7 ⟨rfl, hb7⟩
            have I7 := Hid.of (I6.out.below hb7)
            have AY7 := Hid.of (AY6.out.below hb7 (Nat.le_refl _))
            clear hb7 I6 AY6 AX6 x0 x1 x2 x3 x4
            obtain ⟨x0, x1, x2, x3, x4⟩ := mcell_at I7.out.kb
            go_wp2_with fail
            refine (pAccepts_ok b lb ya yc Y _ (hb.out.below I7.out.bel (Nat.le_refl _)) (Hid.of (hT.out.below I7.out.bel hT.out.lt)) HMB AY7 LY (by show _ = _; rw [HEB.out]; exact HWY.out)).mono ?_
            rintro e w8 ⟨rfl, hb8⟩
            have I8 := Hid.of (I7.out.below hb8)
            clear hb8 I7 AY7 x0 x1 x2 x3 x4
            obtain ⟨x0, x1, x2, x3, x4⟩ := mcell_at I8.out.kn
            go_wp2_with fail
            refine (pAccepts_ok M L va vc word _ I8.out.mt (Hid.of (hT.out.below I8.out.bel hT.out.lt)) HMAY (Hid.of (hW.out.below I8.out.bel (Nat.le_refl _))) (by show _ ≤ maxLen; unfold maxLen; omega) (by show _ = _; rw [HEV.out]; exact HWD.out)).mono ?_
            rintro e w9 ⟨rfl, hb9⟩
            have I9 := Hid.of (I8.out.below hb9)
            clear hb9 I8 x0 x1 x2 x3 x4
            have n0 : w9.cell? ⟨w3.heap.size, 0, none⟩ = some (.int .i64 M.st) := I9.out.kn.cell 0 rfl
            rw [HAC.out]
            generalize acceptsB a X = p
            generalize acceptsB b Y = r
            generalize (word.all fun e => hasB ofA e || hasB ofB e) = o
            clear HAC
            cases o <;> cases p <;> cases r
            all_goals
              go_wp2
              go_ret
              exact ⟨rfl, I9.out.bel⟩

end Go.Proofs.YtcjcjaeaoianfaaDoor
