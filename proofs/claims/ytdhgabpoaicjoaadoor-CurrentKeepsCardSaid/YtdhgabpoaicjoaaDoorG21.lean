/-
  The walk of jalousieref9.Lesser.
  The walk of jalousieref9.Best.
  Plain: one round of the search. No program, no model.
  append(v, y...) of integers as one step of a region that draws.
-/
import Derived.Test.YtdhgabpoaicjoaaDoorG20
import Derived.Test.YtdhgabpoaicjoaaDoorG04
import Derived.Test.YtdhgabpoaicjoaaDoorG07
import Derived.Test.YtdhgabpoaicjoaaDoorG16
import Derived.Deep.QuietTactic
import Derived.BigQuiet
import Derived.Test.YtdhgabpoaicjoaaDoorG17
import Derived.Test.YtdhgabpoaicjoaaDoorG19
import Derived.Test.YtdhgabpoaicjoaaDoorG14
namespace Go.Proofs.YtdhgabpoaicjoaaDoor
open Go.RowKit
set_option linter.unusedVariables false

set_option maxHeartbeats 400000 in
theorem rless_ne (a b : Option Addr) (ca cb : Nat) (xs ys : List Int) (w : World) (hne : ¬ xs.length = ys.length) (hl : xs.length ≤ 9223372036854775807) (hm : ys.length ≤ 9223372036854775807) :
    Calls Tryd.prog 96 #[.slice a xs.length ca, .slice b ys.length cb] w fun e w' => e = .returned (.bool (lessB xs ys)) ∧ ∃ q, w' = w.drewN q := by
  have hb : ((xs.length : Int) != (ys.length : Int)) = true := by rw [bne_iff_ne]; omega
  have HC := Hid.of (less_cast hne)
  obtain ⟨o, HO⟩ : ∃ o, Hid (o = decide ((xs.length : Int) < (ys.length : Int))) := ⟨_, rfl⟩
  rw [← HO.out] at HC
  by_cases hlt : xs.length < ys.length
  · have HT : Hid (true = lessB xs ys) := by rw [← HC.out, HO.out]; exact (decide_eq_true (by omega)).symm
    go_enter Tryd.func96, Tryd.ntmps96
    go_wp2
    go_ret
    exact ⟨ret_bool HT.out, 0, rfl⟩
  · have HT : Hid (false = lessB xs ys) := by rw [← HC.out, HO.out]; exact (decide_eq_false (by omega)).symm
    go_enter Tryd.func96, Tryd.ntmps96
    go_wp2
    go_ret
    exact ⟨ret_bool HT.out, 0, rfl⟩

set_option maxHeartbeats 1000000 in
theorem rless_eq (ba oa ca bb ob cb : Nat) (xs ys : List Int) (w : World) (hlen : Hid (xs.length = ys.length)) (hl : xs.length ≤ 9223372036854775807) (hca : Cells w ba oa xs) (hcb : Cells w bb ob ys) :
    Calls Tryd.prog 96 #[.slice (some ⟨ba, oa, none⟩) xs.length ca, .slice (some ⟨bb, ob, none⟩) ys.length cb] w fun e w' => e = .returned (.bool (lessB xs ys)) ∧ ∃ q, w' = w.drewN q := by
  have hm : ys.length ≤ 9223372036854775807 := by have := hlen.out; omega
  have hb : ((xs.length : Int) != (ys.length : Int)) = false := by have := hlen.out; simp; omega
  go_enter Tryd.func96, Tryd.ntmps96
  go_wp2
  go_loopw [5] (fun i wr => ∃ k q : Nat, k ≤ xs.length ∧ i = .int .i64 k ∧ wr = w.drewN q ∧ Hid (lexB xs ys = lexB (xs.drop k) (ys.drop k))) (fun i _ => xs.length - (intOf i).toNat)
  case atStart => exact ⟨0, 0, Nat.zero_le _, rfl, rfl, rfl⟩
  case round =>
    obtain ⟨k, q, hk, rfl, rfl, he⟩ := hrel
    by_cases hlt : k < xs.length
    · have hlt2 : k < ys.length := by have := hlen.out; omega
      obtain ⟨x, HX, hcx⟩ := hca.at hlt
      obtain ⟨y, HY, hcy⟩ := hcb.at hlt2
      by_cases hxy : x = y
      · have HXY : Hid (x = y) := hxy
        have d : (x != y) = false := by simp [hxy]
        clear hxy
        go_wp2
        go_quiet (fail)
        go_wp2
        go_roundw
        case rel => exact ⟨k + 1, _, by omega, by go_num, rfl, lex_yes hlt hlt2 HX HY HXY.out he⟩
        case measure => simp [intOf]; omega
      · have d : (x != y) = true := by simp [hxy]
        have HD := Hid.of (lex_no hlen hlt hlt2 HX HY hxy he)
        clear hxy
        go_wp2
        go_quiet (fail)
        go_wp2
        go_quiet (fail)
        go_wp2
        go_ret
        exact ⟨ret_bool HD.out, _, by rw [World.drewN_drewN, World.drewN_drewN]⟩
    · go_wp2
      go_ret
      exact ⟨ret_bool (lex_end hlen hlt he), q, rfl⟩

set_option maxHeartbeats 400000 in
theorem rless_nil (a b : Option Addr) (ca cb : Nat) (w : World) :
    Calls Tryd.prog 96 #[.slice a 0 ca, .slice b 0 cb] w fun e w' => e = .returned (.bool false) ∧ ∃ q, w' = w.drewN q := by
  go_enter Tryd.func96, Tryd.ntmps96
  go_wp2
  refine wp_loop_rounds 1 ?_
  rw [rounds_succ]
  go_wp2
  go_ret
  exact ⟨rfl, 0, rfl⟩

theorem rless_any (a b : Option Addr) (ca cb : Nat) (xs ys : List Int) (w : World) (hs : At w a xs) (ht : At w b ys) (hl : xs.length ≤ maxLen) (hm : ys.length ≤ maxLen) :
    Calls Tryd.prog 96 #[.slice a xs.length ca, .slice b ys.length cb] w fun e w' => e = .returned (.bool (lessB xs ys)) ∧ ∃ q, w' = w.drewN q := by
  by_cases hne : xs.length = ys.length
  · rcases hs with rfl | ⟨ba, oa, rfl, -, hca⟩
    · have : ys = [] := List.eq_nil_of_length_eq_zero (by simpa using hne.symm)
      subst this
      exact rless_nil a b ca cb w
    · rcases ht with rfl | ⟨bb, ob, rfl, -, hcb⟩
      · have : xs = [] := List.eq_nil_of_length_eq_zero (by simpa using hne)
        subst this
        exact rless_nil _ b ca cb w
      · exact rless_eq ba oa ca bb ob cb xs ys w hne hl hca hcb
  · exact rless_ne a b ca cb xs ys w hne hl hm

end Go.Proofs.YtdhgabpoaicjoaaDoor
namespace Go.Proofs.YtdhgabpoaicjoaaDoor
open Go.RowKit
set_option linter.unusedVariables false

/-- One more of what is known. -/
def bestStep (secret only : List Int) (o : Option (List Int)) (x : Kno) : Option (List Int) := if (leakB secret (x.1.filter fun n => hasB only n == true) && (o.isNone || lessB x.2 (o.getD []))) = true then some x.2 else o
/-- The least list of those whose rows leak. -/
def bestL (secret only : List Int) (L : List Kno) : Option (List Int) := L.foldl (bestStep secret only) none
theorem best_take (secret only : List Int) {L : List Kno} {k : Nat} {x : Kno} (h : L[k]? = some x) : bestL secret only (L.take (k + 1)) = bestStep secret only (bestL secret only (L.take k)) x := by
  unfold bestL
  rw [List.take_add_one, h, Option.toList_some, List.foldl_append]; rfl
/-- What Best leaves. -/
def BestPost (w : World) (o : Option (List Int)) (e : Ending) (w' : World) : Prop := ∃ va vc, e = .returned (.tuple #[.slice va (o.getD []).length vc, .bool o.isSome]) ∧ At w' va (o.getD []) ∧ (o.getD []).length ≤ maxLen ∧ Below w.heap.size w w'

set_option maxRecDepth 100000 in
set_option maxHeartbeats 8000000 in
theorem rBest_some (p : Plant) (P : PTL) (b off lc : Nat) (oa : Option Addr) (oc : Nat) (only : List Int) (L : List Kno) (w : World) (h : Hid (PAt w p P)) (hl : L.length ≤ 9223372036854775807) (hbl : Hid (b < w.heap.size)) (hc : Hid (CellsK w b off L)) (hr : Hid (∀ x ∈ L, x.1.length ≤ 4096)) (ho : Hid (At w oa only)) (hol : Hid (only.length ≤ maxLen)) :
    Calls Tryd.prog 88 #[ptval p P, .slice (some ⟨b, off, none⟩) L.length lc, .slice oa only.length oc] w fun e w' => BestPost w (bestL p.secret only L) e w' := by
  have B : Hid (Below w.heap.size w (w.alloc (.cells (ptcells p P) 50))) := (Below.refl _ _).alloc (Nat.le_refl _) _
  have K : Hid (Blk (w.alloc (.cells (ptcells p P) 50)) w.heap.size 50 (ptcells p P)) := Blk.new w _ _
  go_enter Tryd.func88, Tryd.ntmps88
  go_wp2_with fail
  go_loopw [8, 9, 10] (fun v8 v9 i wr => ∃ (k : Nat) (o : Option (List Int)) (va : Option Addr) (vc n : Nat) (fb : Bool), i = .int .i64 k ∧ k ≤ L.length ∧ v8 = .slice va n vc ∧ v9 = .bool fb ∧ Hid (n = (o.getD []).length) ∧ Hid (fb = o.isSome) ∧ Hid (At wr va (o.getD [])) ∧ Hid ((o.getD []).length ≤ maxLen) ∧ Hid (o = bestL p.secret only (L.take k)) ∧ Hid (Below w.heap.size w wr) ∧ Hid (Blk wr w.heap.size 50 (ptcells p P))) (fun _ _ i _ => L.length - (intOf i).toNat)
  case atStart => exact ⟨0, none, none, 0, 0, false, rfl, Nat.zero_le _, rfl, rfl, rfl, rfl, .inl rfl, Nat.zero_le _, rfl, B, K⟩
  case round =>
    clear B K
    obtain ⟨k, o, va, vc, n, fb, rfl, hk, rfl, rfl, HN, HFB, HAT, HLN, HO, B, K⟩ := hrel
    by_cases hlt : k < L.length
    · obtain ⟨x, HX⟩ : ∃ x, Hid (L[k]? = some x) := ⟨_, List.getElem?_eq_getElem hlt⟩
      obtain ⟨xa, xc, za, zc, c1, c2, i1, l1, i2, l2⟩ := hc.out k x HX.out
      have d1 := (B.out.cell (p := ⟨b, off + k * 2, none⟩) hbl.out).trans c1
      have HC2 := Hid.of c2
      have I1 := Hid.of i1
      have I2 := Hid.of i2
      have HL2 := Hid.of l2
      have HRX : Hid (x.1.length ≤ 4096) := hr.out x (List.mem_of_getElem? HX.out)
      have HNX : Hid (bestL p.secret only (L.take (k + 1)) = bestStep p.secret only o x) := by show _ = _; rw [best_take _ _ HX.out, HO.out]
      clear c1 c2 i1 l1 i2 l2
      go_wp2_with fail
      refine (only_any xa oa xc oc x.1 only true wr (I1.out.below B.out (Nat.le_refl _)) (Nat.le_trans HRX.out (by decide)) (ho.out.below B.out (Nat.le_refl _)) hol.out).mono ?_
      rintro e W1 ⟨ra, rc, rfl, at1, ln1, hb⟩
      replace B := Hid.of (B.out.trans (hb.mono B.out.size))
      replace K := Hid.of (K.out.below hb K.out.lt)
      replace HAT := Hid.of (HAT.out.below hb (Nat.le_refl _))
      have HR1 := Hid.of at1
      have HRL : Hid ((x.1.filter fun n => hasB only n == true).length ≤ 17592186044416) := Nat.le_trans (List.length_filter_le _ _) (Nat.le_trans HRX.out (by decide))
      obtain ⟨row, HROW⟩ : ∃ row, Hid (row = x.1.filter fun n => hasB only n == true) := ⟨_, rfl⟩
      rw [← HROW.out] at HR1 HRL ⊢
      have HST : Hid (bestStep p.secret only o x = if (leakB p.secret row && (o.isNone || lessB x.2 (o.getD []))) = true then some x.2 else o) := by show _ = _; unfold bestStep; rw [HROW.out]
      clear hb at1 ln1 d1 HROW
      obtain ⟨x0, x1, x2, x3, x4, x5, x6⟩ := ptcell_at K.out
      go_wp2_with fail
      refine (rTells_any ra P.ta rc P.tc row p.secret W1 HR1.out HRL.out (h.out.t.at_.below B.out (Nat.le_refl _)) h.out.t.len).mono ?_
      rintro e W2 ⟨rfl, hb⟩
      replace B := Hid.of (B.out.trans (hb.mono B.out.size))
      replace K := Hid.of (K.out.below hb K.out.lt)
      replace HAT := Hid.of (HAT.out.below hb (Nat.le_refl _))
      clear hb x0 x1 x2 x3 x4 x5 x6 HR1 HRL
      cases hlk : leakB p.secret row with
      | false =>
        have HN2 : Hid (bestL p.secret only (L.take (k + 1)) = o) := by show _ = _; rw [HNX.out, HST.out, hlk]; simp
        clear hlk
        go_wp2_with fail
        go_roundw
        case rel => exact ⟨k + 1, o, va, vc, n, fb, by go_num, by omega, rfl, rfl, HN, HFB, HAT, HLN, HN2.out.symm, B, K⟩
        case measure => simp [intOf]; omega
      | true =>
        have d2 := (B.out.cell (p := ⟨b, off + k * 2 + 1, none⟩) hbl.out).trans HC2.out
        cases fb with
        | false =>
          have HON : Hid (o = none) := by
            have := HFB.out
            cases ho' : o with
            | none => rfl
            | some u => rw [ho'] at this; cases this
          have HN2 : Hid (bestL p.secret only (L.take (k + 1)) = some x.2) := by show _ = _; rw [HNX.out, HST.out, hlk, HON.out]; simp
          have HA2 : Hid (At W2 za x.2) := I2.out.below B.out (Nat.le_refl _)
          clear hlk
          go_wp2_with fail
          go_roundw
          case rel => exact ⟨k + 1, some x.2, za, zc, x.2.length, true, by go_num, by omega, rfl, rfl, rfl, rfl, HA2, HL2, HN2.out.symm, B, K⟩
          case measure => simp [intOf]; omega
        | true =>
          have HOS : Hid (o.isNone = false) := by
            have := HFB.out
            cases ho' : o with
            | none => rw [ho'] at this; cases this
            | some u => rfl
          have KEY : Hid (Calls Tryd.prog 96 #[.slice za x.2.length zc, .slice va (o.getD []).length vc] W2 fun e w' => e = .returned (.bool (lessB x.2 (o.getD []))) ∧ ∃ q, w' = W2.drewN q) := rless_any za va zc vc x.2 (o.getD []) W2 (I2.out.below B.out (Nat.le_refl _)) HAT.out HL2.out HLN.out
          rw [← HN.out] at KEY
          go_wp2_with fail
          refine KEY.out.mono ?_
          rintro e W3 ⟨rfl, q, hq⟩
          have hb : Below W2.heap.size W2 W3 := by rw [hq]; exact below_drewN (Below.refl _ _) q
          replace B := Hid.of (B.out.trans (hb.mono B.out.size))
          replace K := Hid.of (K.out.below hb K.out.lt)
          replace HAT := Hid.of (HAT.out.below hb (Nat.le_refl _))
          clear hb hq KEY d2
          cases hls : lessB x.2 (o.getD []) with
          | true =>
            have HN2 : Hid (bestL p.secret only (L.take (k + 1)) = some x.2) := by show _ = _; rw [HNX.out, HST.out, hlk, hls]; simp
            have HA2 : Hid (At W3 za x.2) := I2.out.below B.out (Nat.le_refl _)
            have d2 := (B.out.cell (p := ⟨b, off + k * 2 + 1, none⟩) hbl.out).trans HC2.out
            clear hlk hls
            go_wp2_with fail
            go_roundw
            case rel => exact ⟨k + 1, some x.2, za, zc, x.2.length, true, by go_num, by omega, rfl, rfl, rfl, rfl, HA2, HL2, HN2.out.symm, B, K⟩
            case measure => simp [intOf]; omega
          | false =>
            have HN2 : Hid (bestL p.secret only (L.take (k + 1)) = o) := by show _ = _; rw [HNX.out, HST.out, hlk, hls, HOS.out]; simp
            clear hlk hls
            go_wp2_with fail
            go_roundw
            case rel => exact ⟨k + 1, o, va, vc, n, true, by go_num, by omega, rfl, rfl, HN, HFB, HAT, HLN, HN2.out.symm, B, K⟩
            case measure => simp [intOf]; omega
    · have HE : Hid (o = bestL p.secret only L) := by show _ = _; rw [HO.out, List.take_of_length_le (by omega)]
      have hltD : decide ((k : Int) < (L.length : Int)) = false := by simp; omega
      go_wp2_with fail
      refine bodyPost_ret (v := .tuple #[.slice va n vc, .bool fb]) (by simp [results, go_sem]) rfl ?_
      unfold BestPost
      rw [← HE.out, HN.out, HFB.out]
      exact ⟨va, vc, rfl, HAT.out, HLN.out, B.out⟩

end Go.Proofs.YtdhgabpoaicjoaaDoor
namespace Go.Proofs.YtdhgabpoaicjoaaDoor
open Go.RowKit
set_option linter.unusedVariables false

theorem bfGo_next {σ : Type} [DecidableEq σ] {δ : σ → Nat → σ} {ev f k : Nat} {l : List (σ × List Int)} {x : σ × List Int} (h : l[k]? = some x) : bfGo δ ev (f + 1) k l = bfGo δ ev f (k + 1) (bfRow δ x l ev) := by rw [bfGo, h]
theorem bfGo_stop {σ : Type} [DecidableEq σ] {δ : σ → Nat → σ} {ev f k : Nat} {l : List (σ × List Int)} (h : ¬ k < l.length) : bfGo δ ev f k l = l := by
  cases f with
  | zero => rfl
  | succ f =>
    have : l[k]? = none := List.getElem?_eq_none_iff.2 (by omega)
    unfold bfGo; rw [this]

end Go.Proofs.YtdhgabpoaicjoaaDoor
namespace Go.Proofs.YtdhgabpoaicjoaaDoor
open Go.RowKit
set_option linter.unusedVariables false

theorem grown_refl (w : World) (row : Option Nat) : w.grownBy w row := ⟨rfl, rfl, rfl, Nat.le_refl _, fun j _ _ => rfl⟩
section
variable {P : Program} {ops : Array Oper} {o : Oper} {a : Act} {w : World} {K : Act → World → Prop} {Q : Exit → Act → World → Prop} {E : Prop}
theorem step_append_ints (hg : o.guard = none) (s x : Operand) (t : TypeId) (hop : o.op = Op.call { callee := Callee.builtin Builtin.append, args := #[s, x], argTypes := #[t, t] })
    (B : Nat) (i : TypeInfo) (ht : P.underlying t = some (.slice 3)) (hi : P.info? 3 = some i) (hz : i.zero = some (.int .i64 0)) (hsize : i.size = 1) (hby : i.bytes = 8)
    (v : Value) (L : List Int) (hs : a.eval s = v) (hown : Own w B v L)
    (ad : Option Addr) (c : Nat) (ys : List Int) (hx : a.eval x = .slice ad ys.length c) (hat : At w ad ys) (hnil : ad = none → c = 0)
    (hroom : (L.length + ys.length) * 8 ≤ 140737488355328) (hbase : B ≤ w.heap.size)
    (hK : ∀ v' w', Own w' B v' (L ++ ys) → w.grownBy w' v.ownBlock → K (a.put o.dst v') w') :
    if Region.wanted o (yielded ops a.tmps) = true then Oper.wp P o a w K Q else E := by
  cases ad with
  | none =>
    have hy : ys = [] := by
      rcases hat with h | ⟨b, off, h, _⟩
      · exact h
      · cases h
    subst hy
    rw [hnil rfl] at hx
    have hw : Region.wanted o (yielded ops a.tmps) = true := by simp [Region.wanted, hg]
    rw [if_pos hw]
    refine wp_append_nil w s x t hop B 3 i 1 ht hi v _ _ hs hown hx (hK v w ?_ (grown_refl _ _))
    rw [List.append_nil]; exact hown
  | some ad =>
    refine step_append_own hg s x t hop B 3 i (.int .i64 0) 1 8 ht hi hz hsize hby rfl (by decide) v _ _ hs hown ad ys.length c (ys.map (Value.int .i64)) hx (by simp) ?_ ?_ (by unfold maxLen; omega) hroom hbase ?_
    · intro j u hu
      rw [List.getElem?_map] at hu
      rcases hat with h0 | ⟨b, off, h0, _, hc⟩
      · subst h0; simp at hu
      · cases h0
        cases hj : ys[j]? with
        | none => rw [hj] at hu; simp at hu
        | some y =>
          rw [hj] at hu
          simp only [Option.map_some, Option.some.injEq] at hu
          subst hu
          have := hc j (List.getElem?_eq_some_iff.1 hj).1
          rw [List.getD_eq_getElem?_getD, hj, Option.getD_some] at this
          rw [show (⟨b, off, none⟩ : Addr).add j = ⟨b, off + j, none⟩ from by simp [Addr.add]]
          exact this
    · intro u hu
      obtain ⟨y, _, rfl⟩ := List.mem_map.1 hu
      rfl
    · intro v' w' ho' hg'
      refine hK v' w' ?_ hg'
      unfold Own
      rw [List.length_append, List.map_append]
      exact ho'
end

end Go.Proofs.YtdhgabpoaicjoaaDoor
