/-
  The walk of jalousieref11.meet.
  What jalousieref11.Leak leaves; plain: which of two twos is the lesser.
-/
import Derived.Deep.RegionHeld3
import Derived.Test.YtmlkpdeidpcidaaDoorH34
import Derived.Test.YtmlkpdeidpcidaaDoorH32
import Derived.Test.YtmlkpdeidpcidaaDoorH07
import Derived.Test.YtmlkpdeidpcidaaDoorDRBack
namespace Go.Proofs.YtmlkpdeidpcidaaDoor
open Go.RowKit
set_option linter.unusedVariables false

theorem meetR_take (ys : List Int) {xs : List Int} {i : Nat} {x : Int} (h : xs[i]? = some x) : meetR (xs.take (i + 1)) ys = meetR (xs.take i) ys ++ ys.filter fun y => y == x := by
  unfold meetR
  rw [List.take_add_one, h, List.flatMap_append]; simp
theorem filt_take (x : Int) {ys : List Int} {k : Nat} {y : Int} (h : ys[k]? = some y) : ((ys.take (k + 1)).filter fun z => z == x) = ((ys.take k).filter fun z => z == x) ++ (if y = x then [x] else []) := by
  rw [List.take_add_one, h, Option.toList_some, List.filter_append]
  congr 1
  by_cases e : y = x
  · subst e; simp
  · rw [if_neg e, List.filter_cons_of_neg (by simpa using e)]; rfl
theorem meetR_len (ys : List Int) : ∀ xs : List Int, (meetR xs ys).length ≤ xs.length * ys.length
  | [] => by simp [meetR]
  | x :: r => by
    have ih := meetR_len ys r
    unfold meetR at ih ⊢
    rw [List.flatMap_cons, List.length_append, List.length_cons, Nat.succ_mul]
    have := List.length_filter_le (fun y => y == x) ys
    omega
theorem at_get {w : World} {a : Option Addr} {xs : List Int} {k : Nat} {x : Int} (h : At w a xs) (hx : xs[k]? = some x) : ∃ b off, a = some ⟨b, off, none⟩ ∧ b < w.heap.size ∧ w.cell? ⟨b, off + k, none⟩ = some (.int .i64 x) := by
  have hk := (List.getElem?_eq_some_iff.1 hx).1
  rcases h with h0 | ⟨b, off, h1, h2, h3⟩
  · rw [h0] at hk; simp at hk
  · refine ⟨b, off, h1, h2, ?_⟩
    have := h3 k hk
    rw [List.getD_eq_getElem?_getD, hx, Option.getD_some] at this
    exact this

set_option maxRecDepth 100000 in
set_option maxHeartbeats 4000000 in
theorem rMeet_any (a b : Option Addr) (ca cb : Nat) (xs ys : List Int) (w : World) (h : Hid (At w a xs)) (h' : Hid (At w b ys)) (hl : xs.length ≤ 256) (hl' : ys.length ≤ 256) :
    Calls Tryd.prog 91 #[.slice a xs.length ca, .slice b ys.length cb] w fun e w' => GivesO w (meetR xs ys) e w' := by
  obtain ⟨j0, ji, jz0, jz1, jz2⟩ := info_parts Tryd.infoInt
  go_enter Tryd.func91, Tryd.ntmps91
  go_wp2_with fail
  go_loopw [5, 6] (fun v i wr => ∃ k : Nat, i = .int .i64 k ∧ k ≤ xs.length ∧ Hid (Own wr w.heap.size v (meetR (xs.take k) ys)) ∧ Hid (Below w.heap.size w wr)) (fun _ i _ => xs.length - (intOf i).toNat)
  case atStart => exact ⟨0, rfl, Nat.zero_le _, own_nil _ _, Below.refl _ _⟩
  case round =>
    obtain ⟨i, rfl, hii, HO, B⟩ := hrel
    by_cases hlt : i < xs.length
    · obtain ⟨x, HX⟩ : ∃ x, Hid (xs[i]? = some x) := ⟨_, List.getElem?_eq_getElem hlt⟩
      have HTK := Hid.of (meetR_take ys HX.out)
      have hml : (meetR (xs.take i) ys).length ≤ 65536 := by
        have h1 := meetR_len ys (xs.take i)
        have h2 : (xs.take i).length * ys.length ≤ 256 * 256 := Nat.mul_le_mul (by rw [List.length_take]; omega) hl'
        omega
      obtain ⟨A, HA⟩ : ∃ A, Hid (A = meetR (xs.take i) ys) := ⟨_, rfl⟩
      rw [← HA.out] at HO HTK hml
      go_wp2_with fail
      go_loopw [5, 7] (fun v k wr => ∃ j : Nat, k = .int .i64 j ∧ j ≤ ys.length ∧ Hid (Own wr w.heap.size v (A ++ (ys.take j).filter fun z => z == x)) ∧ Hid (Below w.heap.size w wr)) (fun _ k _ => ys.length - (intOf k).toNat)
      case atStart => exact ⟨0, rfl, Nat.zero_le _, (by show Own _ _ _ _; rw [List.take_zero, List.filter_nil, List.append_nil]; exact HO.out), B⟩
      case round =>
        clear HO B
        obtain ⟨j, rfl, hjj, HO, B⟩ := hrel
        by_cases hjl : j < ys.length
        · obtain ⟨y, HY⟩ : ∃ y, Hid (ys[j]? = some y) := ⟨_, List.getElem?_eq_getElem hjl⟩
          have HT2 := Hid.of (filt_take x HY.out)
          obtain ⟨xb, xo, hxa, hxb, cx⟩ := at_get (h.out.below B.out (Nat.le_refl _)) HX.out
          obtain ⟨yb, yo, hya, hyb, cy⟩ := at_get (h'.out.below B.out (Nat.le_refl _)) HY.out
          have hal : (A ++ (ys.take j).filter fun z => z == x).length ≤ 66000 := by
            have := List.length_filter_le (fun z => z == x) (ys.take j)
            rw [List.length_take] at this
            rw [List.length_append]; omega
          subst hxa
          subst hya
          obtain ⟨cur, HC⟩ : ∃ cur, Hid (cur = A ++ (ys.take j).filter fun z => z == x) := ⟨_, rfl⟩
          have HNX : Hid (A ++ ((ys.take (j + 1)).filter fun z => z == x) = cur ++ (if y = x then [x] else [])) := by show _ = _; rw [HT2.out, HC.out, List.append_assoc]
          rw [← HC.out] at HO hal
          obtain ⟨ga, gc, hga, -, -, -⟩ := own_form2 HO.out
          subst hga
          clear HT2 hxb hyb
          go_wp2_with fail
          go_region_held3 (fun w' => w'.cell? ⟨xb, xo + i, none⟩ = some (.int .i64 x) ∧ w'.cell? ⟨yb, yo + j, none⟩ = some (.int .i64 y)) (go_keep) (fail)
          have HOd : Hid (Own wr.drew w.heap.size (.slice ga cur.length gc) cur) := own_same HO.out (fun _ _ => rfl)
          have Bd : Hid (Below w.heap.size w wr.drew) := B.out.drew
          have cxd : wr.drew.cell? ⟨xb, xo + i, none⟩ = some (.int .i64 x) := cx
          clear HO B cx cy
          revert HOd Bd cxd
          generalize wr.drew = V
          intro HO B cx
          by_cases e : y = x
          · subst e
            rw [if_pos rfl] at HNX
            have hlo := B.out.size
            go_wp2_with (at_builtin; refine wpList_append_block _ rfl (.tmp 29) (.tmp 34) 22 rfl w.heap.size 3 j0 (.int .i64 0) 1 8 Tryd.underlying22 ji jz0 jz1 jz2 rfl (by decide) _ _ _ rfl (World.ownsRow.alloc HO.out _) ⟨V.heap.size, 0, none⟩ 1 1 [.int .i64 y] rfl rfl (cell_one_new _ _ _) (by intro u hu; simp at hu; subst hu; rfl) (by decide) (by unfold maxLen; omega) (by omega) (by simp; omega) ?_)
            intro v9 w9 o9 g9 n9
            obtain ⟨q1, q2, q3⟩ := own_snoc HO.out (Below.refl _ V) hlo o9 g9
            have Q1 := Hid.of q1
            have Q2 := Hid.of (B.out.trans q2)
            clear q1 q2 q3 o9 g9 n9
            go_wp2_with fail
            go_roundw
            case rel => exact ⟨j + 1, by go_num, by omega, (by show Own _ _ _ _; rw [HNX.out]; exact Q1.out), Q2⟩
            case measure => simp [intOf]; omega
          · rw [if_neg e, List.append_nil] at HNX
            have e' : ¬ x = y := fun q => e q.symm
            have hbe : (x == y) = false := by simpa using e'
            go_wp2_with fail
            go_roundw
            case rel => exact ⟨j + 1, by go_num, by omega, (by show Own _ _ _ _; rw [HNX.out]; exact HO.out), B⟩
            case measure => simp [intOf]; omega
        · have hjD : decide ((j : Int) < (ys.length : Int)) = false := by simp; omega
          rw [List.take_of_length_le (by omega)] at HO
          go_wp2_with fail
          go_roundw
          case rel => exact ⟨i + 1, by go_num, by omega, (by show Own _ _ _ _; rw [HTK.out]; exact HO.out), B⟩
          case measure => simp [intOf]; omega
    · have hiD : decide ((i : Int) < (xs.length : Int)) = false := by simp; omega
      rw [List.take_of_length_le (by omega)] at HO
      go_wp2_with fail
      go_ret
      exact ⟨_, rfl, HO.out, B.out⟩

end Go.Proofs.YtmlkpdeidpcidaaDoor
namespace Go.Proofs.YtmlkpdeidpcidaaDoor
open Go.RowKit
set_option linter.unusedVariables false

theorem pb1 {w v w' v' : List Int} (h : w.length + v.length < w'.length + v'.length) : pairB w v w' v' = true := (pairB_iff _ _ _ _).2 (.inl h)
theorem pb2 {w v w' v' : List Int} (h : w'.length + v'.length < w.length + v.length) : pairB w v w' v' = false := by
  rw [Bool.eq_false_iff]; intro q
  rw [pairB_iff] at q
  rcases q with q | ⟨q, -⟩ <;> omega
theorem pb3 {w v w' v' : List Int} (h : w.length + v.length = w'.length + v'.length) (k : v.length < v'.length) : pairB w v w' v' = true := (pairB_iff _ _ _ _).2 (.inr ⟨h, .inl k⟩)
theorem pb4 {w v w' v' : List Int} (h : w.length + v.length = w'.length + v'.length) (k : v'.length < v.length) : pairB w v w' v' = false := by
  rw [Bool.eq_false_iff]; intro q
  rw [pairB_iff] at q
  rcases q with q | ⟨-, q | ⟨q, -⟩⟩ <;> omega
theorem pb5 {w v w' v' : List Int} (h : w.length + v.length = w'.length + v'.length) (k : v.length = v'.length) (l : lessB w w' = true) : pairB w v w' v' = true := (pairB_iff _ _ _ _).2 (.inr ⟨h, .inr ⟨k, .inl l⟩⟩)
theorem pb6 {w v w' v' : List Int} (h : w.length + v.length = w'.length + v'.length) (k : v.length = v'.length) (l : lessB w w' = false) (n : lessB w' w = true) : pairB w v w' v' = false := by
  rw [Bool.eq_false_iff]; intro q
  rw [pairB_iff] at q
  rcases q with q | ⟨-, q | ⟨-, q | ⟨q, -⟩⟩⟩
  · omega
  · omega
  · rw [l] at q; cases q
  · rw [q, lessB_irrefl] at n; cases n
theorem pb7 {w v w' v' : List Int} (h : w.length + v.length = w'.length + v'.length) (k : v.length = v'.length) (l : lessB w w' = false) (n : lessB w' w = false) : pairB w v w' v' = lessB v v' := by
  unfold pairB
  rw [l, n, decide_eq_false (by omega), decide_eq_true h, decide_eq_false (by omega), decide_eq_true k]
  simp
theorem kno_rows {p : Plant} (hp : mayP p = true) : (∀ x ∈ knL p.seen (fwdL p), x.1.length ≤ 256) ∧ (∀ x ∈ knL p.seen (bwdL p), x.1.length ≤ 256) ∧ 0 < (knL p.seen (fwdL p)).length ∧ 0 < (knL p.seen (bwdL p)).length ∧ (∀ x ∈ knL p.seen (fwdL p), x.2.length ≤ 64) ∧ (∀ x ∈ knL p.seen (bwdL p), x.2.length ≤ 64) := by
  obtain ⟨hm, z, hs, -⟩ := (mayP_iff p).1 hp
  have hz := mayB_size hm
  unfold sizeOk at hz
  refine ⟨fun x hx => ?_, fun x hx => ?_, ?_, ?_, fun x hx => (fwd_mem hp hx).2.2, fun x hx => (bwd_mem hp hx).2.2⟩
  · have h1 := (fwd_mem hp hx).1
    have h2 := est_in hm x.2
    rw [h1]
    exact nodup_len 256 _ (inc_nodup h2.1) (fun y hy => by have := h2.2 y hy; omega)
  · have h1 := (bwd_mem hp hx).1
    rw [h1]
    refine nodup_len 256 _ (inc_nodup (inc_flt (inc_rng9 _) _)) (fun y hy => ?_)
    have := ((mem_on p x.2 y).1 hy).1
    omega
  · obtain ⟨x, hx, -⟩ := fwd_cov hp (w := []) (by simp)
    exact List.length_pos_of_mem hx
  · obtain ⟨x, hx, -⟩ := bwd_cov hp (v := []) (by simp)
    exact List.length_pos_of_mem hx

/-- What Leak leaves. -/
def SLPost (w : World) (o : Option (List Int × List Int)) (e : Ending) (w' : World) : Prop := ∃ va vc vb vd, e = .returned (.tuple #[.bool o.isSome, .slice va (o.getD ([], [])).1.length vc, .slice vb (o.getD ([], [])).2.length vd]) ∧ At w' va (o.getD ([], [])).1 ∧ At w' vb (o.getD ([], [])).2 ∧ (o.getD ([], [])).1.length ≤ maxLen ∧ (o.getD ([], [])).2.length ≤ maxLen ∧ Below w.heap.size w w'

end Go.Proofs.YtmlkpdeidpcidaaDoor
