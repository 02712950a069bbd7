/-
  The walk of jalousieref1.Join: one list behind the other, sorted.
-/
import Derived.Test.YtfjkdlhnieiibaaSorted
namespace Go.Proofs.Ytfjkdlhnieiibaa
open Go.RowKit
set_option linter.unusedVariables false

section
variable {P : Program} (w : World)
theorem wp_append_nil {o : Oper} {a : Act} {K : Act → World → Prop} {Q : Exit → Act → World → Prop} (s x : Operand) (t : TypeId)
    (ho : o.op = .call { callee := .builtin .append, args := #[s, x], argTypes := #[t, t] })
    (base : Nat) (e : TypeId) (i : TypeInfo) (size : Nat) (ht : P.underlying t = some (.slice e)) (hi : P.info? e = some i)
    (v : Value) (n : Nat) (xs : List Value) (hs : a.eval s = v) (hown : w.ownsRow base e size v n xs) (hx : a.eval x = .slice none 0 0)
    (h : K (a.put o.dst v) w) : o.wp P a w K Q := by
  have hr := run_append_owned_none (P := P) w base t o.type e i size ht hi v n xs hown
  unfold Oper.wp execOp
  simp only [ho, resolve, invoke, builtin, Sem.run_bind, Sem.run_pure, Result.andThen_ok, List.map_toArray, List.map_cons, List.map_nil, hs, hx, hr]
  exact h

/-- append(v, y...): v is a row of integers of the call's own, y any slice of integers (nil among them). -/
theorem wpList_append_ints {ops : Array Oper} {rest : List Oper} {o : Oper} {a : Act} {Q : Exit → Act → World → Prop} (hgd : o.guard = none) (s x : Operand) (t : TypeId)
    (ho : o.op = .call { callee := .builtin .append, args := #[s, x], argTypes := #[t, t] })
    (B : Nat) (i : TypeInfo) (ht : P.underlying t = some (.slice 3)) (hi : P.info? 3 = some i) (hz : i.zero = some (.int .i64 0)) (hsize : i.size = 1) (hby : i.bytes = 8)
    (v : Value) (L : List Int) (hs : a.eval s = v) (hown : Own w B v L)
    (ad : Option Addr) (c : Nat) (ys : List Int) (hx : a.eval x = .slice ad ys.length c) (hat : At w ad ys) (hnil : ad = none → c = 0)
    (hroom : (L.length + ys.length) * 8 ≤ 140737488355328) (hbase : B ≤ w.heap.size)
    (h : ∀ v' w', Own w' B v' (L ++ ys) → Below B w w' → B ≤ w'.heap.size → wpList P ops Q rest (a.put o.dst v') w') : wpList P ops Q (o :: rest) a w := by
  cases ad with
  | none =>
    have hy : ys = [] := by
      rcases hat with h | ⟨b, off, h, _⟩
      · exact h
      · cases h
    subst hy
    rw [hnil rfl] at hx
    refine wpList_plain hgd fun _ hK => wp_append_nil w s x t ho B 3 i 1 ht hi v _ _ hs hown hx (hK _ _ (h v w ?_ (Below.refl _ _) hbase))
    rw [List.append_nil]; exact hown
  | some ad =>
    refine wpList_append_own w hgd s x t ho B 3 i (.int .i64 0) 1 8 ht hi hz hsize hby rfl (by decide) v _ _ hs hown ad ys.length c (ys.map (Value.int .i64)) hx (by simp) ?_ ?_ (by unfold maxLen; omega) hroom hbase ?_
    · intro j u hu
      rw [List.getElem?_map] at hu
      rcases hat with h0 | ⟨b, off, h0, _, hc⟩
      · subst h0; simp at hu
      · cases h0
        cases hj : ys[j]? with
        | none => rw [hj] at hu; simp at hu
        | some y =>
          rw [hj] at hu
          simp only [Option.map_some, Option.some.injEq] at hu
          subst hu
          have := hc j (List.getElem?_eq_some_iff.1 hj).1
          rw [List.getD_eq_getElem?_getD, hj, Option.getD_some] at this
          rw [show (⟨b, off, none⟩ : Addr).add j = ⟨b, off + j, none⟩ from by simp [Addr.add]]
          exact this
    · intro u hu
      obtain ⟨y, _, rfl⟩ := List.mem_map.1 hu
      rfl
    · intro v' w' ho' hg _
      refine h v' w' ?_ ((Below.refl _ _).grown hg hbase (fun j hj => (hown.lt j hj).1)) (Nat.le_trans hbase hg.size)
      unfold Own
      rw [List.length_append, List.map_append]
      exact ho'
end

theorem own_empty (w : World) : Own (w.alloc (.cells #[] 3)) w.heap.size (.slice (some ⟨w.heap.size, 0, none⟩) 0 0) [] :=
  World.ownsRow_lit w #[] 0 (Nat.le_refl _) (Nat.zero_le _) rfl

set_option maxHeartbeats 400000 in
theorem refJoin_any (a1 a2 : Option Addr) (c1 c2 : Nat) (xs ys : List Int) (w : World) (h1 : At w a1 xs) (h2 : At w a2 ys) (n1 : a1 = none → c1 = 0) (n2 : a2 = none → c2 = 0) (l1 : xs.length ≤ 4398046511104) (l2 : ys.length ≤ 4398046511104) :
    Calls Try.prog 13 #[.slice a1 xs.length c1, .slice a2 ys.length c2] w fun e w' => Gives w (srt (xs ++ ys)) e w' := by
  obtain ⟨i0, hi, hz0, hz1, hz2⟩ := info_parts Try.infoInt
  have N1 : Hid (a1 = none → c1 = 0) := n1
  have N2 : Hid (a2 = none → c2 = 0) := n2
  clear n1 n2
  go_enter Try.func13, Try.ntmps13
  have o0 : Own (w.alloc (.cells #[] 3)) w.heap.size (.slice (some ⟨w.heap.size, 0, none⟩) 0 0) [] := own_empty w
  have b0 : Below w.heap.size w (w.alloc (.cells #[] 3)) := (Below.refl _ _).alloc (Nat.le_refl _) _
  have a1' : At (w.alloc (.cells #[] 3)) a1 xs := h1.below b0 (Nat.le_refl _)
  go_wp2_with (at_builtin; refine wpList_append_ints _ rfl (.tmp 6) (.tmp 7) 22 rfl w.heap.size i0 Try.underlying22 hi hz0 hz1 hz2 _ [] rfl o0 a1 c1 xs rfl a1' N1.out (by simp only [List.length_nil]; omega) (by simp) ?_)
  intro v1 w1 o1 b1 z1
  have bb1 : Below w.heap.size w w1 := b0.trans b1
  have a2' : At w1 a2 ys := h2.below bb1 (Nat.le_refl _)
  clear o0 a1' b1 b0
  go_wp2_with (at_builtin; refine wpList_append_ints _ rfl (.tmp 8) (.tmp 9) 22 rfl w.heap.size i0 Try.underlying22 hi hz0 hz1 hz2 _ xs rfl o1 a2 c2 ys rfl a2' N2.out (by omega) z1 ?_)
  intro v2 w2 o2 b2 z2
  have bb2 : Below w.heap.size w w2 := bb1.trans b2
  clear o1 a2' b2 bb1
  obtain ⟨a3, c3, rfl, h3, l3⟩ := o2.at
  clear o2
  have HL : Hid ((xs ++ ys).length ≤ 17592186044416) := by show _ ≤ _; rw [List.length_append]; omega
  generalize hz : xs ++ ys = zs at *
  have HZ : Hid (xs ++ ys = zs) := hz
  clear hz
  go_wp2_with fail
  refine (sorted_any a3 c3 zs _ h3 HL.out).mono ?_
  rintro e w3 ⟨a4, c4, rfl, h4, l4, b4⟩
  have bb3 : Below w.heap.size w w3 := bb2.trans (b4.mono bb2.size)
  go_wp2
  go_ret
  have hz := HZ.out
  subst hz
  exact ⟨a4, c4, rfl, h4, l4, bb3⟩

end Go.Proofs.Ytfjkdlhnieiibaa
