/-
  The walk of jalousieref2.Step.
  What is said of a slice of arrows that a call has made ('OwnA'): its cells, a piece of it from the front, one arrow more, another slice behind it.
  What is said of rows of rows on the way through both walks of package beside.
  append onto a row of the call's own: the row stays in its block, or it is in a new one.
  'All blocks of a world but one are as they were'.
-/
import Derived.Test.YtialjbdfkhfcoabDoorG03
import Derived.Test.YtialjbdfkhfcoabDoorG07
import Derived.Deep.RegionWith
import Derived.BigQuiet
import Derived.Test.YtialjbdfkhfcoabDoorG04
import Derived.Deep.RegionLaw
import Derived.Deep.RegionHeld3
import Derived.Test.YtialjbdfkhfcoabDoorG06
namespace Go.Proofs.YtialjbdfkhfcoabDoor
open Go.RowKit
set_option linter.unusedVariables false

set_option maxHeartbeats 2000000 in
set_option maxRecDepth 100000 in
theorem refStep_some (st ev : Int) (starts : List Int) (ars : List Arr) (ends : List Int) (a1 : Option Addr) (c1 b off c2 : Nat) (a3 : Option Addr) (c3 : Nat) (sa : Option Addr) (sc : Nat) (ss : List Int) (x : Int) (w : World) (hlen : ars.length ≤ 17592186044416) (hb : b < w.heap.size) (hca : CellsA w b off ars) (hs : At w sa ss) (hl : ss.length ≤ maxLen) :
    Calls Tryd.prog 73 #[mval ⟨st, ev, starts, ars, ends⟩ ⟨a1, c1, some ⟨b, off, none⟩, c2, a3, c3⟩, .slice sa ss.length sc, .int .i64 x] w fun e w' => GivesO w (stepL ars ss x) e w' := by
  obtain ⟨i0, hi, hz0, hz1, hz2⟩ := info_parts Tryd.infoInt
  go_enter Tryd.func73, Tryd.ntmps73
  go_wp2
  go_loopw [7, 8] (fun v i wr => ∃ k : Nat, k ≤ ars.length ∧ i = .int .i64 k ∧ Own wr (w.heap.size + 1) v (stepTo (ars.take k) ss x) ∧ Below (w.heap.size + 1) (w.alloc (.cells (mcells ⟨st, ev, starts, ars, ends⟩ ⟨a1, c1, some ⟨b, off, none⟩, c2, a3, c3⟩) 25)) wr) (fun _ i _ => ars.length - (intOf i).toNat)
  case atStart => exact ⟨0, Nat.zero_le _, rfl, own_nil _ _, Below.refl _ _⟩
  case round =>
    obtain ⟨k, hk, rfl, hown, hbel⟩ := hrel
    have hold := below_box hbel
    have hsz := hbel.size
    rw [World.size_alloc] at hsz
    have hbx : w.heap.size < wr.heap.size := by omega
    have hbr : b < wr.heap.size := by omega
    have hbox := (box_cells hbel).2.2.2.1
    dsimp only at hbox
    by_cases hlt : k < ars.length
    · obtain ⟨a, HA, y0, y1, y2⟩ := hca.at hlt
      have y0' := (hold.cell (p := ⟨b, off + k * 3, none⟩) hb).trans y0
      have y1' := (hold.cell (p := ⟨b, off + k * 3 + 1, none⟩) hb).trans y1
      have y2' := (hold.cell (p := ⟨b, off + k * 3 + 2, none⟩) hb).trans y2
      clear y0 y1 y2
      have hsr := hs.below hold (Nat.le_refl _)
      have hll := stepTo_len (ars.take k) ss x
      rw [List.length_take] at hll
      have HN := stepTo_take (ss := ss) (e := x) hlt HA
      by_cases c1' : a.e = x
      · have g1 : (a.e == x) = true := by simp [c1']
        have HC : Hid (a.e = x) := c1'
        clear c1'
        go_wp2_with fail
        refine (refHas_any sa sc ss a.f _ hsr hl).mono ?_
        rintro e w1 ⟨rfl, rfl⟩
        by_cases c2' : hasB ss a.f = true
        · rw [if_pos (by rw [g1, c2']; rfl)] at HN
          have HN' : Hid (stepTo (ars.take (k + 1)) ss x = stepTo (ars.take k) ss x ++ [a.t]) := HN
          clear HN
          go_wp2_with (at_builtin; refine wpList_append_own _ rfl _ _ 22 rfl (w.heap.size + 1) 3 i0 (.int .i64 0) 1 8 Tryd.underlying22 hi hz0 hz1 hz2 rfl (by decide) _ _ _ rfl (World.ownsRow.alloc hown _) ⟨w1.heap.size, 0, none⟩ 1 1 [.int .i64 a.t] rfl rfl (cell_one_new _ _ _) (by intro u hu; simp at hu; subst hu; rfl) (by unfold maxLen; omega) (by omega) (by simp; omega) ?_)
          intro v' w2 hown' hgrow _
          obtain ⟨r1, r2, -⟩ := own_snoc hown hbel (by omega) hown' hgrow
          rw [← HN'.out] at r1
          clear hown' hgrow hown
          go_wp2
          go_roundw
          case rel => exact ⟨k + 1, by omega, by go_num, r1, r2⟩
          case measure => simp [intOf]; omega
        · have c3' : hasB ss a.f = false := by simpa using c2'
          rw [if_neg (by rw [c3']; simp)] at HN
          have r1 := hown
          rw [← HN] at r1
          clear HN c2'
          go_wp2
          go_roundw
          case rel => exact ⟨k + 1, by omega, by go_num, r1, hbel⟩
          case measure => simp [intOf]; omega
      · have g1 : (a.e == x) = false := by simp [c1']
        rw [if_neg (by rw [g1]; simp)] at HN
        have r1 := hown
        rw [← HN] at r1
        clear HN
        go_wp2
        go_roundw
        case rel => exact ⟨k + 1, by omega, by go_num, r1, hbel⟩
        case measure => simp [intOf]; omega
    · have htk : Hid (ars.take k = ars) := List.take_of_length_le (by omega)
      rw [htk.out] at hown
      have hl2 := stepTo_len ars ss x
      obtain ⟨a', c', rfl, h3, l3⟩ := hown.at
      go_wp2_with fail
      refine (sorted_own a' c' (stepTo ars ss x) _ h3 (by omega)).mono ?_
      rintro e w1 ⟨v4, rfl, o4, b4⟩
      have bb : Below w.heap.size w w1 := hold.trans (b4.mono (by omega))
      go_wp2
      go_ret
      exact ⟨v4, rfl, o4.low (by omega), bb⟩

set_option maxHeartbeats 400000 in
theorem refStep_nil (st ev : Int) (starts : List Int) (ends : List Int) (l : ML) (sa : Option Addr) (sc : Nat) (ss : List Int) (x : Int) (w : World) :
    Calls Tryd.prog 73 #[mval ⟨st, ev, starts, [], ends⟩ l, .slice sa ss.length sc, .int .i64 x] w fun e w' => GivesO w [] e w' := by
  go_enter Tryd.func73, Tryd.ntmps73
  go_wp2_with fail
  refine wp_loop_rounds 1 ?_
  rw [rounds_succ]
  go_wp2_with fail
  refine (sorted_nil none 0 _).mono ?_
  rintro e w1 ⟨rfl, rfl⟩
  go_wp2
  go_ret
  exact ⟨_, rfl, own_nil _ _, (Below.refl _ _).alloc (Nat.le_refl _) _⟩

theorem refStep_own (m : Mach) (l : ML) (sa : Option Addr) (sc : Nat) (ss : List Int) (x : Int) (w : World) (ha : AtA w l.a2 m.arrows) (hlen : m.arrows.length ≤ 17592186044416) (hs : At w sa ss) (hl : ss.length ≤ maxLen) :
    Calls Tryd.prog 73 #[mval m l, .slice sa ss.length sc, .int .i64 x] w fun e w' => GivesO w (stepL m.arrows ss x) e w' := by
  obtain ⟨st, ev, starts, ars, ends⟩ := m
  obtain ⟨a1, c1, a2, c2, a3, c3⟩ := l
  rcases ha with h0 | ⟨b, off, h0, hb, hc⟩
  · have h0 : ars = [] := h0
    subst h0
    exact refStep_nil st ev starts ends _ sa sc ss x w
  · have h0 : a2 = some ⟨b, off, none⟩ := h0
    subst h0
    exact refStep_some st ev starts ars ends a1 c1 b off c2 a3 c3 sa sc ss x w hlen hb hc hs hl

theorem refStep_any (m : Mach) (l : ML) (sa : Option Addr) (sc : Nat) (ss : List Int) (x : Int) (w : World) (ha : AtA w l.a2 m.arrows) (hlen : m.arrows.length ≤ 17592186044416) (hs : At w sa ss) (hl : ss.length ≤ maxLen) :
    Calls Tryd.prog 73 #[mval m l, .slice sa ss.length sc, .int .i64 x] w fun e w' => Gives w (stepL m.arrows ss x) e w' :=
  (refStep_own m l sa sc ss x w ha hlen hs hl).mono fun _ _ h => h.gives

end Go.Proofs.YtialjbdfkhfcoabDoor
namespace Go.Proofs.YtialjbdfkhfcoabDoor
open Go.RowKit
set_option linter.unusedVariables false

theorem Tryd.infoArrow : (Tryd.prog.info? 81).map (fun i => (i.zero, i.size, i.bytes)) = some (some (aval arr0), 3, 24) := by kernel_rfl

def aflat : List Arr → List Value
  | [] => []
  | a :: r => .int .i64 a.f :: .int .i64 a.e :: .int .i64 a.t :: aflat r

theorem aflat_len : ∀ L : List Arr, (aflat L).length = L.length * 3
  | [] => rfl
  | a :: r => by simp only [aflat, List.length_cons, aflat_len r]; omega
theorem aflat_append : ∀ L M : List Arr, aflat (L ++ M) = aflat L ++ aflat M
  | [], M => rfl
  | a :: r, M => by simp only [List.cons_append, aflat, aflat_append r M]
theorem aflat_take : ∀ (L : List Arr) (p : Nat), (aflat L).take (p * 3) = aflat (L.take p)
  | [], p => by simp [aflat]
  | a :: r, 0 => by simp [aflat]
  | a :: r, p + 1 => by rw [show (p + 1) * 3 = p * 3 + 1 + 1 + 1 by omega]; simp only [aflat, List.take_succ_cons, aflat_take r p]
theorem aflat_at : ∀ {L : List Arr} {k : Nat}, k < L.length → (aflat L)[k * 3]? = some (.int .i64 (L[k]?.getD arr0).f) ∧ (aflat L)[k * 3 + 1]? = some (.int .i64 (L[k]?.getD arr0).e) ∧ (aflat L)[k * 3 + 2]? = some (.int .i64 (L[k]?.getD arr0).t)
  | [], k, h => by simp at h
  | a :: r, 0, _ => by simp [aflat]
  | a :: r, k + 1, h => by
    have := aflat_at (L := r) (k := k) (by simpa using h)
    rw [show (k + 1) * 3 = k * 3 + 1 + 1 + 1 by omega]
    simpa [aflat] using this

/-- The slice v is in memory made from block B on, and holds the arrows L. -/
def OwnA (w : World) (B : Nat) (v : Value) (L : List Arr) : Prop := w.ownsRow B 81 3 v L.length (aflat L)

theorem ownA_nil (w : World) (B : Nat) : OwnA w B (.slice none 0 0) [] := World.ownsRow_nil _ _ _ _
theorem ownA_empty (w : World) (B : Nat) (h : B ≤ w.heap.size) : OwnA (w.alloc (.cells #[] 81)) B (.slice (some ⟨w.heap.size, 0, none⟩) 0 0) [] := World.ownsRow_lit w #[] 0 h (Nat.zero_le _) rfl

theorem addr0_add (g j : Nat) : (⟨g, 0, none⟩ : Addr).add j = ⟨g, 0 + j, none⟩ := by unfold Addr.add; split <;> simp_all

theorem OwnA.forms {w : World} {B : Nat} {v : Value} {L : List Arr} (h : OwnA w B v L) : (v = .slice none 0 0 ∧ L = []) ∨ ∃ g cap, v = .slice (some ⟨g, 0, none⟩) L.length cap ∧ B ≤ g ∧ g < w.heap.size ∧ CellsA w g 0 L ∧ L.length ≤ cap ∧ cap ≤ maxLen := by
  rcases h.2 with ⟨rfl, hn⟩ | ⟨g, cap, cur, rfl, hg, hh, hnc, hcm, hcs, ht⟩
  · exact .inl ⟨rfl, List.eq_nil_of_length_eq_zero hn⟩
  · refine .inr ⟨g, cap, rfl, hg, (Array.getElem?_eq_some_iff.1 hh).1, fun j hj => ?_, hnc, hcm⟩
    obtain ⟨h1, h2, h3⟩ := aflat_at hj
    have c1 := h.cells (g := g) rfl _ _ h1
    have c2 := h.cells (g := g) rfl _ _ h2
    have c3 := h.cells (g := g) rfl _ _ h3
    rw [addr0_add] at c1 c2 c3
    exact ⟨c1, c2, c3⟩

theorem OwnA.at {w : World} {B : Nat} {v : Value} {L : List Arr} (h : OwnA w B v L) : ∃ a cap, v = .slice a L.length cap ∧ AtA w a L ∧ L.length ≤ cap ∧ cap ≤ maxLen ∧ (a = none → cap = 0) := by
  rcases h.forms with ⟨rfl, rfl⟩ | ⟨g, cap, rfl, _, hg, hc, h1, h2⟩
  · exact ⟨none, 0, rfl, .inl rfl, Nat.le_refl _, Nat.zero_le _, fun _ => rfl⟩
  · exact ⟨some ⟨g, 0, none⟩, cap, rfl, .inr ⟨g, 0, rfl, hg, hc⟩, h1, h2, fun h => by cases h⟩

theorem OwnA.take {w : World} {B g n cap : Nat} {L : List Arr} (h : OwnA w B (.slice (some ⟨g, 0, none⟩) n cap) L) {p : Nat} (hp : p ≤ L.length) : OwnA w B (.slice (some ⟨g, 0, none⟩) p cap) (L.take p) := by
  have hl : (L.take p).length = p := by rw [List.length_take]; omega
  rcases h.2 with ⟨h0, _⟩ | ⟨g', cap', cur, h0, hg, hh, hnc, hcm, hcs, ht⟩
  · simp at h0
  · simp only [Value.slice.injEq, Option.some.injEq, Addr.mk.injEq, and_true] at h0
    obtain ⟨rfl, rfl, rfl⟩ := h0
    refine ⟨by rw [aflat_len], .inr ⟨g, cap, cur, by rw [hl], hg, hh, by omega, hcm, hcs, ?_⟩⟩
    rw [hl, ← aflat_take, ← ht, List.take_take]
    congr 1
    omega

theorem OwnA.kept {w w' : World} {B B' : Nat} {v : Value} {L : List Arr} (h : OwnA w B v L) (hb : Below B' w w') (hB : w.heap.size ≤ B') : OwnA w' B v L := by
  refine ⟨h.1, ?_⟩
  rcases h.2 with hn | ⟨g, cap, cur, rfl, hg, hgg, rest⟩
  · exact .inl hn
  · exact .inr ⟨g, cap, cur, rfl, hg, (hb.block g (Nat.lt_of_lt_of_le (Array.getElem?_eq_some_iff.1 hgg).1 hB)).trans hgg, rest⟩

theorem cells_news {w : World} {b off : Nat} {M : List Arr} (hc : CellsA w b off M) : ∀ j u, (aflat M)[j]? = some u → w.cell? ((⟨b, off, none⟩ : Addr).add j) = some u := by
  intro j u hu
  have hj : j < M.length * 3 := by rw [← aflat_len]; exact (List.getElem?_eq_some_iff.1 hu).1
  have hk : j / 3 < M.length := by omega
  obtain ⟨h1, h2, h3⟩ := aflat_at hk
  obtain ⟨c1, c2, c3⟩ := hc _ hk
  have ha : (⟨b, off, none⟩ : Addr).add j = ⟨b, off + j, none⟩ := by unfold Addr.add; split <;> simp_all
  rw [ha]
  have hm : j % 3 = 0 ∨ j % 3 = 1 ∨ j % 3 = 2 := by omega
  rcases hm with hm | hm | hm
  · have e : j / 3 * 3 = j := by omega
    rw [e] at h1 c1
    rw [hu] at h1
    rw [c1, h1]
  · have e : j / 3 * 3 + 1 = j := by omega
    rw [e] at h2
    rw [show off + j / 3 * 3 + 1 = off + j by omega] at c2
    rw [hu] at h2
    rw [c2, h2]
  · have e : j / 3 * 3 + 2 = j := by omega
    rw [e] at h3
    rw [show off + j / 3 * 3 + 2 = off + j by omega] at c3
    rw [hu] at h3
    rw [c3, h3]
theorem aflat_one : ∀ (M : List Arr), ∀ u ∈ aflat M, u.oneCell' = true
  | [], u, h => by simp [aflat] at h
  | a :: r, u, h => by
    simp only [aflat, List.mem_cons] at h
    rcases h with rfl | rfl | rfl | h
    · rfl
    · rfl
    · rfl
    · exact aflat_one r u h

section
variable {P : Program} {ops : Array Oper} {o : Oper} {a : Act} {w : World} {K : Act → World → Prop} {Q : Exit → Act → World → Prop} {E : Prop}

/-- append onto a row of the call's own, as one step of a region that draws. -/
theorem step_append_own (hg : o.guard = none) (s x : Operand) (t : TypeId) (hop : o.op = Op.call { callee := Callee.builtin Builtin.append, args := #[s, x], argTypes := #[t, t] })
    (base : Nat) (e : TypeId) (i : TypeInfo) (z : Value) (size bytes : Nat) (h1 : P.underlying t = some (.slice e)) (h2 : P.info? e = some i) (h3 : i.zero = some z) (h4 : i.size = size) (h5 : i.bytes = bytes) (h6 : z.cells.size = size) (h7 : 0 < size)
    (v : Value) (n : Nat) (xs : List Value) (hs : a.eval s = v) (hown : w.ownsRow base e size v n xs)
    (ad : Addr) (m c : Nat) (news : List Value) (hx : a.eval x = .slice (some ad) m c) (hn : news.length = m * size) (hc : ∀ j u, news[j]? = some u → w.cell? (ad.add j) = some u) (h1c : ∀ u ∈ news, u.oneCell' = true)
    (b1 : n + m ≤ maxLen) (b2 : (n + m) * bytes ≤ 140737488355328) (hbase : base ≤ w.heap.size)
    (hK : ∀ v' w', w'.ownsRow base e size v' (n + m) (xs ++ news) → w.grownBy w' v.ownBlock → K (a.put o.dst v') w') :
    if Region.wanted o (yielded ops a.tmps) = true then Oper.wp P o a w K Q else E := by
  have hw : Region.wanted o (yielded ops a.tmps) = true := by simp [Region.wanted, hg]
  rw [if_pos hw]
  obtain ⟨v', w', hrun, r1, r2, _⟩ := run_append_own (P := P) w base t o.type e i z size bytes h1 h2 h3 h4 h5 h6 h7 v n xs hown ad m c news hn hc h1c b1 b2 hbase
  unfold Oper.wp
  simp [execOp, hop, resolve, invoke, builtin, hs, hx, hrun, Result.andThen]
  exact hK v' w' r1 r2
end

theorem cell_three_new (w : World) (a b c : Value) (T : TypeId) : ∀ j u, [a, b, c][j]? = some u → (w.alloc (.cells #[a, b, c] T)).cell? ((⟨w.heap.size, 0, none⟩ : Addr).add j) = some u := by
  intro j u hu
  rw [addr0_add, Nat.zero_add, World.cell?_alloc_at _ _ _ _ rfl]
  match j, hu with
  | 0, hu => simpa using hu
  | 1, hu => simpa using hu
  | 2, hu => simpa using hu
  | j + 3, hu => simp at hu

section
variable {P : Program} (w : World)
theorem wp_append_nilA {o : Oper} {a : Act} {K : Act → World → Prop} {Q : Exit → Act → World → Prop} (s x : Operand) (t : TypeId)
    (ho : o.op = .call { callee := .builtin .append, args := #[s, x], argTypes := #[t, t] })
    (base : Nat) (e : TypeId) (i : TypeInfo) (size : Nat) (ht : P.underlying t = some (.slice e)) (hi : P.info? e = some i)
    (v : Value) (n : Nat) (xs : List Value) (hs : a.eval s = v) (hown : w.ownsRow base e size v n xs) (hx : a.eval x = .slice none 0 0)
    (h : K (a.put o.dst v) w) : o.wp P a w K Q := by
  have hr := run_append_owned_none (P := P) w base t o.type e i size ht hi v n xs hown
  unfold Oper.wp execOp
  simp only [ho, resolve, invoke, builtin, Sem.run_bind, Sem.run_pure, Result.andThen_ok, List.map_toArray, List.map_cons, List.map_nil, hs, hx, hr]
  exact h

/-- append(v, y...): v is a row of arrows of the call's own, y any slice of arrows (nil among them). -/
theorem wpList_append_arrs {ops : Array Oper} {rest : List Oper} {o : Oper} {a : Act} {Q : Exit → Act → World → Prop} (hgd : o.guard = none) (s x : Operand) (t : TypeId)
    (ho : o.op = .call { callee := .builtin .append, args := #[s, x], argTypes := #[t, t] })
    (B : Nat) (i : TypeInfo) (ht : P.underlying t = some (.slice 81)) (hi : P.info? 81 = some i) (hz : i.zero = some (aval arr0)) (hsize : i.size = 3) (hby : i.bytes = 24)
    (v : Value) (L : List Arr) (hs : a.eval s = v) (hown : OwnA w B v L)
    (ad : Option Addr) (c : Nat) (ys : List Arr) (hx : a.eval x = .slice ad ys.length c) (hat : AtA w ad ys) (hnil : ad = none → c = 0)
    (hroom : (L.length + ys.length) * 24 ≤ 140737488355328) (hbase : B ≤ w.heap.size)
    (h : ∀ v' w', OwnA w' B v' (L ++ ys) → w.grownBy w' v.ownBlock → (v ≠ .slice none 0 0 → v' ≠ .slice none 0 0) → wpList P ops Q rest (a.put o.dst v') w') : wpList P ops Q (o :: rest) a w := by
  cases ad with
  | none =>
    have hy : ys = [] := by
      rcases hat with h | ⟨b, off, h, _⟩
      · exact h
      · cases h
    subst hy
    rw [hnil rfl] at hx
    refine wpList_plain hgd fun _ hK => wp_append_nilA w s x t ho B 81 i 3 ht hi v _ _ hs hown hx (hK _ _ (h v w ?_ ⟨rfl, rfl, rfl, Nat.le_refl _, fun _ _ _ => rfl⟩ (fun h => h)))
    rw [List.append_nil]; exact hown
  | some ad =>
    refine wpList_append_own w hgd s x t ho B 81 i (aval arr0) 3 24 ht hi hz hsize hby rfl (by decide) v _ _ hs hown ad ys.length c (aflat ys) hx (aflat_len ys) ?_ (aflat_one ys) (by unfold maxLen; omega) hroom hbase ?_
    · rcases hat with h0 | ⟨b, off, h0, _, hc⟩
      · subst h0; intro j u hu; simp [aflat] at hu
      · cases h0; exact cells_news hc
    · intro v' w' ho' hg hnn
      refine h v' w' ?_ hg (fun hv hv' => hv (hnn.1 hv').1)
      unfold OwnA
      rw [List.length_append, aflat_append]
      exact ho'
end

end Go.Proofs.YtialjbdfkhfcoabDoor
namespace Go.Proofs.YtialjbdfkhfcoabDoor
open Go.RowKit
set_option linter.unusedVariables false

theorem ownsRow_lay2 {w : World} {B n : Nat} {v : Value} {vs : List Value} (h : w.ownsRow B 22 1 v n vs) (o o' : Obj) : ((w.alloc o).alloc o').drew.ownsRow B 22 1 v n vs := World.ownsRow.alloc (World.ownsRow.alloc h o) o'
theorem cell_lay2 (w : World) (o : Obj) (u : Value) (t : TypeId) : ∀ j x, [u][j]? = some x → ((w.alloc o).alloc (.cells #[u] t)).drew.cell? ((⟨w.heap.size + 1, 0, none⟩ : Addr).add j) = some x := by
  intro j x hx
  have : j = 0 := by have := (List.getElem?_eq_some_iff.1 hx).1; simp at this; omega
  subst this
  simp at hx
  subst hx
  have := (Blk.new (w.alloc o) t #[u]).cell 0 rfl
  rw [World.size_alloc] at this
  exact this
theorem cell_grown2 {w w' : World} {o o' : Obj} {B n : Nat} {v x : Value} {vs : List Value} {p : Addr} (hc : w.cell? p = some x) (g : ((w.alloc o).alloc o').drew.grownBy w' v.ownBlock) (h : w.ownsRow B 22 1 v n vs) (hp : p.block < B) : w'.cell? p = some x := by
  have hlt : p.block < w.heap.size := World.block_lt_of_cell? w p hc
  have e1 : w'.heap[p.block]? = w.heap[p.block]? := by
    rw [g.block p.block (by show _ < ((w.alloc o).alloc o').heap.size; simp; omega) (fun e => by have := (h.lt _ e.symm).1; omega)]
    show ((w.alloc o).alloc o').heap[p.block]? = _
    rw [Below.heap_alloc _ _ _ (by simp; omega), Below.heap_alloc _ _ _ hlt]
  rw [World.cell?_of_block (w := w) e1]; exact hc
theorem At.cells_of {w : World} {a : Option Addr} {xs : List Int} (h : At w a xs) {k : Nat} (hk : k < xs.length) : ∃ b off, a = some ⟨b, off, none⟩ ∧ b < w.heap.size ∧ Cells w b off xs := by
  rcases h with rfl | h
  · simp at hk
  · exact h
/-- What a call that hands back pairs leaves. -/
def Gives2 (w : World) (LL : List (List Int)) (e : Ending) (w' : World) : Prop := ∃ v, e = .returned v ∧ Own2 w' w.heap.size v LL ∧ Below w.heap.size w w'
theorem at_one (W : World) (x : Int) : At (W.alloc (.cells #[.int .i64 x] 3)) (some ⟨W.heap.size, 0, none⟩) [x] := by
  refine .inr ⟨_, 0, rfl, by simp, fun j hj => ?_⟩
  have : j = 0 := by simp at hj; omega
  subst this
  exact (Blk.new W 3 #[.int .i64 x]).cell 0 rfl
theorem Own2.lower {w : World} {B B' : Nat} {v : Value} {LL : List (List Int)} (h : Own2 w B v LL) (hB : B' ≤ B) : Own2 w B' v LL := by
  obtain ⟨vs, ho, hi⟩ := h
  refine ⟨vs, ⟨ho.1, ?_⟩, hi⟩
  rcases ho.2 with hn | ⟨g, cap, cur, e, hg, rest⟩
  · exact .inl hn
  · exact .inr ⟨g, cap, cur, e, Nat.le_trans hB hg, rest⟩
theorem mcell_at2 {W : World} {b : Nat} {m : Mach} {l : ML} (h : Blk W b 25 (mcells m l)) : W.cell? ⟨b, 0, none⟩ = some (.int .i64 m.st) ∧ W.cell? ⟨b, 1, none⟩ = some (.int .i64 m.ev) ∧ W.cell? ⟨b, 2, none⟩ = some (.slice l.a1 m.starts.length l.c1) ∧ W.cell? ⟨b, 3, none⟩ = some (.slice l.a2 m.arrows.length l.c2) ∧ W.cell? ⟨b, 4, none⟩ = some (.slice l.a3 m.ends.length l.c3) :=
  ⟨h.cell 0 rfl, h.cell 1 rfl, h.cell 2 rfl, h.cell 3 rfl, h.cell 4 rfl⟩

end Go.Proofs.YtialjbdfkhfcoabDoor
namespace Go.Proofs.YtialjbdfkhfcoabDoor
open Go.RowKit
set_option linter.unusedVariables false

section
variable {P : Program} (w : World)
theorem run_append_block (base : Nat) (t ty e : TypeId) (i : TypeInfo) (z : Value) (size bytes : Nat) (ht : P.underlying t = some (.slice e)) (hi : P.info? e = some i) (hz : i.zero = some z)
    (hsize : i.size = size) (hby : i.bytes = bytes) (hzs : z.cells.size = size) (hsz : 0 < size)
    (v : Value) (n : Nat) (xs : List Value) (hown : w.ownsRow base e size v n xs)
    (a : Addr) (m c : Nat) (news : List Value) (hl : news.length = m * size) (hnews : ∀ j u, news[j]? = some u → w.cell? (a.add j) = some u) (h1 : ∀ u ∈ news, u.oneCell' = true)
    (hm : 0 < m) (h63 : n + m ≤ maxLen) (hbytes : (n + m) * bytes ≤ 140737488355328) (hbase : base ≤ w.heap.size) :
    ∃ v' w', (Builtin.append_ #[t, t] ty #[v, .slice (some a) m c]).run P w = .ok v' w' ∧ w'.ownsRow base e size v' (n + m) (xs ++ news) ∧ w.grownBy w' v.ownBlock ∧ (v'.ownBlock = v.ownBlock ∨ v'.ownBlock = some w.heap.size) := by
  obtain ⟨v', w', hrun, h2, h3, -⟩ := run_append_own (P := P) w base t ty e i z size bytes ht hi hz hsize hby hzs hsz v n xs hown a m c news hl hnews h1 h63 hbytes hbase
  refine ⟨v', w', hrun, h2, h3, ?_⟩
  have h9 : n + m ≤ 9223372036854775807 := by simp only [maxLen] at h63; omega
  subst hsize
  subst hby
  rcases hown.2 with ⟨rfl, rfl⟩ | ⟨g, cap, cur, rfl, hbg, hg, hnc, hcm, hcs, htake⟩
  · have hr := run_append_nil (P := P) w t ty e i z ht hi hz a m c news hl hnews hm (by omega) (by have hb := hbytes; simp only [Nat.zero_add] at hb; omega)
    rw [hrun] at hr
    injection hr with e1 e2
    right; rw [e1]; rfl
  · by_cases hroom : n + m ≤ cap
    · have hr := run_append_room (P := P) w t ty e i ht hi g n cap cur hg a m c news hl hnews h1 hroom (by rw [hl, hcs, ← Nat.add_mul]; exact Nat.mul_le_mul_right _ hroom)
      rw [hrun] at hr
      injection hr with e1 e2
      left; rw [e1]; rfl
    · have hr := run_append_grow (P := P) w t ty e i z ht hi hz ⟨g, 0, none⟩ n cap xs hown.1 (hown.cells (g := g) rfl) a m c news hl hnews (by omega) (by omega) (growslice_fits (by omega) hbytes)
      rw [hrun] at hr
      injection hr with e1 e2
      right; rw [e1]; rfl

theorem wpList_append_block {ops : Array Oper} {rest : List Oper} {o : Oper} {a : Act} {Q : Exit → Act → World → Prop} (hgd : o.guard = none) (s x : Operand) (t : TypeId)
    (ho : o.op = .call { callee := .builtin .append, args := #[s, x], argTypes := #[t, t] })
    (base : Nat) (e : TypeId) (i : TypeInfo) (z : Value) (size bytes : Nat) (ht : P.underlying t = some (.slice e)) (hi : P.info? e = some i) (hz : i.zero = some z)
    (hsize : i.size = size) (hby : i.bytes = bytes) (hzs : z.cells.size = size) (hsz : 0 < size)
    (v : Value) (n : Nat) (xs : List Value) (hs : a.eval s = v) (hown : w.ownsRow base e size v n xs)
    (ad : Addr) (m c : Nat) (news : List Value) (hx : a.eval x = .slice (some ad) m c) (hl : news.length = m * size) (hnews : ∀ j u, news[j]? = some u → w.cell? (ad.add j) = some u) (h1 : ∀ u ∈ news, u.oneCell' = true)
    (hm : 0 < m) (h63 : n + m ≤ maxLen) (hbytes : (n + m) * bytes ≤ 140737488355328) (hbase : base ≤ w.heap.size)
    (h : ∀ v' w', w'.ownsRow base e size v' (n + m) (xs ++ news) → w.grownBy w' v.ownBlock → (v'.ownBlock = v.ownBlock ∨ v'.ownBlock = some w.heap.size) → wpList P ops Q rest (a.put o.dst v') w') : wpList P ops Q (o :: rest) a w := by
  obtain ⟨v', w', hr, h2, h3, h4⟩ := run_append_block (P := P) w base t o.type e i z size bytes ht hi hz hsize hby hzs hsz v n xs hown ad m c news hl hnews h1 hm h63 hbytes hbase
  refine wpList_plain hgd fun _ hK => ?_
  unfold Oper.wp execOp
  simp only [ho, resolve, invoke, builtin, Sem.run_bind, Sem.run_pure, Result.andThen_ok, List.map_toArray, List.map_cons, List.map_nil, hs, hx, hr]
  exact hK _ _ (h v' w' h2 h3 h4)
end

section
variable {P : Program} {ops : Array Oper} {o : Oper} {a : Act} {w : World} {K : Act → World → Prop} {Q : Exit → Act → World → Prop} {E : Prop}
/-- The same, as one step of a region that draws. -/
theorem step_append_block (hg : o.guard = none) (s x : Operand) (t : TypeId) (hop : o.op = Op.call { callee := Callee.builtin Builtin.append, args := #[s, x], argTypes := #[t, t] })
    (base : Nat) (e : TypeId) (i : TypeInfo) (z : Value) (size bytes : Nat) (h1 : P.underlying t = some (.slice e)) (h2 : P.info? e = some i) (h3 : i.zero = some z) (h4 : i.size = size) (h5 : i.bytes = bytes) (h6 : z.cells.size = size) (h7 : 0 < size)
    (v : Value) (n : Nat) (xs : List Value) (hs : a.eval s = v) (hown : w.ownsRow base e size v n xs)
    (ad : Addr) (m c : Nat) (news : List Value) (hx : a.eval x = .slice (some ad) m c) (hn : news.length = m * size) (hc : ∀ j u, news[j]? = some u → w.cell? (ad.add j) = some u) (h1c : ∀ u ∈ news, u.oneCell' = true)
    (hm : 0 < m) (b1 : n + m ≤ maxLen) (b2 : (n + m) * bytes ≤ 140737488355328) (hbase : base ≤ w.heap.size)
    (hK : ∀ v' w', w'.ownsRow base e size v' (n + m) (xs ++ news) → w.grownBy w' v.ownBlock → (v'.ownBlock = v.ownBlock ∨ v'.ownBlock = some w.heap.size) → K (a.put o.dst v') w') :
    if Region.wanted o (yielded ops a.tmps) = true then Oper.wp P o a w K Q else E := by
  have hw : Region.wanted o (yielded ops a.tmps) = true := by simp [Region.wanted, hg]
  rw [if_pos hw]
  obtain ⟨v', w', hrun, r1, r2, r3⟩ := run_append_block (P := P) w base t o.type e i z size bytes h1 h2 h3 h4 h5 h6 h7 v n xs hown ad m c news hn hc h1c hm b1 b2 hbase
  unfold Oper.wp
  simp [execOp, hop, resolve, invoke, builtin, hs, hx, hrun, Result.andThen]
  exact hK v' w' r1 r2 r3
end

end Go.Proofs.YtialjbdfkhfcoabDoor
namespace Go.Proofs.YtialjbdfkhfcoabDoor
open Go.RowKit
set_option linter.unusedVariables false

/-- All blocks of X but b are as they were. -/
structure Kp (b : Nat) (X W : World) : Prop where
  size : X.heap.size ≤ W.heap.size
  same : ∀ k, k < X.heap.size → k ≠ b → W.heap[k]? = X.heap[k]?
theorem Kp.refl (b : Nat) (X : World) : Kp b X X := ⟨Nat.le_refl _, fun _ _ _ => rfl⟩
theorem Kp.alloc {b : Nat} {X W : World} (h : Kp b X W) (o : Obj) : Kp b X (W.alloc o) :=
  ⟨by rw [World.size_alloc]; exact Nat.le_succ_of_le h.size, fun k hk hne => (Below.heap_alloc W o k (Nat.lt_of_lt_of_le hk h.size)).trans (h.same k hk hne)⟩
theorem Kp.set {b : Nat} {X W : World} (h : Kp b X W) (j : Nat) (v : Value) : Kp b X (W.setCell ⟨b, j, none⟩ v) :=
  ⟨by simpa [World.setCell] using h.size, fun k hk hne => (Below.heap_setCell W ⟨b, j, none⟩ v k hne).trans (h.same k hk hne)⟩
theorem Kp.grown {b : Nat} {X W W' : World} {row : Option Nat} (h : Kp b X W) (g : W.grownBy W' row) (hr : ∀ k, row = some k → X.heap.size ≤ k) : Kp b X W' :=
  ⟨Nat.le_trans h.size g.size, fun k hk hne => (g.block k (Nat.lt_of_lt_of_le hk h.size) (fun e => by have := hr k e.symm; omega)).trans (h.same k hk hne)⟩
theorem Kp.blk {b k : Nat} {X W : World} {t : TypeId} {cs : Array Value} (h : Kp b X W) (hB : Blk X k t cs) (hne : k ≠ b) : Blk W k t cs := (h.same k hB.lt hne).trans hB

end Go.Proofs.YtialjbdfkhfcoabDoor
