/-
  The walks of machine.within and of its closure.
  What is said of a set of states (an array of four words) in a world. The walks of Set.With, Set.Join and Set.Meets.
  What is said of a slice of arrows that a call has made ('OwnA'): its cells, a piece of it from the front, one arrow more, another slice behind it.
  What a call leaves that hands back a slice of its own.
  What is said of a slice of slices of integers: that it reads as a list of lists ('At2'), that it is in the call's own memory ('Own2'); one row more.
-/
import Derived.Test.YtgfpjfiikajadaaDoorG05
import Derived.Test.YtgfpjfiikajadaaDoorG07
import Derived.Laws.EntriesVeiled
import Derived.Laws.Bits64b
import Derived.BigQuiet
import Derived.BigRegion
import Derived.Test.YtgfpjfiikajadaaDoorG04
import Derived.Deep.RegionHeld3
import Derived.Test.YtgfpjfiikajadaaDoorG03
import Derived.Deep.RegionLaw
namespace Go.Proofs.YtgfpjfiikajadaaDoor
open Go.RowKit
set_option linter.unusedVariables false

set_option maxHeartbeats 400000 in
theorem within_any (b : Int) (w : World) :
    Calls Tryd.prog 84 #[.int .i64 b] w fun e w' => e = .returned (.func (.func 114) #[] #[.pointer (some ⟨w.heap.size, 0, none⟩)]) ∧ w' = w.alloc (.cells #[.int .i64 b] 3) := by
  have hmf : ∀ (fn : Fn) (first cap : Array Value) (w : World), (Instr.makeFunc fn first cap).run Tryd.prog w = .ok (.func fn first cap) w := fun _ _ _ _ => rfl
  go_enter Tryd.func84, Tryd.ntmps84
  go_wp2
  go_ret
  exact ⟨rfl, rfl⟩

/-- Is a number from 0 to below a bound? -/
def inB (b n : Int) : Bool := decide (0 ≤ n ∧ n < b)

set_option maxHeartbeats 400000 in
theorem within1_any (b n : Int) (B : Nat) (w : World) (hc : w.cell? ⟨B, 0, none⟩ = some (.int .i64 b)) :
    Calls Tryd.prog 114 #[.int .i64 n, .pointer (some ⟨B, 0, none⟩)] w fun e w' => e = .returned (.bool (inB b n)) ∧ w' = w := by
  by_cases h1 : 0 ≤ n
  · by_cases h2 : n < b
    · have hr : Hid (true = inB b n) := show true = inB b n by simp [inB, h1, h2]
      have f1 : decide (0 ≤ n) = true := by simpa using h1
      have f2 : decide (n < b) = true := by simpa using h2
      go_enter Tryd.func114, Tryd.ntmps114
      go_wp2
      go_ret
      exact ⟨ret_bool hr.out, rfl⟩
    · have hr : Hid (false = inB b n) := show false = inB b n by simp [inB]; omega
      have f1 : decide (0 ≤ n) = true := by simpa using h1
      have f2 : decide (n < b) = false := by simpa using h2
      go_enter Tryd.func114, Tryd.ntmps114
      go_wp2
      go_ret
      exact ⟨ret_bool hr.out, rfl⟩
  · have hr : Hid (false = inB b n) := show false = inB b n by simp [inB]; omega
    have f1 : decide (0 ≤ n) = false := by simpa using h1
    go_enter Tryd.func114, Tryd.ntmps114
    go_wp2
    go_ret
    exact ⟨ret_bool hr.out, rfl⟩

theorem size_alloc2 (w : World) (o o' : Obj) : ((w.alloc o).alloc o').heap.size = w.heap.size + 2 := by simp

end Go.Proofs.YtgfpjfiikajadaaDoor
namespace Go.Proofs.YtgfpjfiikajadaaDoor
open Go.RowKit
set_option linter.unusedVariables false

/-- A set's cells, and its value. -/
abbrev scells (S : Nat → Nat) : Array Value := #[.int .u64 (S 0), .int .u64 (S 1), .int .u64 (S 2), .int .u64 (S 3)]
abbrev sval (S : Nat → Nat) : Value := .agg (scells S)

/-- The first k words joined. -/
def mixS (k : Nat) (S T : Nat → Nat) : Nat → Nat := fun j => if j < k then S j ||| T j else S j

theorem or_words {S T : Nat → Nat} (h : okS S) (h' : okS T) (k : Nat) : bits .or .u64 (S k : Int) (T k : Int) = ((S k ||| T k : Nat) : Int) := bits_or_u64_nat _ _ (h k) (h' k)

/-- A set's block. -/
abbrev SB (W : World) (b : Nat) (S : Nat → Nat) : Prop := Blk W b 65 (scells S)

theorem SB.cells {W : World} {b : Nat} {S : Nat → Nat} (h : SB W b S) : W.cell? ⟨b, 0, none⟩ = some (.int .u64 (S 0)) ∧ W.cell? ⟨b, 1, none⟩ = some (.int .u64 (S 1)) ∧ W.cell? ⟨b, 2, none⟩ = some (.int .u64 (S 2)) ∧ W.cell? ⟨b, 3, none⟩ = some (.int .u64 (S 3)) :=
  ⟨h.cell 0 rfl, h.cell 1 rfl, h.cell 2 rfl, h.cell 3 rfl⟩

theorem mix_step0 {S T : Nat → Nat} (h : okS S) (h' : okS T) : (scells (mixS 0 S T)).setIfInBounds 0 (.int .u64 (bits .or .u64 (mixS 0 S T 0) (T 0))) = scells (mixS 1 S T) := by
  show (#[.int .u64 (bits .or .u64 (S 0) (T 0)), .int .u64 (S 1), .int .u64 (S 2), .int .u64 (S 3)] : Array Value) = _
  rw [or_words h h']; rfl
theorem mix_step1 {S T : Nat → Nat} (h : okS S) (h' : okS T) : (scells (mixS 1 S T)).setIfInBounds 1 (.int .u64 (bits .or .u64 (mixS 1 S T 1) (T 1))) = scells (mixS 2 S T) := by
  show (#[.int .u64 (mixS 1 S T 0), .int .u64 (bits .or .u64 (S 1) (T 1)), .int .u64 (S 2), .int .u64 (S 3)] : Array Value) = _
  rw [or_words h h']; rfl
theorem mix_step2 {S T : Nat → Nat} (h : okS S) (h' : okS T) : (scells (mixS 2 S T)).setIfInBounds 2 (.int .u64 (bits .or .u64 (mixS 2 S T 2) (T 2))) = scells (mixS 3 S T) := by
  show (#[.int .u64 (mixS 2 S T 0), .int .u64 (mixS 2 S T 1), .int .u64 (bits .or .u64 (S 2) (T 2)), .int .u64 (S 3)] : Array Value) = _
  rw [or_words h h']; rfl
theorem mix_step3 {S T : Nat → Nat} (h : okS S) (h' : okS T) : (scells (mixS 3 S T)).setIfInBounds 3 (.int .u64 (bits .or .u64 (mixS 3 S T 3) (T 3))) = scells (mixS 4 S T) := by
  show (#[.int .u64 (mixS 3 S T 0), .int .u64 (mixS 3 S T 1), .int .u64 (mixS 3 S T 2), .int .u64 (bits .or .u64 (S 3) (T 3))] : Array Value) = _
  rw [or_words h h']; rfl

set_option maxHeartbeats 2000000 in
theorem join_any (S T : Nat → Nat) (w : World) (h : okS S) (h' : okS T) :
    Calls Tryd.prog 99 #[sval S, sval T] w fun e w' => e = .returned (sval (joinS S T)) ∧ Below w.heap.size w w' := by
  go_enter Tryd.func99, Tryd.ntmps99
  go_wp2
  go_loopw [6] (fun i wr => ∃ k : Nat, k ≤ 4 ∧ i = .int .i64 k ∧ SB wr w.heap.size (mixS k S T) ∧ SB wr (w.heap.size + 1) T ∧ SB wr (w.heap.size + 2) zeroS ∧ Below w.heap.size w wr) (fun i _ => 4 - (intOf i).toNat)
  case atStart =>
    refine ⟨0, by omega, rfl, ((Blk.new w _ _).alloc _).alloc _, ?_, ?_, (((Below.refl _ _).alloc (Nat.le_refl _) _).alloc (by simp) _).alloc (by simp; omega) _⟩
    · have := (Blk.new (w.alloc (.cells (scells S) 65)) 65 (scells T)).alloc (.cells (scells zeroS) 65)
      rwa [World.size_alloc] at this
    · have := (Blk.new ((w.alloc (.cells (scells S) 65)).alloc (.cells (scells T) 65)) 65 (scells zeroS))
      rwa [World.size_alloc, World.size_alloc] at this
  case round =>
    obtain ⟨k, hk, rfl, s1, s2, s3, hB⟩ := hrel
    have hk' : k = 4 ∨ k = 0 ∨ k = 1 ∨ k = 2 ∨ k = 3 := by omega
    obtain ⟨p0, p1, p2, p3⟩ := s1.cells
    obtain ⟨q0, q1, q2, q3⟩ := s2.cells
    have fz := s1.frozen
    rcases hk' with rfl | rfl | rfl | rfl | rfl
    · obtain ⟨r0, r1, r2, r3⟩ := s3.cells
      have fz3 := s3.frozen
      have e4 : Hid (scells (mixS 4 S T) = scells (joinS S T)) := rfl
      have k1 := (((s3.set 0 (.int .u64 (mixS 4 S T 0))).set 1 (.int .u64 (mixS 4 S T 1))).set 2 (.int .u64 (mixS 4 S T 2))).set 3 (.int .u64 (mixS 4 S T 3))
      have k2 := Hid.of k1
      clear k1
      go_wp2
      have k1 := k2.out
      refine bodyPost_ret (v := sval (joinS S T)) ?_ rfl ⟨rfl, (((hB.setCell (p := ⟨w.heap.size + 1 + 1, 0, none⟩) (by simp; omega) _).setCell (p := ⟨w.heap.size + 1 + 1, 1, none⟩) (by simp; omega) _).setCell (p := ⟨w.heap.size + 1 + 1, 2, none⟩) (by simp; omega) _).setCell (p := ⟨w.heap.size + 1 + 1, 3, none⟩) (by simp; omega) _⟩
      exact results_cell_row (g := w.heap.size + 2) (p := 4) rfl _ _ _ _ _ _ rfl k1 Tryd.underlying65 rfl (by kernel_rfl)
    · go_wp2
      go_region
      go_wp2
      exact ⟨⟨1, by omega, rfl, (by have := s1.set 0 (.int .u64 (bits .or .u64 (mixS 0 S T 0) (T 0))); rwa [mix_step0 h h'] at this), s2.other (by omega) _, s3.other (by omega) _, (hB.setCell (p := ⟨w.heap.size, 0, none⟩) (by simp) _).drew⟩, by simp [intOf]⟩
    · go_wp2
      go_region
      go_wp2
      exact ⟨⟨2, by omega, rfl, (by have := s1.set 1 (.int .u64 (bits .or .u64 (mixS 1 S T 1) (T 1))); rwa [mix_step1 h h'] at this), s2.other (by omega) _, s3.other (by omega) _, (hB.setCell (p := ⟨w.heap.size, 1, none⟩) (by simp) _).drew⟩, by simp [intOf]⟩
    · go_wp2
      go_region
      go_wp2
      exact ⟨⟨3, by omega, rfl, (by have := s1.set 2 (.int .u64 (bits .or .u64 (mixS 2 S T 2) (T 2))); rwa [mix_step2 h h'] at this), s2.other (by omega) _, s3.other (by omega) _, (hB.setCell (p := ⟨w.heap.size, 2, none⟩) (by simp) _).drew⟩, by simp [intOf]⟩
    · go_wp2
      go_region
      go_wp2
      exact ⟨⟨4, by omega, rfl, (by have := s1.set 3 (.int .u64 (bits .or .u64 (mixS 3 S T 3) (T 3))); rwa [mix_step3 h h'] at this), s2.other (by omega) _, s3.other (by omega) _, (hB.setCell (p := ⟨w.heap.size, 3, none⟩) (by simp) _).drew⟩, by simp [intOf]⟩

end Go.Proofs.YtgfpjfiikajadaaDoor
namespace Go.Proofs.YtgfpjfiikajadaaDoor
open Go.RowKit
set_option linter.unusedVariables false

theorem Tryd.infoArrow : (Tryd.prog.info? 61).map (fun i => (i.zero, i.size, i.bytes)) = some (some (aval arr0), 3, 24) := by kernel_rfl

def aflat : List Arr → List Value
  | [] => []
  | a :: r => .int .i64 a.f :: .int .i64 a.e :: .int .i64 a.t :: aflat r

theorem aflat_len : ∀ L : List Arr, (aflat L).length = L.length * 3
  | [] => rfl
  | a :: r => by simp only [aflat, List.length_cons, aflat_len r]; omega
theorem aflat_append : ∀ L M : List Arr, aflat (L ++ M) = aflat L ++ aflat M
  | [], M => rfl
  | a :: r, M => by simp only [List.cons_append, aflat, aflat_append r M]
theorem aflat_take : ∀ (L : List Arr) (p : Nat), (aflat L).take (p * 3) = aflat (L.take p)
  | [], p => by simp [aflat]
  | a :: r, 0 => by simp [aflat]
  | a :: r, p + 1 => by rw [show (p + 1) * 3 = p * 3 + 1 + 1 + 1 by omega]; simp only [aflat, List.take_succ_cons, aflat_take r p]
theorem aflat_at : ∀ {L : List Arr} {k : Nat}, k < L.length → (aflat L)[k * 3]? = some (.int .i64 (L[k]?.getD arr0).f) ∧ (aflat L)[k * 3 + 1]? = some (.int .i64 (L[k]?.getD arr0).e) ∧ (aflat L)[k * 3 + 2]? = some (.int .i64 (L[k]?.getD arr0).t)
  | [], k, h => by simp at h
  | a :: r, 0, _ => by simp [aflat]
  | a :: r, k + 1, h => by
    have := aflat_at (L := r) (k := k) (by simpa using h)
    rw [show (k + 1) * 3 = k * 3 + 1 + 1 + 1 by omega]
    simpa [aflat] using this

/-- The slice v is in memory made from block B on, and holds the arrows L. -/
def OwnA (w : World) (B : Nat) (v : Value) (L : List Arr) : Prop := w.ownsRow B 61 3 v L.length (aflat L)

theorem ownA_nil (w : World) (B : Nat) : OwnA w B (.slice none 0 0) [] := World.ownsRow_nil _ _ _ _
theorem ownA_empty (w : World) (B : Nat) (h : B ≤ w.heap.size) : OwnA (w.alloc (.cells #[] 61)) B (.slice (some ⟨w.heap.size, 0, none⟩) 0 0) [] := World.ownsRow_lit w #[] 0 h (Nat.zero_le _) rfl

theorem addr0_add (g j : Nat) : (⟨g, 0, none⟩ : Addr).add j = ⟨g, 0 + j, none⟩ := by unfold Addr.add; split <;> simp_all

theorem OwnA.forms {w : World} {B : Nat} {v : Value} {L : List Arr} (h : OwnA w B v L) : (v = .slice none 0 0 ∧ L = []) ∨ ∃ g cap, v = .slice (some ⟨g, 0, none⟩) L.length cap ∧ B ≤ g ∧ g < w.heap.size ∧ CellsA w g 0 L ∧ L.length ≤ cap ∧ cap ≤ maxLen := by
  rcases h.2 with ⟨rfl, hn⟩ | ⟨g, cap, cur, rfl, hg, hh, hnc, hcm, hcs, ht⟩
  · exact .inl ⟨rfl, List.eq_nil_of_length_eq_zero hn⟩
  · refine .inr ⟨g, cap, rfl, hg, (Array.getElem?_eq_some_iff.1 hh).1, fun j hj => ?_, hnc, hcm⟩
    obtain ⟨h1, h2, h3⟩ := aflat_at hj
    have c1 := h.cells (g := g) rfl _ _ h1
    have c2 := h.cells (g := g) rfl _ _ h2
    have c3 := h.cells (g := g) rfl _ _ h3
    rw [addr0_add] at c1 c2 c3
    exact ⟨c1, c2, c3⟩

theorem OwnA.at {w : World} {B : Nat} {v : Value} {L : List Arr} (h : OwnA w B v L) : ∃ a cap, v = .slice a L.length cap ∧ AtA w a L ∧ L.length ≤ cap ∧ cap ≤ maxLen ∧ (a = none → cap = 0) := by
  rcases h.forms with ⟨rfl, rfl⟩ | ⟨g, cap, rfl, _, hg, hc, h1, h2⟩
  · exact ⟨none, 0, rfl, .inl rfl, Nat.le_refl _, Nat.zero_le _, fun _ => rfl⟩
  · exact ⟨some ⟨g, 0, none⟩, cap, rfl, .inr ⟨g, 0, rfl, hg, hc⟩, h1, h2, fun h => by cases h⟩

theorem OwnA.take {w : World} {B g n cap : Nat} {L : List Arr} (h : OwnA w B (.slice (some ⟨g, 0, none⟩) n cap) L) {p : Nat} (hp : p ≤ L.length) : OwnA w B (.slice (some ⟨g, 0, none⟩) p cap) (L.take p) := by
  have hl : (L.take p).length = p := by rw [List.length_take]; omega
  rcases h.2 with ⟨h0, _⟩ | ⟨g', cap', cur, h0, hg, hh, hnc, hcm, hcs, ht⟩
  · simp at h0
  · simp only [Value.slice.injEq, Option.some.injEq, Addr.mk.injEq, and_true] at h0
    obtain ⟨rfl, rfl, rfl⟩ := h0
    refine ⟨by rw [aflat_len], .inr ⟨g, cap, cur, by rw [hl], hg, hh, by omega, hcm, hcs, ?_⟩⟩
    rw [hl, ← aflat_take, ← ht, List.take_take]
    congr 1
    omega

theorem OwnA.kept {w w' : World} {B B' : Nat} {v : Value} {L : List Arr} (h : OwnA w B v L) (hb : Below B' w w') (hB : w.heap.size ≤ B') : OwnA w' B v L := by
  refine ⟨h.1, ?_⟩
  rcases h.2 with hn | ⟨g, cap, cur, rfl, hg, hgg, rest⟩
  · exact .inl hn
  · exact .inr ⟨g, cap, cur, rfl, hg, (hb.block g (Nat.lt_of_lt_of_le (Array.getElem?_eq_some_iff.1 hgg).1 hB)).trans hgg, rest⟩

theorem cells_news {w : World} {b off : Nat} {M : List Arr} (hc : CellsA w b off M) : ∀ j u, (aflat M)[j]? = some u → w.cell? ((⟨b, off, none⟩ : Addr).add j) = some u := by
  intro j u hu
  have hj : j < M.length * 3 := by rw [← aflat_len]; exact (List.getElem?_eq_some_iff.1 hu).1
  have hk : j / 3 < M.length := by omega
  obtain ⟨h1, h2, h3⟩ := aflat_at hk
  obtain ⟨c1, c2, c3⟩ := hc _ hk
  have ha : (⟨b, off, none⟩ : Addr).add j = ⟨b, off + j, none⟩ := by unfold Addr.add; split <;> simp_all
  rw [ha]
  have hm : j % 3 = 0 ∨ j % 3 = 1 ∨ j % 3 = 2 := by omega
  rcases hm with hm | hm | hm
  · have e : j / 3 * 3 = j := by omega
    rw [e] at h1 c1
    rw [hu] at h1
    rw [c1, h1]
  · have e : j / 3 * 3 + 1 = j := by omega
    rw [e] at h2
    rw [show off + j / 3 * 3 + 1 = off + j by omega] at c2
    rw [hu] at h2
    rw [c2, h2]
  · have e : j / 3 * 3 + 2 = j := by omega
    rw [e] at h3
    rw [show off + j / 3 * 3 + 2 = off + j by omega] at c3
    rw [hu] at h3
    rw [c3, h3]
theorem aflat_one : ∀ (M : List Arr), ∀ u ∈ aflat M, u.oneCell' = true
  | [], u, h => by simp [aflat] at h
  | a :: r, u, h => by
    simp only [aflat, List.mem_cons] at h
    rcases h with rfl | rfl | rfl | h
    · rfl
    · rfl
    · rfl
    · exact aflat_one r u h

section
variable {P : Program} {ops : Array Oper} {o : Oper} {a : Act} {w : World} {K : Act → World → Prop} {Q : Exit → Act → World → Prop} {E : Prop}

/-- append onto a row of the call's own, as one step of a region that draws. -/
theorem step_append_own (hg : o.guard = none) (s x : Operand) (t : TypeId) (hop : o.op = Op.call { callee := Callee.builtin Builtin.append, args := #[s, x], argTypes := #[t, t] })
    (base : Nat) (e : TypeId) (i : TypeInfo) (z : Value) (size bytes : Nat) (h1 : P.underlying t = some (.slice e)) (h2 : P.info? e = some i) (h3 : i.zero = some z) (h4 : i.size = size) (h5 : i.bytes = bytes) (h6 : z.cells.size = size) (h7 : 0 < size)
    (v : Value) (n : Nat) (xs : List Value) (hs : a.eval s = v) (hown : w.ownsRow base e size v n xs)
    (ad : Addr) (m c : Nat) (news : List Value) (hx : a.eval x = .slice (some ad) m c) (hn : news.length = m * size) (hc : ∀ j u, news[j]? = some u → w.cell? (ad.add j) = some u) (h1c : ∀ u ∈ news, u.oneCell' = true)
    (b1 : n + m ≤ maxLen) (b2 : (n + m) * bytes ≤ 140737488355328) (hbase : base ≤ w.heap.size)
    (hK : ∀ v' w', w'.ownsRow base e size v' (n + m) (xs ++ news) → w.grownBy w' v.ownBlock → K (a.put o.dst v') w') :
    if Region.wanted o (yielded ops a.tmps) = true then Oper.wp P o a w K Q else E := by
  have hw : Region.wanted o (yielded ops a.tmps) = true := by simp [Region.wanted, hg]
  rw [if_pos hw]
  obtain ⟨v', w', hrun, r1, r2, _⟩ := run_append_own (P := P) w base t o.type e i z size bytes h1 h2 h3 h4 h5 h6 h7 v n xs hown ad m c news hn hc h1c b1 b2 hbase
  unfold Oper.wp
  simp [execOp, hop, resolve, invoke, builtin, hs, hx, hrun, Result.andThen]
  exact hK v' w' r1 r2
end

theorem cell_three_new (w : World) (a b c : Value) (T : TypeId) : ∀ j u, [a, b, c][j]? = some u → (w.alloc (.cells #[a, b, c] T)).cell? ((⟨w.heap.size, 0, none⟩ : Addr).add j) = some u := by
  intro j u hu
  rw [addr0_add, Nat.zero_add, World.cell?_alloc_at _ _ _ _ rfl]
  match j, hu with
  | 0, hu => simpa using hu
  | 1, hu => simpa using hu
  | 2, hu => simpa using hu
  | j + 3, hu => simp at hu

section
variable {P : Program} (w : World)
theorem wp_append_nilA {o : Oper} {a : Act} {K : Act → World → Prop} {Q : Exit → Act → World → Prop} (s x : Operand) (t : TypeId)
    (ho : o.op = .call { callee := .builtin .append, args := #[s, x], argTypes := #[t, t] })
    (base : Nat) (e : TypeId) (i : TypeInfo) (size : Nat) (ht : P.underlying t = some (.slice e)) (hi : P.info? e = some i)
    (v : Value) (n : Nat) (xs : List Value) (hs : a.eval s = v) (hown : w.ownsRow base e size v n xs) (hx : a.eval x = .slice none 0 0)
    (h : K (a.put o.dst v) w) : o.wp P a w K Q := by
  have hr := run_append_owned_none (P := P) w base t o.type e i size ht hi v n xs hown
  unfold Oper.wp execOp
  simp only [ho, resolve, invoke, builtin, Sem.run_bind, Sem.run_pure, Result.andThen_ok, List.map_toArray, List.map_cons, List.map_nil, hs, hx, hr]
  exact h

/-- append(v, y...): v is a row of arrows of the call's own, y any slice of arrows (nil among them). -/
theorem wpList_append_arrs {ops : Array Oper} {rest : List Oper} {o : Oper} {a : Act} {Q : Exit → Act → World → Prop} (hgd : o.guard = none) (s x : Operand) (t : TypeId)
    (ho : o.op = .call { callee := .builtin .append, args := #[s, x], argTypes := #[t, t] })
    (B : Nat) (i : TypeInfo) (ht : P.underlying t = some (.slice 61)) (hi : P.info? 61 = some i) (hz : i.zero = some (aval arr0)) (hsize : i.size = 3) (hby : i.bytes = 24)
    (v : Value) (L : List Arr) (hs : a.eval s = v) (hown : OwnA w B v L)
    (ad : Option Addr) (c : Nat) (ys : List Arr) (hx : a.eval x = .slice ad ys.length c) (hat : AtA w ad ys) (hnil : ad = none → c = 0)
    (hroom : (L.length + ys.length) * 24 ≤ 140737488355328) (hbase : B ≤ w.heap.size)
    (h : ∀ v' w', OwnA w' B v' (L ++ ys) → w.grownBy w' v.ownBlock → (v ≠ .slice none 0 0 → v' ≠ .slice none 0 0) → wpList P ops Q rest (a.put o.dst v') w') : wpList P ops Q (o :: rest) a w := by
  cases ad with
  | none =>
    have hy : ys = [] := by
      rcases hat with h | ⟨b, off, h, _⟩
      · exact h
      · cases h
    subst hy
    rw [hnil rfl] at hx
    refine wpList_plain hgd fun _ hK => wp_append_nilA w s x t ho B 61 i 3 ht hi v _ _ hs hown hx (hK _ _ (h v w ?_ ⟨rfl, rfl, rfl, Nat.le_refl _, fun _ _ _ => rfl⟩ (fun h => h)))
    rw [List.append_nil]; exact hown
  | some ad =>
    refine wpList_append_own w hgd s x t ho B 61 i (aval arr0) 3 24 ht hi hz hsize hby rfl (by decide) v _ _ hs hown ad ys.length c (aflat ys) hx (aflat_len ys) ?_ (aflat_one ys) (by unfold maxLen; omega) hroom hbase ?_
    · rcases hat with h0 | ⟨b, off, h0, _, hc⟩
      · subst h0; intro j u hu; simp [aflat] at hu
      · cases h0; exact cells_news hc
    · intro v' w' ho' hg hnn
      refine h v' w' ?_ hg (fun hv hv' => hv (hnn.1 hv').1)
      unfold OwnA
      rw [List.length_append, aflat_append]
      exact ho'
end

end Go.Proofs.YtgfpjfiikajadaaDoor
namespace Go.Proofs.YtgfpjfiikajadaaDoor
open Go.RowKit
set_option linter.unusedVariables false

/-- What a call leaves that hands back a slice of its own. -/
def GivesO (w : World) (xs : List Int) (e : Ending) (w' : World) : Prop := ∃ v, e = .returned v ∧ Own w' w.heap.size v xs ∧ Below w.heap.size w w'
theorem Own.at2 {w : World} {B : Nat} {v : Value} {xs : List Int} (h : Own w B v xs) : ∃ a cap, v = .slice a xs.length cap ∧ At w a xs ∧ xs.length ≤ cap ∧ cap ≤ maxLen ∧ (a = none → cap = 0) := by
  obtain ⟨a, cap, e, h1, -⟩ := h.at
  rcases h.2 with ⟨rfl, hn⟩ | ⟨g, cap', cur, rfl, hg, hh, hnc, hcm, hcs, ht⟩
  · have : xs = [] := List.eq_nil_of_length_eq_zero hn
    subst this
    exact ⟨none, 0, rfl, .inl rfl, Nat.le_refl _, Nat.zero_le _, fun _ => rfl⟩
  · cases e
    exact ⟨_, _, rfl, h1, hnc, hcm, fun h => by cases h⟩

end Go.Proofs.YtgfpjfiikajadaaDoor
namespace Go.Proofs.YtgfpjfiikajadaaDoor
open Go.RowKit
set_option linter.unusedVariables false

theorem Tryd.infoInts : (Tryd.prog.info? 22).map (fun i => (i.zero, i.size, i.bytes)) = some (some (.slice none 0 0), 1, 24) := by kernel_rfl

/-- A slice of slices reads as a list of lists. -/
def At2 (w : World) (a : Option Addr) (LL : List (List Int)) : Prop :=
  LL = [] ∨ ∃ b off, a = some ⟨b, off, none⟩ ∧ b < w.heap.size ∧ ∀ (k : Nat) (xs : List Int), LL[k]? = some xs → ∃ a' c', w.cell? ⟨b, off + k, none⟩ = some (.slice a' xs.length c') ∧ At w a' xs ∧ xs.length ≤ maxLen
theorem At2.below {w w' : World} {a : Option Addr} {LL : List (List Int)} {B : Nat} (h : At2 w a LL) (hb : Below B w w') (hB : w.heap.size ≤ B) : At2 w' a LL := by
  rcases h with h | ⟨b, off, rfl, hlt, hc⟩
  · exact .inl h
  · refine .inr ⟨b, off, rfl, Nat.lt_of_lt_of_le hlt hb.size, fun k xs hk => ?_⟩
    obtain ⟨a', c', h1, h2, h3⟩ := hc k xs hk
    exact ⟨a', c', (hb.cell (p := ⟨b, off + k, none⟩) (Nat.lt_of_lt_of_le hlt hB)).trans h1, h2.below hb hB, h3⟩
theorem At2.drewN {w : World} {a : Option Addr} {LL : List (List Int)} (h : At2 w a LL) (m : Nat) : At2 (w.drewN m) a LL := h

/-- An inner slice: it lies in a block of integers. -/
def InnB (w : World) (v : Value) (xs : List Int) : Prop := ∃ a c, v = .slice a xs.length c ∧ xs.length ≤ c ∧ c ≤ maxLen ∧ (xs = [] ∨ ∃ (g o : Nat) (cs : Array Value), a = some ⟨g, o, none⟩ ∧ w.heap[g]? = some (Obj.cells cs 3 (0, 0)) ∧ ∀ j, j < xs.length → cs[o + j]? = some (.int .i64 (xs.getD j 0)))
theorem InnB.one {w : World} {v : Value} {xs : List Int} (h : InnB w v xs) : v.oneCell' = true := by
  obtain ⟨a, c, rfl, -⟩ := h; rfl
theorem InnB.kept {w w' : World} {v : Value} {xs : List Int} (h : InnB w v xs) (hk : ∀ (g : Nat) (cs : Array Value), w.heap[g]? = some (Obj.cells cs 3 (0, 0)) → w'.heap[g]? = w.heap[g]?) : InnB w' v xs := by
  obtain ⟨a, c, h1, h2, h3, h4⟩ := h
  refine ⟨a, c, h1, h2, h3, ?_⟩
  rcases h4 with h4 | ⟨k, o, cs, e, hh, hc⟩
  · exact .inl h4
  · exact .inr ⟨k, o, cs, e, (hk k cs hh).trans hh, hc⟩
theorem InnB.below {w w' : World} {v : Value} {xs : List Int} (h : InnB w v xs) (hb : Below w.heap.size w w') : InnB w' v xs :=
  h.kept fun g cs hg => hb.block g (Array.getElem?_eq_some_iff.1 hg).1
theorem InnB.at {w : World} {v : Value} {xs : List Int} (h : InnB w v xs) : ∃ a c, v = .slice a xs.length c ∧ At w a xs ∧ xs.length ≤ maxLen := by
  obtain ⟨a, c, h1, h2, h3, h4⟩ := h
  refine ⟨a, c, h1, ?_, Nat.le_trans h2 h3⟩
  rcases h4 with h4 | ⟨k, o, cs, e, hh, hc⟩
  · exact .inl h4
  · refine .inr ⟨k, o, e, (Array.getElem?_eq_some_iff.1 hh).1, fun j hj => ?_⟩
    simp [World.cell?, hh, hc j hj]

/-- The slice of slices v is in memory made from block B on, and holds LL. -/
def Own2 (w : World) (B : Nat) (v : Value) (LL : List (List Int)) : Prop := ∃ vs : List Value, w.ownsRow B 22 1 v LL.length vs ∧ ∀ (j : Nat) (x : Value) (xs : List Int), vs[j]? = some x → LL[j]? = some xs → InnB w x xs
theorem own2_nil (w : World) (B : Nat) : Own2 w B (.slice none 0 0) [] := ⟨[], World.ownsRow_nil _ _ _ _, fun j x xs h => by simp at h⟩
theorem Own2.at {w : World} {B : Nat} {v : Value} {LL : List (List Int)} (h : Own2 w B v LL) : ∃ a cap, v = .slice a LL.length cap ∧ At2 w a LL ∧ LL.length ≤ cap ∧ cap ≤ maxLen ∧ (a = none → cap = 0) := by
  obtain ⟨vs, ho, hi⟩ := h
  rcases ho.2 with ⟨rfl, hn⟩ | ⟨g, cap, cur, rfl, hg, hh, hnc, hcm, hcs, ht⟩
  · have : LL = [] := List.eq_nil_of_length_eq_zero hn
    subst this
    exact ⟨none, 0, rfl, .inl rfl, Nat.le_refl _, Nat.zero_le _, fun _ => rfl⟩
  · refine ⟨some ⟨g, 0, none⟩, cap, rfl, .inr ⟨g, 0, rfl, (Array.getElem?_eq_some_iff.1 hh).1, fun k xs hk => ?_⟩, hnc, hcm, fun h => by cases h⟩
    have hlt : k < vs.length := by rw [ho.1, Nat.mul_one]; exact (List.getElem?_eq_some_iff.1 hk).1
    have hx := List.getElem?_eq_getElem hlt
    obtain ⟨a, c, e, h1, h2⟩ := (hi k _ xs hx hk).at
    have hc := ho.cells (g := g) rfl k _ hx
    rw [show (⟨g, 0, none⟩ : Addr).add k = ⟨g, 0 + k, none⟩ from by unfold Addr.add; split <;> simp_all, e] at hc
    exact ⟨a, c, hc, h1, h2⟩
theorem Own2.below {w w' : World} {B : Nat} {v : Value} {LL : List (List Int)} (h : Own2 w B v LL) (hb : Below w.heap.size w w') : Own2 w' B v LL := by
  obtain ⟨vs, ho, hi⟩ := h
  refine ⟨vs, ⟨ho.1, ?_⟩, fun j x xs h1 h2 => (hi j x xs h1 h2).below hb⟩
  rcases ho.2 with hn | ⟨g, cap, cur, rfl, hg, hgg, rest⟩
  · exact .inl hn
  · exact .inr ⟨g, cap, cur, rfl, hg, (hb.block g (Array.getElem?_eq_some_iff.1 hgg).1).trans hgg, rest⟩
theorem Own2.alloc {w : World} {B : Nat} {v : Value} {LL : List (List Int)} (h : Own2 w B v LL) (o : Obj) : Own2 (w.alloc o) B v LL := h.below ((Below.refl _ _).alloc (Nat.le_refl _) o)
theorem Own2.drewN {w : World} {B : Nat} {v : Value} {LL : List (List Int)} (h : Own2 w B v LL) (m : Nat) : Own2 (w.drewN m) B v LL := h
theorem Own2.lt {w : World} {B : Nat} {v : Value} {LL : List (List Int)} (h : Own2 w B v LL) : ∀ k, v.ownBlock = some k → B ≤ k := fun k hk => by
  obtain ⟨vs, ho, -⟩ := h
  exact (ho.lt k hk).1
/-- A block that is not of slices is none of its own. -/
theorem Own2.apart {w : World} {B : Nat} {v : Value} {LL : List (List Int)} (h : Own2 w B v LL) {g : Nat} {t : TypeId} {cs : Array Value} (hg : w.heap[g]? = some (.cells cs t (0, 0))) (ht : t ≠ 22) : some g ≠ v.ownBlock := by
  intro e
  obtain ⟨vs, ho, -⟩ := h
  rcases ho.2 with ⟨rfl, hn⟩ | ⟨g', cap, cur, rfl, hg', hh, rest⟩
  · cases e
  · have : g = g' := Option.some.inj e
    subst this
    rw [hg] at hh
    cases hh
    exact ht rfl

/-- One row more: behind an append onto the call's own row. -/
theorem Own2.snoc {w w' : World} {B : Nat} {v v' x : Value} {LL : List (List Int)} {xs : List Int} {vs : List Value} (hown : w.ownsRow B 22 1 v LL.length vs) (hi : ∀ (j : Nat) (x : Value) (xs : List Int), vs[j]? = some x → LL[j]? = some xs → InnB w x xs) (hx : InnB w x xs)
    (hown' : w'.ownsRow B 22 1 v' (LL.length + 1) (vs ++ [x])) (hg : w.grownBy w' v.ownBlock) : Own2 w' B v' (LL ++ [xs]) := by
  have hl : vs.length = LL.length := by have := hown.1; omega
  have h2 : Own2 w B v LL := ⟨vs, hown, hi⟩
  have hk : ∀ (g : Nat) (cs : Array Value), w.heap[g]? = some (Obj.cells cs 3 (0, 0)) → w'.heap[g]? = w.heap[g]? := fun g cs hh => hg.block g (Array.getElem?_eq_some_iff.1 hh).1 (h2.apart hh (by decide))
  refine ⟨vs ++ [x], by rw [List.length_append]; exact hown', fun j y ys h1 h2 => ?_⟩
  by_cases hj : j < LL.length
  · rw [List.getElem?_append_left (by omega)] at h1
    rw [List.getElem?_append_left hj] at h2
    exact (hi j y ys h1 h2).kept hk
  · have hj2 : j < (LL ++ [xs]).length := (List.getElem?_eq_some_iff.1 h2).1
    have : j = LL.length := by simp at hj2; omega
    subst this
    rw [List.getElem?_append_right (by omega)] at h1 h2
    rw [hl] at h1
    simp at h1 h2
    subst h1; subst h2
    exact hx.kept hk
theorem innB_new (W : World) (x y : Int) : InnB (W.alloc (.cells #[.int .i64 x, .int .i64 y] 3)) (.slice (some ⟨W.heap.size, 0, none⟩) 2 2) [x, y] := by
  refine ⟨_, 2, rfl, Nat.le_refl _, by decide, .inr ⟨W.heap.size, 0, _, rfl, World.alloc_heap_new W _, fun j hj => ?_⟩⟩
  have : j = 0 ∨ j = 1 := by simp at hj; omega
  rcases this with rfl | rfl <;> rfl

/-- Pairs, as rows of two. -/
def prs (L : List (Int × Int)) : List (List Int) := L.map fun p => [p.1, p.2]
theorem prs_len (L : List (Int × Int)) : (prs L).length = L.length := by simp [prs]
theorem prs_snoc (L : List (Int × Int)) (p : Int × Int) : prs (L ++ [p]) = prs L ++ [[p.1, p.2]] := by simp [prs]
theorem At2.pair {w : World} {a : Option Addr} {L : List (Int × Int)} (h : At2 w a (prs L)) {k : Nat} (hk : k < L.length) :
    ∃ b off, a = some ⟨b, off, none⟩ ∧ b < w.heap.size ∧ ∀ k, k < L.length → ∃ p g o c, Hid (L[k]? = some p) ∧ g < w.heap.size ∧ w.cell? ⟨b, off + k, none⟩ = some (.slice (some ⟨g, o, none⟩) 2 c) ∧ w.cell? ⟨g, o, none⟩ = some (.int .i64 p.1) ∧ w.cell? ⟨g, o + 1, none⟩ = some (.int .i64 p.2) := by
  rcases h with h | ⟨b, off, rfl, hlt, hc⟩
  · have := prs_len L; rw [h] at this; simp at this; omega
  · refine ⟨b, off, rfl, hlt, fun k hk => ?_⟩
    obtain ⟨p, hp⟩ : ∃ p, L[k]? = some p := ⟨_, List.getElem?_eq_getElem hk⟩
    obtain ⟨a', c', h1, h2, h3⟩ := hc k [p.1, p.2] (by simp [prs, hp])
    rcases h2 with h2 | ⟨g, o, rfl, hg, hcc⟩
    · cases h2
    · exact ⟨p, g, o, c', hp, hg, h1, hcc 0 (by simp), hcc 1 (by simp)⟩

end Go.Proofs.YtgfpjfiikajadaaDoor
