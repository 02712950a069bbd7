/-
  How long a list of integers that comes in may be: what the reach of a call says.
  What is said on the way through reach.part: what lies where.
-/
import Derived.SizedLaws
import Derived.Test.YtgebfkmfhpcdhaaDoorH05
import Derived.Deep.RegionHeld3
import Derived.RangeFuncBox
import Derived.Test.YtgebfkmfhpcdhaaDoorH03
import Derived.Test.YtgebfkmfhpcdhaaDoorH13
import Derived.Test.YtgebfkmfhpcdhaaDoorH04
import Derived.Test.YtgebfkmfhpcdhaaDoorH15
namespace Go.Proofs.YtgebfkmfhpcdhaaDoor
open Go.ChangeShapes Go.WideShapes Go.ChangeAt Go.RowKit Go.Deep
set_option linter.unusedVariables false
set_option maxRecDepth 100000

theorem bytesInt : Tryd.prog.bytesOf 3 = 8 := by kernel_rfl
theorem len_sized1 {H : Type} {enc : TypeId × Value → H} {W : World} {ts : List TypeId} {ds : List (DataW H)} {j len c : Nat} {a : Option Addr} {d : DataW H} {p : List MemPlace} (hz : (DataW.weightsEach Tryd.prog ts ds).all (· ≤ reachBytes) = true) (ht : ts[j]? = some 22) (hd : ds[j]? = some d) (h : DataW.Trod enc Tryd.prog W 0 (fun _ => true) true 22 (.slice a len c) d p) : len ≤ 17592186044415 := by
  obtain ⟨fuel, hf⟩ := h
  have hf : DataW.trod enc Tryd.prog W 0 (fun _ => true) true fuel 22 [.slice a len c] = some (d, p) := by simpa [Value.cells] using hf
  rcases open_ints Tryd.underlying22 Tryd.underlying3 (by kernel_rfl) hf with ⟨e, _⟩ | ⟨a', len', cap', zs, e, _, hl, hm, hzs, hx, hc, _⟩
  · simp only [List.cons.injEq, and_true, Value.slice.injEq] at e
    omega
  · simp only [List.cons.injEq, and_true, Value.slice.injEq] at e
    obtain ⟨-, rfl, -⟩ := e
    simp only [if_true] at hzs
    have hdx : d = .slice (lits .i64 (zs.take len)) (lits .i64 (zs.drop len)) := congrArg Prod.fst hx
    rw [hdx] at hd
    have h1 := sized_slice hz ht hd Tryd.underlying22
    rw [bytesInt] at h1
    have h2 := reachBytes_lt
    simp only [lits, List.length_map, List.length_take] at h1
    omega
theorem len_sized {H : Type} {enc : TypeId × Value → H} {W : World} {ts : List TypeId} {ds : List (DataW H)} {j len c : Nat} {a : Option Addr} {d : DataW H} {p : List MemPlace} (hz : (DataW.weightsEach Tryd.prog ts ds).all (· ≤ reachBytes) = true) (ht : ts[j]? = some 22) (hd : ds[j]? = some d) (h : DataW.Trod enc Tryd.prog W 0 (fun _ => true) true 22 (.slice a len c) d p) : len ≤ 17592186044416 := Nat.le_trans (len_sized1 hz ht hd h) (by decide)

end Go.Proofs.YtgebfkmfhpcdhaaDoor
namespace Go.Proofs.YtgebfkmfhpcdhaaDoor
open Go.RowKit
set_option linter.unusedVariables false

theorem OwnA.set {W : World} {B b j : Nat} {v : Value} {L : List Arr} (h : OwnA W B v L) (hb : b < B) (x : Value) : OwnA (W.setCell ⟨b, j, none⟩ x) B v L := by
  refine ⟨h.1, ?_⟩
  rcases h.2 with hn | ⟨g, cap, cur, rfl, hg, hgg, rest⟩
  · exact .inl hn
  · exact .inr ⟨g, cap, cur, rfl, hg, (Below.heap_setCell W ⟨b, j, none⟩ x g (by show g ≠ b; omega)).trans hgg, rest⟩
theorem OwnA.set5 {W : World} {B b : Nat} {v : Value} {L : List Arr} (h : OwnA W B v L) (hb : b < B) (v0 v1 v2 v3 v4 : Value) : OwnA (((((W.setCell ⟨b, 0, none⟩ v0).setCell ⟨b, 1, none⟩ v1).setCell ⟨b, 2, none⟩ v2).setCell ⟨b, 3, none⟩ v3).setCell ⟨b, 4, none⟩ v4) B v L :=
  ((((h.set hb v0).set hb v1).set hb v2).set hb v3).set hb v4

end Go.Proofs.YtgebfkmfhpcdhaaDoor
