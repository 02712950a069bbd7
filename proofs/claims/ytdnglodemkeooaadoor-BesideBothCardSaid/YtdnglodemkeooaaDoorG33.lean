/-
  slices.SortFunc at arrows, by where they lead to: what it leaves of the finder's row of arrows.
  The walk of finder.lead.
  The walks of the three closures of row.Join, row.Meet and row.Less.
  The walk of row.Join.
  Plain: the table of where the states of a machine lead to, as package beside fills it. No program, no model.
  Package beside's table of where the states of a machine lead to, in a world: rows of integers, each in its own block.
  The walk of beside.leads.
-/
import Derived.Test.YtdnglodemkeooaaDoorG32
import Derived.Test.YtdnglodemkeooaaDoorG05
import Derived.Test.YtdnglodemkeooaaDoorG30
import Derived.Test.YtdnglodemkeooaaDoorG31
import Derived.Test.YtdnglodemkeooaaDoorG25
namespace Go.Proofs.YtdnglodemkeooaaDoor
open Go.RowKit Go.Shelf Go.Lib Go.Sort
set_option linter.unusedVariables false

def encA (a : Arr) : List Value := [.int .i64 a.f, .int .i64 a.e, .int .i64 a.t]

set_option maxHeartbeats 1000000 in
theorem lead1_cmp (x y : Arr) (W : World) : Calls Tryd.prog 130 #[.agg #[.int .i64 x.f, .int .i64 x.e, .int .i64 x.t], .agg #[.int .i64 y.f, .int .i64 y.e, .int .i64 y.t]] W fun e w' => e = .returned (.int .i64 (cmpI x.t y.t)) ∧ ∃ q os', w' = grow (W.drewN q) os' := by
  have hcon := fun W' => cmp_any x.t y.t W'
  generalize cmpI x.t y.t = r at hcon ⊢
  go_enter Tryd.func130, Tryd.ntmps130
  go_wp2_with (go_at_call 119; refine (hcon _).mono ?_; rintro e w' ⟨rfl, rfl⟩)
  go_ret
  exact ⟨rfl, 0, _, by rw [alloc_eq_grow, alloc_eq_grow, grow_grow]; rfl⟩

theorem ltA (x y : Arr) : ltOf (fun x y : Arr => cmpI x.t y.t) x y = decide (x.t < y.t) := by
  unfold ltOf cmpI
  by_cases h1 : x.t < y.t
  · simp [h1]
  · by_cases h2 : y.t < x.t <;> simp [h1, h2]
theorem swoA : SWO (ltOf fun x y : Arr => cmpI x.t y.t) where
  irrefl x := by rw [ltA]; simp
  trans x y z h1 h2 := by rw [ltA] at *; simp at *; omega
  ntrans x y z h1 h2 := by rw [ltA] at *; simp at *; omega

theorem isAggArrow (w : World) : (isAgg 58).run Tryd.prog w = .ok true w := by kernel_rfl
theorem sizeOfArrow (w : World) : (Go.sizeOf 58).run Tryd.prog w = .ok 3 w := by kernel_rfl

theorem aflat_get {N : List Arr} {t : Nat} (h : t < N.length * 3) : (aflat N)[t]? = some ((encA (N[t / 3]?.getD arr0))[t % 3]?.getD undef) := by
  have hk : t / 3 < N.length := by omega
  obtain ⟨h1, h2, h3⟩ := aflat_at hk
  have hm : t % 3 = 0 ∨ t % 3 = 1 ∨ t % 3 = 2 := by omega
  rcases hm with hm | hm | hm
  · rw [show t = t / 3 * 3 by omega, h1]; simp [encA]
  · rw [show t = t / 3 * 3 + 1 by omega, h2]
    rw [show (t / 3 * 3 + 1) / 3 = t / 3 by omega, show (t / 3 * 3 + 1) % 3 = 1 by omega]; simp [encA]
  · rw [show t = t / 3 * 3 + 2 by omega, h3]
    rw [show (t / 3 * 3 + 2) / 3 = t / 3 by omega, show (t / 3 * 3 + 2) % 3 = 2 by omega]; simp [encA]

theorem flat_aflat (N : Array Arr) : letI : Inhabited Arr := ⟨arr0⟩; flatK encA 3 N = (aflat N.toList).toArray := by
  letI : Inhabited Arr := ⟨arr0⟩
  refine ext_get! (by simp [aflat_len]) fun t ht => ?_
  have ht' : t < N.size * 3 := by simpa using ht
  rw [get_flatK _ _ _ t ht']
  have h1 := aflat_get (N := N.toList) (t := t) (by simpa using ht')
  have h2 : ((aflat N.toList).toArray)[t]! = (encA (N.toList[t / 3]?.getD arr0))[t % 3]?.getD undef := by
    rw [Array.getElem!_eq_getD, Array.getD_eq_getD_getElem?]
    simp only [List.getElem?_toArray, h1]; rfl
  rw [h2]
  have hk : t / 3 < N.size := by omega
  have h3 : N[t / 3]! = N.toList[t / 3]?.getD arr0 := by
    rw [Array.getElem!_eq_getD, Array.getD_eq_getD_getElem?, Array.getElem?_toList]; rfl
  rw [h3, List.getElem!_eq_getElem?_getD]
  have hm : t % 3 < 3 := Nat.mod_lt _ (by decide)
  generalize N.toList[t / 3]?.getD arr0 = a
  have : t % 3 = 0 ∨ t % 3 = 1 ∨ t % 3 = 2 := by omega
  rcases this with h | h | h <;> rw [h] <;> simp [encA]

theorem putRow_heap (w : World) (blk off : Nat) (F : Array Value) (j : Nat) : (putRow id w blk off F).heap[j]? = if blk = j then (w.heap[j]?).map (fun o => match o with | .cells c e fr => .cells (putCells id off F c) e fr | o => o) else w.heap[j]? := by
  unfold putRow mapBlock
  simp only [Array.getElem?_modify]
  by_cases h : blk = j
  · simp only [h, if_true]
    cases w.heap[j]? with
    | none => rfl
    | some o => cases o <;> rfl
  · simp [h]
theorem grow_heap (w : World) (os : Array Obj) (j : Nat) (h : j < w.heap.size) : (grow w os).heap[j]? = w.heap[j]? := by
  unfold grow; exact Array.getElem?_append_left h
theorem put_take (cur : Array Value) (F : List Value) (off : Nat) (X : List Value) (hX : cur.toList.take off = X) (hoff : off + F.length ≤ cur.size) : (putCells id off F.toArray cur).toList.take (off + F.length) = X ++ F := by
  apply List.ext_getElem?
  intro t
  have hXl : X.length = off := by rw [← hX, List.length_take]; simp; omega
  by_cases ht : t < off + F.length
  · rw [List.getElem?_take_of_lt ht, Array.getElem?_toList]
    simp only [putCells, Array.getElem?_mapIdx]
    have hlt : t < cur.size := by omega
    rw [Array.getElem?_eq_getElem hlt, Option.map_some]
    by_cases h1 : off ≤ t
    · rw [if_pos ⟨h1, by simpa using ht⟩, List.getElem?_append_right (by omega), hXl]
      have h2 : t - off < F.length := by omega
      rw [List.getElem?_eq_getElem h2]
      simp [h2]
    · rw [if_neg (by omega), List.getElem?_append_left (by omega), ← hX, List.getElem?_take_of_lt (by omega), Array.getElem?_toList, Array.getElem?_eq_getElem hlt]
  · rw [List.getElem?_eq_none (by simp; omega), List.getElem?_eq_none (by simp; omega)]
theorem sorted_pairs {D : List Arr} (h : letI : Inhabited Arr := ⟨arr0⟩; SortedIn (ltOf fun x y : Arr => cmpI x.t y.t) 0 D.toArray.size D.toArray) : D.Pairwise fun x y => x.t ≤ y.t := by
  rw [List.pairwise_iff_getElem]
  intro i j hi hj hij
  have h1 := h i j (Nat.zero_le _) hij (by simpa using hj)
  rw [ltA] at h1
  simp [hi, hj] at h1
  exact h1

set_option maxHeartbeats 1000000 in
/-- The arrows behind the first ones, sorted by where they lead to. -/
theorem sort_go (W : World) (B g cap c : Nat) (A N : List Arr) (h : OwnA W B (.slice (some ⟨g, 0, none⟩) (A ++ N).length cap) (A ++ N)) (hN : N.length ≤ 1000000000) :
    Calls Tryd.prog 129 #[.slice (some ⟨g, A.length * 3, none⟩) N.length c, .func (.func 130) #[] #[]] W fun e W' => e = .returned (.tuple #[]) ∧ ∃ D : List Arr, D.Perm N ∧ (D.Pairwise fun x y => x.t ≤ y.t) ∧ OwnA W' B (.slice (some ⟨g, 0, none⟩) (A ++ N).length cap) (A ++ D) ∧ Turn (fun j => j = g) (fun j => j = g) W W' := by
  letI : Inhabited Arr := ⟨arr0⟩
  rcases h.2 with ⟨h0, -⟩ | ⟨g', cap', cur, h0, hg, hh, hnc, hcm, hcs, ht⟩
  · simp at h0
  simp only [Value.slice.injEq, Option.some.injEq, Addr.mk.injEq, and_true] at h0
  obtain ⟨rfl, -, rfl⟩ := h0
  have hbk : g < W.heap.size := (Array.getElem?_eq_some_iff.1 hh).1
  have hl : (A ++ N).length = A.length + N.length := List.length_append
  have eg : ∀ args w, (callFunc 130 args).run Tryd.prog w = .ok (.enter 130 args) w := enters_of Tryd.func130 (by kernel_rfl) rfl
  have hcell : ∀ t, t < N.length * 3 → cur[A.length * 3 + t]? = (aflat N)[t]? := by
    intro t hlt
    have h1 : (cur.toList.take ((A ++ N).length * 3))[A.length * 3 + t]? = (aflat (A ++ N))[A.length * 3 + t]? := by rw [ht]
    rw [List.getElem?_take_of_lt (by omega), Array.getElem?_toList, aflat_append, List.getElem?_append_right (by rw [aflat_len]; omega), aflat_len] at h1
    rw [h1]; congr 1; omega
  have hH : HoldsK encA 3 W g (A.length * 3) N.toArray := by
    unfold HoldsK
    rw [flat_aflat]
    intro j hj
    have hj' : j < N.length * 3 := by simpa [aflat_len] using hj
    have hB : Blk W g 58 cur := hh
    refine ⟨hB.cell _ ?_, hB.frozen _⟩
    rw [hcell j hj']
    have : j < (aflat N).length := by rw [aflat_len]; exact hj'
    rw [List.getElem?_eq_getElem this]
    simp [this]
  have hcon := AnyQ.slices_SortFunc Tryd.sortA 3 isAggArrow sizeOfArrow encA (fun _ => rfl) (fun x v hv => by simp [encA] at hv; rcases hv with rfl | rfl | rfl <;> rfl) (fun x y => cmpI x.t y.t) swoA 130 #[] g (A.length * 3) c N.toArray W eg (fun _ _ _ _ x y => lead1_cmp x y _) hH hbk (by simp; omega)
  refine hcon.mono ?_
  rintro e W' ⟨rfl, d', n, os, hp, hs, rfl⟩
  refine ⟨rfl, d'.toList, ?_, ?_, ?_, ?_⟩
  · have h3 := hp.2.2
    have e1 : (d'.extract 0 N.toArray.size).toList = d'.toList := by
      rw [← hp.1]; simp
    have e2 : (N.toArray.extract 0 N.toArray.size).toList = N := by simp
    rw [e1, e2] at h3
    exact h3
  · refine sorted_pairs ?_
    rw [Array.toArray_toList]
    rw [hp.1]; exact hs
  · have hdl : d'.toList.length = N.length := by have := hp.1; simpa using this
    have hl2 : (A ++ d'.toList).length = (A ++ N).length := by rw [List.length_append, List.length_append, hdl]
    unfold OwnA
    rw [hl2]
    refine ⟨by rw [aflat_len, hl2], .inr ⟨g, cap, putCells id (A.length * 3) (aflat d'.toList).toArray cur, rfl, hg, ?_, hnc, hcm, by simp [putCells, hcs], ?_⟩⟩
    · unfold sortWorldK putRowK
      rw [grow_heap _ _ _ (by rw [size_putRow]; exact hbk), putRow_heap, if_pos rfl, flat_aflat]
      show Option.map _ (W.heap[g]?) = _
      rw [hh]; rfl
    · have h4 := put_take cur (aflat d'.toList) (A.length * 3) (aflat A) (by
        have h5 : (cur.toList.take ((A ++ N).length * 3)).take (A.length * 3) = (aflat (A ++ N)).take (A.length * 3) := by rw [ht]
        rw [List.take_take, aflat_append, List.take_left' (aflat_len A)] at h5
        rw [← h5]; congr 1; omega) (by rw [aflat_len, hdl, hcs]; have := hnc; omega)
      rw [aflat_append, ← h4, aflat_len, hdl]
      congr 1; omega
  · refine ⟨rfl, rfl, rfl, ?_, fun j hj hne => ?_, fun j hj => .inl hj⟩
    · unfold sortWorldK putRowK grow
      rw [Array.size_append, size_putRow]; exact Nat.le_add_right _ _
    · unfold sortWorldK putRowK
      rw [grow_heap _ _ _ (by rw [size_putRow]; exact hj), putRow_heap, if_neg (fun e => hne e.symm)]; rfl

theorem sort_none (p : Option Addr) (cap : Nat) (fv : Value) (w : World) : Calls Tryd.prog 129 #[.slice p 0 cap, fv] w fun e w' => e = .returned (.tuple #[]) ∧ w' = w :=
  AnyF.slices_SortFunc_none { Tryd.sortA with } p cap fv w

end Go.Proofs.YtdnglodemkeooaaDoor
namespace Go.Proofs.YtdnglodemkeooaaDoor
open Go.RowKit
set_option linter.unusedVariables false

/-- A slice of integers that lies in no block of F. -/
def AtF (W : World) (F : Nat → Prop) (a : Option Addr) (xs : List Int) : Prop := xs = [] ∨ ∃ b off, a = some ⟨b, off, none⟩ ∧ b < W.heap.size ∧ ¬ F b ∧ Cells W b off xs
theorem AtF.turn {F F' : Nat → Prop} {W W' : World} {a : Option Addr} {xs : List Int} (h : AtF W F a xs) (t : Turn F F' W W') : AtF W' F' a xs := by
  rcases h with h1 | ⟨b, off, h1, hb, hF, hc⟩
  · exact .inl h1
  · refine .inr ⟨b, off, h1, Nat.lt_of_lt_of_le hb t.size, fun hF' => ?_, fun j hj => by rw [World.cell?_of_block (w := W) (t.block b hb hF)]; exact hc j hj⟩
    rcases t.fp b hF' with h2 | h2
    · exact hF h2
    · omega
theorem AtF.get {F : Nat → Prop} {W : World} {a : Option Addr} {xs : List Int} (h : AtF W F a xs) {k : Nat} (hk : k < xs.length) : ∃ b off x, a = some ⟨b, off, none⟩ ∧ b < W.heap.size ∧ Hid (x = xs[k]?.getD 0) ∧ W.cell? ⟨b, off + k, none⟩ = some (.int .i64 x) := by
  rcases h with h | ⟨b, off, h1, hb, -, hc⟩
  · subst h; simp at hk
  · obtain ⟨x, h2, h3⟩ := hc.at hk
    exact ⟨b, off, x, h1, hb, h2, h3⟩
section
variable {B : Nat} {W W' : World} {bf br : Nat} {st ev : Int} {vs va ve vp : Value} {S : List Int} {A A' : List Arr} {E : List Int} {P : List (Int × Int)}
/-- The row of arrows is written anew in its own block. -/
theorem FD.sorted {g : Nat} (h : FD B W bf br st ev vs va ve vp S A E P) (hg : va.ownBlock = some g) (ho : OwnA W' B va A') (t : Turn (fun j => j = g) (fun j => j = g) W W') : FD B W' bf br st ev vs va ve vp S A' E P ∧ Turn (FF bf br vs va ve vp) (FF bf br vs va ve vp) W W' := by
  obtain ⟨a1, a2⟩ := h.apart
  obtain ⟨r1, r2⟩ := h.rows
  have ng : g ≠ bf ∧ g ≠ br := ⟨fun e => (a2 va (by simp)).1 (by rw [hg, e]), fun e => (a2 va (by simp)).2 (by rw [hg, e])⟩
  rw [hg] at r1 r2
  have hne : (some g : Option Nat) ≠ none := by simp
  have r2' := r2.resolve_left hne
  refine ⟨⟨(t.block bf h.blk.lt (Ne.symm ng.1)).trans h.blk, own_same h.st (fun k hk => t.block k (World.ownsRow.lt h.st k hk).2 (fun e => r2'.1 (by rw [hk, e]))), ho, own_same h.en (fun k hk => t.block k (World.ownsRow.lt h.en k hk).2 (fun e => r2'.2.2 (by rw [hk, e]))), own_same h.ps (fun k hk => t.block k (World.ownsRow.lt h.ps k hk).2 (fun e => r2'.2.1 (by rw [hk, e]))), (t.block br (Array.getElem?_eq_some_iff.1 h.mp).1 (Ne.symm ng.2)).trans h.mp, h.ne, h.nd, h.cr, h.lof, h.lor⟩, t.os, t.tape, t.output, t.size, fun j hj hn => t.block j hj (fun e => hn (.inr (.inr (.inr (.inl (by rw [hg, e])))))), fun j hj => .inl hj⟩
end
theorem fits_big (s : BS) : (decide ((s.ps.length : Int) ≤ 256) && decide ((s.ar.length : Int) ≤ 4096)) = !bBig s := by
  have h1 : decide ((s.ps.length : Int) ≤ 256) = !decide (256 < s.ps.length) := by
    by_cases h : 256 < s.ps.length <;> simp [h] <;> omega
  have h2 : decide ((s.ar.length : Int) ≤ 4096) = !decide (4096 < s.ar.length) := by
    by_cases h : 4096 < s.ar.length <;> simp [h] <;> omega
  rw [h1, h2]; unfold bBig; rw [Bool.not_or]
/-- What lead leaves. -/
def LeadPost (B : Nat) (W : World) (bf br : Nat) (ev : Int) (vs va ve vp : Value) (S E : List Int) (s' : BS) (e : Ending) (W' : World) : Prop :=
  ∃ va' vp', e = .returned (.bool (!bBig s')) ∧ Turn (FF bf br vs va ve vp) (FF bf br vs va' ve vp') W W' ∧ W'.cell? ⟨bf, 1, none⟩ = some (.int .i64 ev) ∧ (bBig s' = false → FD B W' bf br s'.ps.length ev vs va' ve vp' S (srtA s'.ar) E s'.ps ∧ (srtA s'.ar).length = s'.ar.length)

theorem pair_lt {D N : List Arr} (hp : D.Perm N) (hs : D.Pairwise fun x y => x.t ≤ y.t) (hn : N.Pairwise fun x y => x.t ≠ y.t) : D.Pairwise fun x y => x.t < y.t := by
  have h2 : D.Pairwise fun x y => x.t ≠ y.t := (hp.pairwise_iff (fun {a b} (h : a.t ≠ b.t) => h.symm)).2 hn
  exact (hs.and h2).imp (fun h => by omega)

set_option maxHeartbeats 8000000 in
set_option maxRecDepth 100000 in
theorem lead_any (B : Nat) (W : World) (bf br : Nat) (ev : Int) (vs va ve vp : Value) (S E : List Int) (s : BS) (a b : Mach) (i : Nat) (e : Int) (ta tb : Option Addr) (ca cb : Nat) (LA LB : List Int)
    (hF : Hid (FD B W bf br s.ps.length ev vs va ve vp S (srtA s.ar) E s.ps)) (hbig : Hid (bBig s = false)) (hlen : Hid ((srtA s.ar).length = s.ar.length)) (hlo : Hid (∀ x ∈ s.ar, x.f < i ∨ (x.f = i ∧ x.e < e))) (hi : i ≤ 256) (he : 0 ≤ e ∧ e < 8)
    (hA : Hid (AtF W (FF bf br vs va ve vp) ta LA)) (hB : Hid (AtF W (FF bf br vs va ve vp) tb LB)) (lA : LA.length ≤ 4096) (lB : LB.length ≤ 4096) (iA : Hid (Inc LA)) (iB : Hid (Inc LB)) (bA : Hid (∀ x ∈ LA, 0 ≤ x ∧ x < 256)) (bB : Hid (∀ x ∈ LB, 0 ≤ x ∧ x < 256)) :
    Calls Tryd.prog 104 #[.pointer (some ⟨bf, 0, none⟩), .int .i64 i, .int .i64 e, .slice ta LA.length ca, .slice tb LB.length cb] W fun r W' => LeadPost B W bf br ev vs va ve vp S E ((crossP LA LB).foldl (bAdd i e) s) r W' := by
  obtain ⟨j0, ji, jz0, jz1, jz2⟩ := info_parts Tryd.infoArrow
  obtain ⟨aa, ac, hva, -, ha1, ha2, ha3⟩ := hF.out.ar.at
  have hb0 := bBig_some hbig.out
  have hal : (srtA s.ar).length ≤ 4096 := by rw [hlen.out]; exact hb0.2
  have c3 := hF.out.cells.2.2.2.1
  rw [hva] at c3
  clear hb0
  go_enter Tryd.func104, Tryd.ntmps104
  go_wp2_with fail
  clear c3 hva ha1 ha2 ha3
  go_loopw [24] (fun r wr => ∃ (k : Nat) (va' vp' : Value), k ≤ LA.length ∧ r = .int .i64 k ∧ Hid (FD B wr bf br ((crossP (LA.take k) LB).foldl (bAdd i e) s).ps.length ev vs va' ve vp' S (srtA s.ar ++ newA i e s (crossP (LA.take k) LB)) E ((crossP (LA.take k) LB).foldl (bAdd i e) s).ps) ∧ Hid (Turn (FF bf br vs va ve vp) (FF bf br vs va' ve vp') W wr) ∧ Hid (bBig ((crossP (LA.take k) LB).foldl (bAdd i e) s) = false)) (fun r _ => LA.length - (intOf r).toNat)
  case atStart => exact ⟨0, va, vp, Nat.zero_le _, rfl, by show FD _ _ _ _ _ _ _ _ _ _ _ _ _ _; simpa [crossP, newA] using hF.out, Turn.refl _ _, by show _ = _; simpa [crossP] using hbig.out⟩
  case round =>
    obtain ⟨k, va1, vp1, hk, rfl, HF, HT, HG⟩ := hrel
    by_cases hlt : k < LA.length
    · obtain ⟨bs, os, x, hsa, hbs, HX, cx0⟩ := (hA.out.turn HT.out).get hlt
      rw [hsa]
      have HXM : Hid (0 ≤ x ∧ x < 256) := bA.out x (by rw [HX.out, List.getElem?_eq_getElem hlt]; exact List.getElem_mem hlt)
      go_wp2_with fail
      go_loopw [30] (fun r wr => ∃ (q : Nat) (va' vp' : Value), q ≤ LB.length ∧ r = .int .i64 q ∧ Hid (FD B wr bf br ((crossP (LA.take k) LB ++ (LB.take q).map fun z => (x, z)).foldl (bAdd i e) s).ps.length ev vs va' ve vp' S (srtA s.ar ++ newA i e s (crossP (LA.take k) LB ++ (LB.take q).map fun z => (x, z))) E ((crossP (LA.take k) LB ++ (LB.take q).map fun z => (x, z)).foldl (bAdd i e) s).ps) ∧ Hid (Turn (FF bf br vs va ve vp) (FF bf br vs va' ve vp') W wr) ∧ Hid (bBig ((crossP (LA.take k) LB ++ (LB.take q).map fun z => (x, z)).foldl (bAdd i e) s) = false)) (fun r _ => LB.length - (intOf r).toNat)
      case atStart => exact ⟨0, va1, vp1, Nat.zero_le _, rfl, by show FD _ _ _ _ _ _ _ _ _ _ _ _ _ _; rw [List.take_zero, List.map_nil, List.append_nil]; exact HF.out, HT, by show _ = _; rw [List.take_zero, List.map_nil, List.append_nil]; exact HG.out⟩
      case round =>
        clear HF HT HG cx0 hbs
        obtain ⟨q, va1, vp1, hq, rfl, HF, HT, HG⟩ := hrel
        by_cases hqt : q < LB.length
        · obtain ⟨bt, ot, y, hta, hbt, HY, cy0⟩ := (hB.out.turn HT.out).get hqt
          rw [hta]
          have HYM : Hid (0 ≤ y ∧ y < 256) := bB.out y (by rw [HY.out, List.getElem?_eq_getElem hqt]; exact List.getElem_mem hqt)
          have HP : Hid (StP (x, y)) := ⟨HXM.out, HYM.out⟩
          have HN : Hid ((crossP (LA.take k) LB ++ (LB.take (q + 1)).map fun z => (x, z)) = (crossP (LA.take k) LB ++ (LB.take q).map fun z => (x, z)) ++ [(x, y)]) := by
            show _ = _
            rw [mapP_take hqt HY, ← List.append_assoc]
          have HC : Hid (∃ t, crossP LA LB = ((crossP (LA.take k) LB ++ (LB.take q).map fun z => (x, z)) ++ [(x, y)]) ++ t) := by
            show ∃ t, _
            have e1 : LA = LA.take (k + 1) ++ LA.drop (k + 1) := (List.take_append_drop _ _).symm
            have e2 : LB = LB.take (q + 1) ++ LB.drop (q + 1) := (List.take_append_drop _ _).symm
            have e3 : crossP LA LB = crossP (LA.take (k + 1)) LB ++ crossP (LA.drop (k + 1)) LB := by
              conv => lhs; rw [e1]
              unfold crossP; rw [List.flatMap_append]
            have e4 : (LB.map fun z => (x, z)) = ((LB.take (q + 1)).map fun z => (x, z)) ++ ((LB.drop (q + 1)).map fun z => (x, z)) := by
              conv => lhs; rw [e2]
              rw [List.map_append]
            rw [e3, crossP_take hlt HX, e4, mapP_take hqt HY]
            exact ⟨((LB.drop (q + 1)).map fun z => (x, z)) ++ crossP (LA.drop (k + 1)) LB, by simp⟩
          generalize (crossP (LA.take k) LB ++ (LB.take q).map fun z => (x, z)) = L at *
          have hs1 := bBig_some HG.out
          have hLl : (srtA s.ar ++ newA i e s L).length = (L.foldl (bAdd i e) s).ar.length := by rw [List.length_append, newA_len, bFold_ar, hlen.out]
          have NA : Hid (newA i e s (L ++ [(x, y)]) = newA i e s L ++ [⟨(i : Int), e, (findP (L.foldl (bAdd i e) s).ps x y : Nat)⟩]) := newA_snoc i e L s (x, y)
          have NF : Hid ((L ++ [(x, y)]).foldl (bAdd i e) s = bAdd i e (L.foldl (bAdd i e) s) (x, y)) := by show _ = _; rw [List.foldl_append]; rfl
          obtain ⟨s1, HS1⟩ : ∃ s1, Hid (s1 = L.foldl (bAdd i e) s) := ⟨_, rfl⟩
          obtain ⟨A1, HA1⟩ : ∃ A1, Hid (A1 = srtA s.ar ++ newA i e s L) := ⟨_, rfl⟩
          rw [← HS1.out, ← HA1.out] at HF
          rw [← HS1.out] at HG hs1 NA NF
          rw [← HS1.out, ← HA1.out] at hLl
          have HLl := Hid.of hLl
          have hA1l : A1.length ≤ 4096 := by rw [hLl]; exact hs1.2
          have hP1 := hs1.1
          clear hLl hs1
          have HAD : Hid (addP s1.ps (x, y) = (bAdd i e s1 (x, y)).ps) := rfl
          obtain ⟨fa, fc, hfa, hf1, hf2, hf3⟩ := own_form2 HF.out.ar
          subst hfa
          have c3 := HF.out.cells.2.2.2.1
          have lb1 := HF.out.blk.lt
          obtain ⟨p1, Hp1⟩ : ∃ p1, Hid (p1 = findP s1.ps x y) := ⟨_, rfl⟩
          have hp1 : p1 ≤ 256 := by rw [Hp1.out]; exact Nat.le_trans (findP_le _ _ _) hP1
          go_wp2_with fail
          go_region_law (first | (refine step_append_block rfl (.tmp 39) (.tmp 48) 23 rfl B 58 j0 (aval arr0) 3 24 Tryd.underlying23 ji jz0 jz1 jz2 rfl (by decide) _ A1.length (aflat A1) rfl (World.ownsRow.alloc F1.out.ar _) ⟨w1.heap.size, 0, none⟩ 1 1 [.int .i64 i, .int .i64 e, .int .i64 p1] rfl rfl (cells_three w1 _ rfl _ _ _ _) (by intro u hu; simp at hu; rcases hu with rfl | rfl | rfl <;> rfl) (by decide) (by unfold maxLen; omega) (by omega) (Nat.le_trans (Nat.le_trans F1.out.lof (Nat.le_of_lt F1.out.blk.lt)) (by rw [World.size_alloc]; exact Nat.le_succ _)) ?_; intro v9 w9 o9 g9 n9; obtain ⟨ga, gc, hv9, -, -, -⟩ := own_form2 o9; subst hv9; obtain ⟨e1, e2⟩ := F1.out.pushA ((Below.refl _ _).alloc (Nat.le_refl _) _) (own_arr (x := ⟨(i : Int), e, (p1 : Int)⟩) o9) g9 n9; have z2 := e1.cell 3 rfl; have zf := e1.frozen; have E2 := Hid.of e2.1; have T2 := Hid.of (T1.out.trans e2.2); clear e2 o9 g9 n9) | (go_simp; go_at_call 102; refine (number_any B _ bf br ev _ _ _ _ _ _ _ s1.ps x y HF.out.drew HP.out (by omega)).mono ?_; rintro r w1 ⟨rfl, vp2, hF1, hT1⟩; rw [← Hp1.out]; rw [HAD.out] at hF1; have F1 := Hid.of hF1; have T1 := Hid.of (HT.out.drew.trans hT1); have d2 := hF1.cells.2.2.2.1; have d3 : ∀ o, (w1.alloc o).cell? ⟨bf, 3, none⟩ = some (.slice fa A1.length fc) := fun o => (hF1.alloc o).cells.2.2.2.1; clear hF1 hT1))
          all_goals
            clear F1 T1 e1 d2 d3 z2 zf c3
            revert E2 T2
            generalize w9.setCell ⟨bf, 3, none⟩ (.slice ga (A1.length + 1) gc) = Y
            generalize Value.slice ga (A1.length + 1) gc = va9
            intro E2 T2
            have hL2 : (A1 ++ [(⟨(i : Int), e, (p1 : Int)⟩ : Arr)]).length = (bAdd i e s1 (x, y)).ar.length := by
              rw [List.length_append, HLl.out]; simp [bAdd]
            have hBB : (decide (((bAdd i e s1 (x, y)).ps.length : Int) ≤ 256) && decide (((A1 ++ [(⟨(i : Int), e, (p1 : Int)⟩ : Arr)]).length : Int) ≤ 4096)) = !bBig (bAdd i e s1 (x, y)) := by
              rw [hL2]; exact fits_big _
            have HBB := Hid.of hBB
            clear hBB hL2
            by_cases hfit : bBig (bAdd i e s1 (x, y)) = false
            · go_wp2_with fail
              refine (fits_any B _ bf br _ ev _ _ _ _ _ _ _ _ E2 (by rw [List.length_append]; simp; omega)).mono ?_
              rintro r w2 ⟨rfl, rfl⟩
              rw [HBB.out, hfit]
              go_wp2_with fail
              go_roundw
              case rel => exact ⟨q + 1, va9, vp2, by omega, by go_num, by show FD _ _ _ _ _ _ _ _ _ _ _ _ _ _; rw [HN.out, NF.out, NA.out, ← List.append_assoc, ← HA1.out, ← Hp1.out]; exact E2.out, T2, by show _ = _; rw [HN.out, NF.out]; exact hfit⟩
              case measure => simp [intOf]; omega
            · have hfit' : bBig (bAdd i e s1 (x, y)) = true := by simpa using hfit
              have HEND : Hid (bBig ((crossP LA LB).foldl (bAdd i e) s) = true) := by
                obtain ⟨t, ht⟩ := HC.out
                show _ = _
                rw [ht, List.foldl_append, NF.out]
                exact bBig_fold _ hfit'
              go_wp2_with fail
              refine (fits_any B _ bf br _ ev _ _ _ _ _ _ _ _ E2 (by rw [List.length_append]; simp; omega)).mono ?_
              rintro r w2 ⟨rfl, rfl⟩
              rw [HBB.out, hfit']
              go_wp2_with fail
              go_ret
              exact ⟨va9, vp2, ret_bool (by rw [HEND.out]; rfl), T2.out, E2.out.cells.2.1, fun h => by rw [HEND.out] at h; cases h⟩
        · rw [List.take_of_length_le (show LB.length ≤ q by omega)] at HF HG
          have HN : Hid (crossP (LA.take (k + 1)) LB = crossP (LA.take k) LB ++ LB.map fun z => (x, z)) := crossP_take hlt HX
          go_wp2_with fail
          go_roundw
          case rel => exact ⟨k + 1, va1, vp1, by omega, by go_num, by show FD _ _ _ _ _ _ _ _ _ _ _ _ _ _; rw [HN.out]; exact HF.out, HT, by show _ = _; rw [HN.out]; exact HG.out⟩
          case measure => simp [intOf]; omega
    · rw [List.take_of_length_le (show LA.length ≤ k by omega)] at HF HG
      have ND : Hid ((newA i e s (crossP LA LB)).Pairwise fun x y => x.t ≠ y.t) := newA_nd i e _ s (nodup_crossP (inc_nodup iA.out) (inc_nodup iB.out))
      have NI : Hid (∀ x ∈ newA i e s (crossP LA LB), x.f = i ∧ x.e = e) := newA_in i e _ s
      have FA : Hid (((crossP LA LB).foldl (bAdd i e) s).ar = s.ar ++ newA i e s (crossP LA LB)) := fold_ar i e _ s
      have FL : Hid ((srtA s.ar ++ newA i e s (crossP LA LB)).length = ((crossP LA LB).foldl (bAdd i e) s).ar.length) := by show _ = _; rw [List.length_append, newA_len, bFold_ar, hlen.out]
      have hb1 := (bBig_some HG.out).2
      rw [← FL.out] at hb1
      have lb1 := HF.out.blk.lt
      have c3 := HF.out.cells.2.2.2.1
      rcases HF.out.ar.forms with ⟨hv, hnil⟩ | ⟨g, cap, hv, hg1, hg2, -, hg4, hg5⟩
      · have hA0 : srtA s.ar = [] := (List.append_eq_nil_iff.1 hnil).1
        have hN0 : newA i e s (crossP LA LB) = [] := (List.append_eq_nil_iff.1 hnil).2
        have FIN : Hid (srtA ((crossP LA LB).foldl (bAdd i e) s).ar = []) := by
          show _ = _
          rw [FA.out, hN0, List.append_nil]; exact hA0
        have hz : (srtA s.ar).length = 0 := by rw [hA0]; rfl
        rw [hnil] at HF
        subst hv
        rw [hz]
        clear hb1 hnil hA0
        go_wp2_with fail
        refine (sort_none none 0 _ _).mono ?_
        rintro r w2 ⟨rfl, rfl⟩
        go_wp2_with fail
        go_ret
        exact ⟨.slice none 0 0, vp1, ret_bool (by rw [HG.out]; rfl), HT.out, HF.out.cells.2.1, fun _ => by rw [FIN.out]; exact ⟨HF.out, by rw [FA.out, hN0, List.append_nil, ← hlen.out, hz]; rfl⟩⟩
      · subst hv
        have hAN : (srtA s.ar ++ newA i e s (crossP LA LB)).length = (srtA s.ar).length + (newA i e s (crossP LA LB)).length := List.length_append
        generalize hN : newA i e s (crossP LA LB) = N at *
        generalize hAA : srtA s.ar = A0 at *
        obtain ⟨n1, Hn1⟩ : ∃ n1, Hid (n1 = (A0 ++ N).length) := ⟨_, rfl⟩
        rw [← Hn1.out] at hg4 hb1 c3 hAN
        have HNl : Hid (N.length ≤ 4096) := show _ ≤ _ by omega
        have SB : Hid (∀ D : List Arr, D.Perm N → (D.Pairwise fun x y => x.t ≤ y.t) → A0 ++ D = srtA ((crossP LA LB).foldl (bAdd i e) s).ar) := fun D h1 h2 => by
          rw [FA.out, ← hAA]
          exact srtA_behind hlo.out NI.out h1 (pair_lt h1 h2 ND.out)
        have hc4 := hg4
        rw [hAN] at hc4
        by_cases hcap : A0.length < cap
        · go_wp2_with fail
          refine (sort_go _ B g cap _ A0 N HF.out.ar (by have := HNl.out; omega)).mono ?_
          rintro r w2 ⟨rfl, D, hD1, hD2, hD3, hD4⟩
          have hD5 := HF.out.sorted (g := g) rfl hD3 hD4
          rw [SB.out D hD1 hD2] at hD5
          have HD5 := Hid.of hD5
          have HDL : Hid ((srtA ((crossP LA LB).foldl (bAdd i e) s).ar).length = ((crossP LA LB).foldl (bAdd i e) s).ar.length) := by
            show _ = _
            rw [← SB.out D hD1 hD2, ← FL.out, List.length_append, List.length_append, hD1.length_eq]
          clear hD5 hD3 hD4
          go_wp2_with fail
          go_ret
          exact ⟨_, vp1, ret_bool (by rw [HG.out]; rfl), HT.out.trans HD5.out.2, HD5.out.1.cells.2.1, fun _ => ⟨HD5.out.1, HDL.out⟩⟩
        · have hN0 : N = [] := List.eq_nil_of_length_eq_zero (by omega)
          have hSE := SB.out [] (by rw [hN0]) List.Pairwise.nil
          rw [List.append_nil] at hSE
          have HSE := Hid.of hSE
          rw [hN0, List.append_nil, HSE.out] at HF
          have HDL : Hid ((srtA ((crossP LA LB).foldl (bAdd i e) s).ar).length = ((crossP LA LB).foldl (bAdd i e) s).ar.length) := by
            show _ = _
            rw [← HSE.out, ← FL.out, hN0, List.append_nil]
          have hn0 : n1 = A0.length := by rw [hAN, hN0]; rfl
          have hcc : cap = A0.length := by omega
          subst hcc
          rw [hn0] at c3
          clear hSE
          go_wp2_with fail
          refine (sort_none _ _ _ _).mono ?_
          rintro r w2 ⟨rfl, rfl⟩
          go_wp2_with fail
          go_ret
          exact ⟨_, vp1, ret_bool (by rw [HG.out]; rfl), HT.out, HF.out.cells.2.1, fun _ => ⟨by have h := HF.out; rw [← HSE.out] at h; rw [hN0, List.append_nil, ← HSE.out]; exact h, HDL.out⟩⟩

end Go.Proofs.YtdnglodemkeooaaDoor
namespace Go.Proofs.YtdnglodemkeooaaDoor
open Go.RowKit
set_option linter.unusedVariables false

set_option maxHeartbeats 1000000 in
theorem join_stays (w : World) (B : Nat) (a1 : Option Addr) (c1 : Nat) (xs : List Int) (a2 : Option Addr) (c2 : Nat) (ys : List Int) (n : Int) (hi : Hid (Inc xs)) (hj : Hid (Inc ys)) (h : PI w B a1 c1 xs a2 c2 ys n) :
    Calls Tryd.prog 101 #[.int .i64 n, .pointer (some ⟨B + 4, 0, none⟩), .pointer (some ⟨B + 5, 0, none⟩)] w fun e w' => e = .returned (.bool (hasB xs n || hasB ys n)) ∧ PI w' B a1 c1 xs a2 c2 ys n ∧ Kept (fun k => k ≠ B + 1 ∧ k ≠ B + 3) w w' := by
  have hqa := h.qa
  obtain ⟨k1, f1⟩ := h.f1
  by_cases hx : hasB xs n = false
  · have HX : Hid (hasB xs n = false) := hx
    go_enter Tryd.func101, Tryd.ntmps101
    go_wp2_with fail
    refine (rowFind_any _ _ _ _ _ _ xs n k1 hi f1).mono ?_
    rintro e w1 ⟨rfl, h1, hk1⟩
    have p1 := h.first h1 hk1
    have hqb := p1.qb
    obtain ⟨k2, f2⟩ := p1.f2
    clear hqa h1
    go_wp2_with fail
    refine (rowFind_any _ _ _ _ _ _ ys n k2 hj f2).mono ?_
    rintro e w2 ⟨rfl, h2, hk2⟩
    have p2 := p1.second h2 hk2
    clear hqb h2
    go_wp2
    go_ret
    exact ⟨ret_bool (by rw [HX.out]; simp), p2, (hk1.mono (fun k h => h.1)).trans (hk2.mono (fun k h => h.2))⟩
  · have hx : hasB xs n = true := by simpa using hx
    have HX : Hid (hasB xs n = true) := hx
    go_enter Tryd.func101, Tryd.ntmps101
    go_wp2_with fail
    refine (rowFind_any _ _ _ _ _ _ xs n k1 hi f1).mono ?_
    rintro e w1 ⟨rfl, h1, hk1⟩
    have p1 := h.first h1 hk1
    clear hqa h1
    go_wp2
    go_ret
    exact ⟨ret_bool (by rw [HX.out]; simp), p1, hk1.mono (fun k h => h.1)⟩

end Go.Proofs.YtdnglodemkeooaaDoor
namespace Go.Proofs.YtdnglodemkeooaaDoor
open Go.RowKit
set_option linter.unusedVariables false

/-- The world in which pick is called: two lists, their places, the two closures. -/
abbrev jw (w : World) (a1 : Option Addr) (n1 c1 : Nat) (a2 : Option Addr) (n2 c2 : Nat) : World :=
  (((((w.alloc (.cells #[.slice a1 n1 c1] 22)).alloc (.cells #[.int .i64 0] 3)).alloc (.cells #[.slice a2 n2 c2] 22)).alloc (.cells #[.int .i64 0] 3)).alloc (.cells #[.func (.func 126) #[] #[.pointer (some ⟨w.heap.size + 1, 0, none⟩), .pointer (some ⟨w.heap.size, 0, none⟩)]] 114)).alloc
    (.cells #[.func (.func 126) #[] #[.pointer (some ⟨w.heap.size + 1 + 1 + 1, 0, none⟩), .pointer (some ⟨w.heap.size + 1 + 1, 0, none⟩)]] 114)

theorem jw_below (w : World) (a1 : Option Addr) (n1 c1 : Nat) (a2 : Option Addr) (n2 c2 : Nat) : Below w.heap.size w (jw w a1 n1 c1 a2 n2 c2) :=
  ((((((Below.refl _ _).alloc (Nat.le_refl _) _).alloc (by simp) _).alloc (by simp; omega) _).alloc (by simp; omega) _).alloc (by simp; omega) _).alloc (by simp; omega) _

theorem jw_size (w : World) (a1 : Option Addr) (n1 c1 : Nat) (a2 : Option Addr) (n2 c2 : Nat) : (jw w a1 n1 c1 a2 n2 c2).heap.size = w.heap.size + 6 := by simp [jw]

theorem pi_new (w : World) (a1 : Option Addr) (c1 : Nat) (xs : List Int) (a2 : Option Addr) (c2 : Nat) (ys : List Int) (n : Int) (h1 : At w a1 xs) (h2 : At w a2 ys) (l1 : xs.length ≤ maxLen) (l2 : ys.length ≤ maxLen) : PI (jw w a1 xs.length c1 a2 ys.length c2) w.heap.size a1 c1 xs a2 c2 ys n := by
  have f1 := fi_new w w.heap.size a1 c1 xs n h1.atB (Nat.le_refl _) l1
  have kw : Kept (fun k => k < w.heap.size) w ((w.alloc (.cells #[.slice a1 xs.length c1] 22)).alloc (.cells #[.int .i64 0] 3)) := (kept_alloc w _ (fun _ h => h)).trans (kept_alloc _ _ (fun k h => by simp; omega))
  have f2 := fi_new _ w.heap.size a2 c2 ys n (h2.atB.kept kw (fun _ h => h)) (by simp; omega) l2
  refine ⟨⟨0, f1.kept (K := fun k => k < w.heap.size + 2) ?_ (by omega) (by omega) (fun k h => by omega)⟩, ⟨0, ?_⟩, ?_, ?_⟩
  · exact (((kept_alloc _ _ (fun k h => by simp; omega)).trans (kept_alloc _ _ (fun k h => by simp; omega))).trans (kept_alloc _ _ (fun k h => by simp; omega))).trans (kept_alloc _ _ (fun k h => by simp; omega))
  · have f2' := f2.kept (K := fun k => k < w.heap.size + 4) ((kept_alloc _ (.cells #[.func (.func 126) #[] #[.pointer (some ⟨w.heap.size + 1, 0, none⟩), .pointer (some ⟨w.heap.size, 0, none⟩)]] 114) (fun k h => by simp; omega)).trans (kept_alloc _ (.cells #[.func (.func 126) #[] #[.pointer (some ⟨w.heap.size + 1 + 1 + 1, 0, none⟩), .pointer (some ⟨w.heap.size + 1 + 1, 0, none⟩)]] 114) (fun k h => by simp; omega))) (by simp) (by simp) (fun k h => by omega)
    simpa using f2'
  · rw [World.cell?_alloc_past _ _ _ (by simp), World.cell?_alloc_at _ _ _ _ (by simp)]; rfl
  · rw [World.cell?_alloc_at _ _ _ _ (by simp)]; rfl

theorem join_at (w : World) (a1 : Option Addr) (c1 : Nat) (xs : List Int) (a2 : Option Addr) (c2 : Nat) (ys : List Int) (h1 : At w a1 xs) (h2 : At w a2 ys) (k1 : xs.length ≤ c1) (k2 : ys.length ≤ c2) (m1 : c1 ≤ maxLen) (m2 : c2 ≤ maxLen) (hx : Hid (rowB 2147483648 xs = true)) (hy : Hid (rowB 2147483648 ys = true)) :
    Calls Tryd.prog 100 #[.slice a1 xs.length c1, .slice a2 ys.length c2, .func (.func 101) #[] #[.pointer (some ⟨w.heap.size + 1 + 1 + 1 + 1, 0, none⟩), .pointer (some ⟨w.heap.size + 1 + 1 + 1 + 1 + 1, 0, none⟩)]] (jw w a1 xs.length c1 a2 ys.length c2) fun e w' => ∃ v, e = .returned (.tuple #[v, .int .i64 0]) ∧ Own w' (w.heap.size + 6) v ((uni xs ys).filter fun n => hasB xs n || hasB ys n) ∧ Below w.heap.size (jw w a1 xs.length c1 a2 ys.length c2) w' :=
  join_pick (jw w a1 xs.length c1 a2 ys.length c2) w.heap.size a1 c1 xs a2 c2 ys (fun n => hasB xs n || hasB ys n) (fun w n h => join_stays w _ a1 c1 xs a2 c2 ys n (rowB_inc hx.out) (rowB_inc hy.out) h) (pi_new w a1 c1 xs a2 c2 ys (-1) h1 h2 (by omega) (by omega))
    (h1.atB.kept (K := fun k => k < w.heap.size) ⟨(jw_below w a1 xs.length c1 a2 ys.length c2).os, (jw_below w a1 xs.length c1 a2 ys.length c2).tape, (jw_below w a1 xs.length c1 a2 ys.length c2).output, (jw_below w a1 xs.length c1 a2 ys.length c2).size, (jw_below w a1 xs.length c1 a2 ys.length c2).block⟩ (fun _ h => h))
    (h2.atB.kept (K := fun k => k < w.heap.size) ⟨(jw_below w a1 xs.length c1 a2 ys.length c2).os, (jw_below w a1 xs.length c1 a2 ys.length c2).tape, (jw_below w a1 xs.length c1 a2 ys.length c2).output, (jw_below w a1 xs.length c1 a2 ys.length c2).size, (jw_below w a1 xs.length c1 a2 ys.length c2).block⟩ (fun _ h => h))
    k1 k2 m1 m2 (by rw [jw_size]; exact Nat.le_refl _) hx hy

set_option maxHeartbeats 400000 in
theorem join_yes (w : World) (a1 : Option Addr) (c1 : Nat) (xs : List Int) (a2 : Option Addr) (c2 : Nat) (ys : List Int) (h1 : At w a1 xs) (h2 : At w a2 ys) (k1 : xs.length ≤ c1) (k2 : ys.length ≤ c2) (m1 : c1 ≤ maxLen) (m2 : c2 ≤ maxLen) (hx : Hid (rowB 2147483648 xs = true)) (hy : Hid (rowB 2147483648 ys = true)) :
    Calls Tryd.prog 66 #[.slice a1 xs.length c1, .slice a2 ys.length c2] w fun e w' => ∃ v, e = .returned (.tuple #[v, .int .i64 0]) ∧ Own w' (w.heap.size + 6) v ((uni xs ys).filter fun n => hasB xs n || hasB ys n) ∧ Below w.heap.size w w' := by
  have hmf : ∀ (fn : Fn) (first cap : Array Value) (w : World), (Instr.makeFunc fn first cap).run Tryd.prog w = .ok (.func fn first cap) w := fun _ _ _ _ => rfl
  go_enter Tryd.func66, Tryd.ntmps66
  go_wp2_with fail
  refine (finder_any a1 c1 xs _).mono ?_
  rintro e w1 ⟨rfl, rfl⟩
  go_wp2_with fail
  refine (finder_any a2 c2 ys _).mono ?_
  rintro e w1 ⟨rfl, rfl⟩
  go_wp2_with fail
  refine (join_at w a1 c1 xs a2 c2 ys h1 h2 k1 k2 m1 m2 hx hy).mono ?_
  rintro e w1 ⟨v, rfl, hown, hbel⟩
  go_wp2
  go_ret2
  exact ⟨v, rfl, hown, (jw_below w a1 xs.length c1 a2 ys.length c2).trans hbel⟩

end Go.Proofs.YtdnglodemkeooaaDoor
namespace Go.Proofs.YtdnglodemkeooaaDoor
open Go.RowKit
set_option linter.unusedVariables false

/-- What stands at place p ahead of the arrows. -/
def tab0 (of : List Int) (E k p : Nat) : List Int := if p < k ∧ hasB of ((p % E : Nat) : Int) = false then [((p / E : Nat) : Int)] else []
theorem tab0_skip {of : List Int} {E k : Nat} (h : hasB of ((k % E : Nat) : Int) = true) (p : Nat) : tab0 of E (k + 1) p = tab0 of E k p := by
  unfold tab0
  by_cases c : p < k ∧ hasB of ((p % E : Nat) : Int) = false
  · rw [if_pos c, if_pos ⟨by omega, c.2⟩]
  · rw [if_neg c, if_neg (fun d => ?_)]
    rcases Nat.lt_or_ge p k with h1 | h1
    · exact c ⟨h1, d.2⟩
    · have e : p = k := by omega
      rw [e, h] at d; cases d.2
theorem tab0_put {of : List Int} {E k : Nat} (h : hasB of ((k % E : Nat) : Int) = false) : tab0 of E (k + 1) k = [((k / E : Nat) : Int)] := if_pos ⟨by omega, h⟩
theorem tab0_other {of : List Int} {E k p : Nat} (h : p ≠ k) : tab0 of E (k + 1) p = tab0 of E k p := by
  unfold tab0
  by_cases c : p < k ∧ hasB of ((p % E : Nat) : Int) = false
  · rw [if_pos c, if_pos ⟨by omega, c.2⟩]
  · rw [if_neg c, if_neg (fun d => c ⟨by omega, d.2⟩)]
/-- .. and what k arrows have brought. -/
def tabL (ars : List Arr) (of : List Int) (E N k p : Nat) : List Int := tab0 of E N p ++ ((ars.take k).filter fun a => hasB of a.e && decide (a.f * E + a.e = (p : Int))).map (·.t)
theorem tabL_zero (ars : List Arr) (of : List Int) (E N p : Nat) : tabL ars of E N 0 p = tab0 of E N p := by simp [tabL]
theorem tabL_next {ars : List Arr} {of : List Int} {E N k p : Nat} {a : Arr} (h : k < ars.length) (ha : Hid (a = ars[k]?.getD arr0)) : tabL ars of E N (k + 1) p = if (hasB of a.e && decide (a.f * E + a.e = (p : Int))) = true then tabL ars of E N k p ++ [a.t] else tabL ars of E N k p := by
  have ha := ha.out
  rw [List.getElem?_eq_getElem h, Option.getD_some] at ha
  unfold tabL
  rw [List.take_add_one, List.getElem?_eq_getElem h, ← ha, List.filter_append, List.map_append]
  by_cases c : (hasB of a.e && decide (a.f * E + a.e = (p : Int))) = true
  · rw [if_pos c, ← List.append_assoc]
    congr 1
    simp only [Option.toList_some, List.filter_cons, c, if_true, List.filter_nil, List.map_cons, List.map_nil]
  · rw [if_neg c]
    simp only [Option.toList_some, List.filter_cons, c, Bool.false_eq_true, if_false, List.filter_nil, List.map_nil, List.append_nil]
theorem place_iff {f e : Int} {E s k : Nat} (hf : 0 ≤ f) (he : 0 ≤ e ∧ e < E) (hk : k < E) : f * E + e = ((s * E + k : Nat) : Int) ↔ f = s ∧ e = k := by
  constructor
  · intro h
    obtain ⟨F, rfl⟩ : ∃ F : Nat, f = F := ⟨f.toNat, by omega⟩
    obtain ⟨G, rfl⟩ : ∃ G : Nat, e = G := ⟨e.toNat, by omega⟩
    have h' : F * E + G = s * E + k := by
      have : ((F * E + G : Nat) : Int) = ((s * E + k : Nat) : Int) := by rw [← h]; simp
      exact Int.ofNat.inj this
    have hG : G < E := by omega
    have hE : 0 < E := by omega
    have h1 : (F * E + G) / E = (s * E + k) / E := by rw [h']
    rw [Nat.mul_comm F, Nat.mul_comm s, Nat.mul_add_div hE, Nat.mul_add_div hE, Nat.div_eq_of_lt hG, Nat.div_eq_of_lt hk] at h1
    have h2 : F = s := by omega
    subst h2
    have : G = k := by omega
    subst this
    exact ⟨rfl, rfl⟩
  · rintro ⟨rfl, rfl⟩; simp
theorem tabL_end {m : Mach} (hm : mayB m = true) {E : Nat} (hE : m.ev = (E : Int)) (of : List Int) {N s k : Nat} (hN : s * E + k < N) (hk : k < E) : tabL m.arrows of E N m.arrows.length (s * E + k) = toL m.arrows of s k := by
  have e1 : (s * E + k) % E = k := by rw [Nat.mul_comm, Nat.mul_add_mod, Nat.mod_eq_of_lt hk]
  have e2 : (s * E + k) / E = s := by rw [Nat.mul_comm, Nat.mul_add_div (by omega), Nat.div_eq_of_lt hk]; omega
  unfold tabL tab0 toL tosL
  rw [List.take_of_length_le (Nat.le_refl _), e1, e2]
  have hfil : ∀ a ∈ m.arrows, (hasB of a.e && decide (a.f * E + a.e = ((s * E + k : Nat) : Int))) = (hasB of (k : Int) && (a.f == (s : Int) && a.e == (k : Int))) := by
    intro a ha
    have hin := may_arrs hm a ha
    unfold arrIn at hin
    have hp := place_iff (f := a.f) (e := a.e) (E := E) (s := s) (k := k) hin.1 ⟨hin.2.2.2.2.1, by rw [← hE]; exact hin.2.2.2.2.2⟩ hk
    by_cases hc : a.f = (s : Int) ∧ a.e = (k : Int)
    · rw [hc.1, hc.2]; simp
    · have h1 : decide (a.f * E + a.e = ((s * E + k : Nat) : Int)) = false := by
        rw [decide_eq_false_iff_not]; exact fun h => hc (hp.1 h)
      have h2 : (a.f == (s : Int) && a.e == (k : Int)) = false := by
        rw [← Bool.not_eq_true]; simp; exact fun h1 h2 => hc ⟨h1, h2⟩
      rw [h1, h2]; simp
  rw [List.filter_congr hfil]
  cases hb : hasB of (k : Int) with
  | true => simp
  | false => simp [hN]
end Go.Proofs.YtdnglodemkeooaaDoor
namespace Go.Proofs.YtdnglodemkeooaaDoor
open Go.RowKit
set_option linter.unusedVariables false

/-- The table at block bt: N rows, made from block B on, no two in one block. -/
structure TW (B : Nat) (W : World) (bt N : Nat) (vv : Nat → Value) (T : Nat → List Int) : Prop where
  blk : ∃ cs, Blk W bt 22 cs ∧ cs.size = N ∧ ∀ p, p < N → cs[p]? = some (vv p)
  own : ∀ p, p < N → Own W B (vv p) (T p)
  ne : ∀ p q, p < N → q < N → p ≠ q → (vv p).ownBlock = none ∨ (vv p).ownBlock ≠ (vv q).ownBlock
  lo : B ≤ bt
def upd {α : Type} (f : Nat → α) (p : Nat) (x : α) : Nat → α := fun q => if q = p then x else f q
theorem upd_same {α : Type} (f : Nat → α) (p : Nat) (x : α) : upd f p x p = x := if_pos rfl
theorem upd_other {α : Type} (f : Nat → α) {p q : Nat} (h : q ≠ p) (x : α) : upd f p x q = f q := if_neg h
section
variable {B : Nat} {W W' : World} {bt N : Nat} {vv : Nat → Value} {T : Nat → List Int}
theorem TW.lt (h : TW B W bt N vv T) : bt < W.heap.size := by obtain ⟨cs, hb, -⟩ := h.blk; exact hb.lt
theorem TW.below (h : TW B W bt N vv T) (hb : Below W.heap.size W W') : TW B W' bt N vv T := by
  obtain ⟨cs, h1, h2, h3⟩ := h.blk
  exact ⟨⟨cs, h1.below hb h1.lt, h2, h3⟩, fun p hp => own_same (h.own p hp) (fun k hk => hb.block k (World.ownsRow.lt (h.own p hp) k hk).2), h.ne, h.lo⟩
theorem TW.cell (h : TW B W bt N vv T) {p : Nat} (hp : p < N) : W.cell? ⟨bt, p, none⟩ = some (vv p) := by
  obtain ⟨cs, h1, h2, h3⟩ := h.blk; exact h1.cell p (h3 p hp)
theorem TW.apart (h : TW B W bt N vv T) {p : Nat} (hp : p < N) : (vv p).ownBlock ≠ some bt := fun hk => by
  obtain ⟨cs, h1, -⟩ := h.blk
  obtain ⟨c2, h2⟩ := own_type (h.own p hp) hk
  rw [show W.heap[bt]? = _ from h1] at h2
  cases h2
/-- A row is another one: in its old block, or in a new one. -/
theorem TW.store {W3 W2 : World} {v : Value} {xs : List Int} {p : Nat} (h : TW B W bt N vv T) (hp : p < N) (hW3 : Below W.heap.size W W3) (o1 : Own W2 B v xs) (g : W3.grownBy W2 (vv p).ownBlock) (hb : v.ownBlock = (vv p).ownBlock ∨ ∃ k, v.ownBlock = some k ∧ W.heap.size ≤ k) (T' : Nat → List Int) (hT : ∀ q, q < N → T' q = upd T p xs q) :
    W2.cell? ⟨bt, p, none⟩ = some (vv p) ∧ (∀ j, W2.frozen? ⟨bt, j, none⟩ = false) ∧ TW B (W2.setCell ⟨bt, p, none⟩ v) bt N (upd vv p v) T' ∧ (∀ n, n ≤ B → B ≤ W.heap.size → Below n W (W2.setCell ⟨bt, p, none⟩ v)) := by
  have h1 := h.below hW3
  obtain ⟨cs, c1, c2, c3⟩ := h1.blk
  have hap := h1.apart hp
  have b2 : Blk W2 bt 22 cs := (g.block bt c1.lt (fun e => hap e.symm)).trans c1
  have hvb : v.ownBlock ≠ some bt := by
    rcases hb with hb | ⟨k, hb, hk⟩
    · rw [hb]; exact hap
    · rw [hb]; intro e; have := Option.some.inj e; have := h.lt; omega
  refine ⟨b2.cell p (c3 p hp), b2.frozen, ⟨⟨cs.setIfInBounds p v, b2.set p v, by simp [c2], fun q hq => ?_⟩, fun q hq => ?_, fun q r hq hr hne => ?_, h.lo⟩, fun n hn hB => ?_⟩
  · by_cases e : q = p
    · subst e; rw [upd_same, Array.getElem?_setIfInBounds, if_pos rfl, if_pos (by omega)]
    · rw [upd_other _ e, Array.getElem?_setIfInBounds, if_neg (fun h => e h.symm)]; exact c3 q hq
  · rw [hT q hq]
    by_cases e : q = p
    · subst e; rw [upd_same, upd_same]
      exact own_same o1 (fun k hk => Below.heap_setCell _ _ _ _ (fun e => hvb (by rw [hk, e])))
    · rw [upd_other _ e, upd_other _ e]
      refine own_same (h1.own q hq) (fun k hk => ?_)
      rw [Below.heap_setCell _ _ _ _ (fun e => h1.apart hq (by rw [hk, e]))]
      refine g.block k (World.ownsRow.lt (h1.own q hq) k hk).2 (fun e1 => ?_)
      rcases h.ne q p hq hp e with h2 | h2
      · rw [h2] at hk; cases hk
      · exact h2 (hk.trans e1)
  · have key : ∀ s, s < N → s ≠ p → v.ownBlock = none ∨ v.ownBlock ≠ (vv s).ownBlock := fun s hs hsp => by
      rcases hb with hb | ⟨k, hb, hk⟩
      · rw [hb]; exact h.ne p s hp hs (Ne.symm hsp)
      · right; rw [hb]; intro e
        have := (World.ownsRow.lt (h.own s hs) k e.symm).2; omega
    by_cases e : q = p
    · subst e; rw [upd_same, upd_other _ (Ne.symm hne)]; exact key r hr (Ne.symm hne)
    · rw [upd_other _ e]
      by_cases e' : r = p
      · subst e'; rw [upd_same]
        rcases key q hq e with h2 | h2
        · cases hqv : (vv q).ownBlock with
          | none => exact .inl rfl
          | some j => right; rw [h2]; simp
        · exact .inr (fun h3 => h2 h3.symm)
      · rw [upd_other _ e']; exact h.ne q r hq hr hne
  · have hr : ∀ k, (vv p).ownBlock = some k → n ≤ k := fun k hk => Nat.le_trans hn (World.ownsRow.lt (h.own p hp) k hk).1
    have t1 : Below n W W3 := hW3.mono (Nat.le_trans hn hB)
    have t2 : Below n W W2 := t1.grown g (Nat.le_trans (Nat.le_trans hn hB) hW3.size) hr
    exact t2.setCell (p := ⟨bt, p, none⟩) (Nat.le_trans hn h.lo) v
/-- The table is read: what lies in no block of F. -/
structure RT (F : Nat → Prop) (W : World) (bt N : Nat) (T : Nat → List Int) : Prop where
  lt : bt < W.heap.size
  nf : ¬ F bt
  row : ∀ p, p < N → ∃ a c, W.cell? ⟨bt, p, none⟩ = some (.slice a (T p).length c) ∧ AtF W F a (T p)
theorem RT.turn {F F' : Nat → Prop} (h : RT F W bt N T) (t : Turn F F' W W') : RT F' W' bt N T := by
  refine ⟨Nat.lt_of_lt_of_le h.lt t.size, fun hF => ?_, fun p hp => ?_⟩
  · rcases t.fp bt hF with h1 | h1
    · exact h.nf h1
    · have := h.lt; omega
  · obtain ⟨a, c, h1, h2⟩ := h.row p hp
    exact ⟨a, c, (World.cell?_of_block (w := W) (t.block bt h.lt h.nf)).trans h1, h2.turn t⟩
theorem TW.rt {F : Nat → Prop} (h : TW B W bt N vv T) (hF : ∀ j, F j → j < B) : RT F W bt N T := by
  refine ⟨h.lt, fun hf => by have := hF _ hf; have := h.lo; omega, fun p hp => ?_⟩
  have ho := h.own p hp
  rcases ho.2 with ⟨hv, hn⟩ | ⟨g, cap, cur, hv, hg, hh, hnc, hcm, hcs, ht⟩
  · exact ⟨none, 0, by rw [h.cell hp, hv, hn], .inl (List.eq_nil_of_length_eq_zero hn)⟩
  · refine ⟨_, cap, by rw [h.cell hp, hv], .inr ⟨g, 0, rfl, (Array.getElem?_eq_some_iff.1 hh).1, fun hf => by have := hF _ hf; omega, fun j hj => ?_⟩⟩
    have hB : Blk W g 3 cur := hh
    refine hB.cell _ ?_
    have h1 : (cur.toList.take ((T p).length * 1))[j]? = some (.int .i64 ((T p).getD j 0)) := by
      rw [ht, List.getElem?_map, List.getElem?_eq_getElem hj]; simp [List.getElem?_eq_getElem hj]
    rw [List.getElem?_take_of_lt (by omega), Array.getElem?_toList] at h1
    rw [Nat.zero_add]; exact h1
end

end Go.Proofs.YtdnglodemkeooaaDoor
namespace Go.Proofs.YtdnglodemkeooaaDoor
open Go.RowKit
set_option linter.unusedVariables false

theorem TW.made {B : Nat} {W : World} {bt N : Nat} (h : Blk W bt 22 (madeCells #[.slice none 0 0] N)) (hB : B ≤ bt) : TW B W bt N (fun _ => .slice none 0 0) (fun _ => []) := by
  refine ⟨⟨_, h, size_madeCells _ _, fun p hp => ?_⟩, fun p hp => World.ownsRow_nil _ _ _ _, fun p q _ _ _ => .inl rfl, hB⟩
  unfold madeCells
  rw [Array.getElem?_map, Array.getElem?_range, if_pos hp]
  simp [Nat.mod_one]
theorem TW.congr {B : Nat} {W : World} {bt N : Nat} {vv : Nat → Value} {T T' : Nat → List Int} (h : TW B W bt N vv T) (hT : ∀ p, p < N → T' p = T p) : TW B W bt N vv T' :=
  ⟨h.blk, fun p hp => by rw [hT p hp]; exact h.own p hp, h.ne, h.lo⟩
theorem w64_in (n : Int) (h : -9223372036854775808 ≤ n ∧ n ≤ 9223372036854775807) : wrap64 n = n := by unfold wrap64; omega
/-- What leads leaves. -/
def LeadsPost (w : World) (N : Nat) (T : Nat → List Int) (e : Ending) (w' : World) : Prop :=
  ∃ bt vv, e = .returned (.slice (some ⟨bt, 0, none⟩) N N) ∧ TW w.heap.size w' bt N vv T ∧ Below w.heap.size w w'

set_option maxRecDepth 100000 in
set_option maxHeartbeats 8000000 in
theorem leads_some (S0 E0 : Nat) (starts : List Int) (ars : List Arr) (ends : List Int) (a1 : Option Addr) (c1 : Nat) (a2 : Option Addr) (c2 : Nat) (a3 : Option Addr) (c3 : Nat) (fa : Option Addr) (fc : Nat) (of : List Int) (w : World) (hS : S0 ≤ 256) (hE : E0 ≤ 8) (hlen : ars.length ≤ 4096) (hca : Hid (AtA w a2 ars)) (hin : Hid (∀ a ∈ ars, (0 ≤ a.f ∧ a.f < (S0 : Int)) ∧ 0 ≤ a.e ∧ a.e < (E0 : Int))) (hof : Hid (At w fa of)) (hofl : Hid (of.length ≤ maxLen)) :
    Calls Tryd.prog 69 #[mval ⟨S0, E0, starts, ars, ends⟩ ⟨a1, c1, a2, c2, a3, c3⟩, .slice fa of.length fc] w fun e w' => LeadsPost w (S0 * E0) (tabL ars of E0 (S0 * E0) ars.length) e w' := by
  obtain ⟨i0, hi, hz0, hz1, hz2⟩ := info_parts Tryd.infoInts
  have hN : S0 * E0 ≤ 2048 := Nat.le_trans (Nat.mul_le_mul hS hE) (by decide)
  obtain ⟨N, HN⟩ : ∃ N, Hid (N = S0 * E0) := ⟨_, rfl⟩
  have hmul : ((S0 : Int) * (E0 : Int)) = (N : Int) := by rw [HN.out]; simp
  rw [← HN.out] at hN ⊢
  have hmk : ∀ w : World, (Instr.makeSlice 45 (.int .i64 N) (.int .i64 N)).run Tryd.prog w = .ok (.slice (some ⟨w.heap.size, 0, none⟩) N N) (w.alloc (.cells (madeCells #[.slice none 0 0] N) 22)) := fun w => by
    have := run_make (P := Tryd.prog) w 45 22 i0 (.slice none 0 0) Tryd.underlying45 hi hz0 .i64 .i64 N N (by omega) (by omega) (by rw [hz2]; omega) (by omega)
    rw [hz1, Int.toNat_natCast, Nat.mul_one] at this
    exact this
  clear hi hz0 hz1 hz2
  obtain ⟨j0, ji, jz0, jz1, jz2⟩ := info_parts Tryd.infoInt
  have hw1 : IntKind.i64.wrap ((S0 : Int) * (E0 : Int)) = (N : Int) := by rw [hmul]; simp [IntKind.wrap, IntKind.bits, IntKind.signed]; omega
  go_enter Tryd.func69, Tryd.ntmps69
  go_wp2_with fail
  go_loopw [18] (fun i wr => ∃ (k : Nat) (vv : Nat → Value), k ≤ N ∧ i = .int .i64 k ∧ Hid (Blk wr w.heap.size 25 (mcells ⟨S0, E0, starts, ars, ends⟩ ⟨a1, c1, a2, c2, a3, c3⟩)) ∧ Hid (TW w.heap.size wr (w.heap.size + 1) N vv (tab0 of E0 k)) ∧ Hid (Below w.heap.size w wr)) (fun i _ => N - (intOf i).toNat)
  case atStart =>
    refine ⟨0, fun _ => .slice none 0 0, by omega, rfl, (Blk.new w _ _).alloc _, ?_, ((Below.refl _ _).alloc (Nat.le_refl _) _).alloc (by simp) _⟩
    have := Blk.new (w.alloc (.cells (mcells ⟨S0, E0, starts, ars, ends⟩ ⟨a1, c1, a2, c2, a3, c3⟩) 25)) 22 (madeCells #[.slice none 0 0] N)
    rw [World.size_alloc] at this
    exact (TW.made (B := w.heap.size) this (Nat.le_succ _)).congr (T' := tab0 of E0 0) (fun p _ => by simp [tab0])
  case round =>
    clear hmk
    obtain ⟨k, vv, hk, rfl, HM, HT, HB⟩ := hrel
    obtain ⟨x0, x1, x2, x3, x4⟩ := mcell_at HM.out
    by_cases hlt : k < N
    · have hE0 : 0 < E0 := by
        rcases Nat.eq_zero_or_pos E0 with h | h
        · rw [HN.out, h] at hlt; simp at hlt
        · exact h
      have hmc : ((k : Int) % (E0 : Int)) = ((k % E0 : Nat) : Int) := by simp
      have hdc : ((k : Int) / (E0 : Int)) = ((k / E0 : Nat) : Int) := by simp
      have hml : k % E0 < E0 := Nat.mod_lt _ hE0
      have hlb := HM.out.lt
      have HMC := Hid.of hmc
      have HDC := Hid.of hdc
      have hkd : k / E0 ≤ k := Nat.div_le_self _ _
      have hwq : wrap64 ((k : Int) / (E0 : Int)) = (k : Int) / (E0 : Int) := w64_in _ (by rw [hdc]; generalize k / E0 = d at hkd; omega)
      clear hmc hdc
      have hHas := fun W (hW : Below w.heap.size w W) => rowHas_any fa fc of ((k : Int) % (E0 : Int)) W (hof.out.below hW (Nat.le_refl _)) hofl.out
      have HHas := Hid.of hHas
      clear hHas
      cases hh : hasB of ((k : Int) % (E0 : Int)) with
      | true =>
        have HNX : Hid (∀ p, p < N → tab0 of E0 (k + 1) p = tab0 of E0 k p) := fun p _ => tab0_skip (by rw [← HMC.out]; exact hh) p
        go_wp2_with fail
        refine (HHas.out _ HB.out).mono ?_
        rintro e w1 ⟨rfl, rfl⟩
        rw [hh]
        go_wp2_with fail
        go_roundw
        case rel => exact ⟨k + 1, vv, by omega, by go_num, HM, HT.out.congr HNX.out, HB⟩
        case measure => simp [intOf]; omega
      | false =>
        obtain ⟨z1, zf, hT2, hB2⟩ := HT.out.store (W3 := wr.alloc (.cells #[.int .i64 ((k : Int) / (E0 : Int))] 3)) (W2 := wr.alloc (.cells #[.int .i64 ((k : Int) / (E0 : Int))] 3)) (v := .slice (some ⟨wr.heap.size, 0, none⟩) 1 1) (xs := [(k : Int) / (E0 : Int)]) hlt ((Below.refl _ _).alloc (Nat.le_refl _) _) (World.ownsRow_lit wr #[.int .i64 ((k : Int) / (E0 : Int))] 1 HB.out.size (by unfold maxLen; omega) rfl) ⟨rfl, rfl, rfl, Nat.le_refl _, fun _ _ _ => rfl⟩ (.inr ⟨_, rfl, Nat.le_refl _⟩) (tab0 of E0 (k + 1)) (fun q hq => by
          by_cases e : q = k
          · subst e; rw [upd_same, tab0_put (by rw [← HMC.out]; exact hh), HDC.out]
          · rw [upd_other _ e]; exact tab0_other e)
        have HT2 := Hid.of hT2
        have HB2 := Hid.of (HB.out.trans (hB2 w.heap.size (Nat.le_refl _) HB.out.size))
        have HM2 := Hid.of (((HM.out.alloc (.cells #[.int .i64 ((k : Int) / (E0 : Int))] 3)).other (b' := w.heap.size + 1) (j := k) (by omega) (.slice (some ⟨wr.heap.size, 0, none⟩) 1 1)))
        clear hT2 hB2
        have hlt1 := HT.out.lt
        rw [World.setCell_alloc_past _ _ _ _ hlt1] at HT2 HB2 HM2
        go_wp2_with fail
        refine (HHas.out _ HB.out).mono ?_
        rintro e w1 ⟨rfl, rfl⟩
        rw [hh]
        go_wp2_with fail
        go_roundw
        case rel => exact ⟨k + 1, _, by omega, by go_num, HM2, HT2, HB2⟩
        case measure => simp [intOf]; omega
    · have hkN : k = N := by omega
      subst hkN
      have HT0 : Hid (TW w.heap.size wr (w.heap.size + 1) k vv (tabL ars of E0 k 0)) := HT.out.congr (fun p _ => tabL_zero _ _ _ _ _)
      clear HT
      go_wp2_with fail
      clear x0 x1 x2 x3 x4
      go_loopw [40] (fun i wr => ∃ (q : Nat) (vv : Nat → Value), q ≤ ars.length ∧ i = .int .i64 q ∧ Hid (Blk wr w.heap.size 25 (mcells ⟨S0, E0, starts, ars, ends⟩ ⟨a1, c1, a2, c2, a3, c3⟩)) ∧ Hid (TW w.heap.size wr (w.heap.size + 1) k vv (tabL ars of E0 k q)) ∧ Hid (Below w.heap.size w wr)) (fun i _ => ars.length - (intOf i).toNat)
      case atStart => exact ⟨0, vv, Nat.zero_le _, rfl, HM, HT0, HB⟩
      case round =>
        clear HM HT0 HB
        obtain ⟨q, vv, hq, rfl, HM, HT, HB⟩ := hrel
        obtain ⟨x0, x1, x2, x3, x4⟩ := mcell_at HM.out
        have hlb := HM.out.lt
        by_cases hqt : q < ars.length
        · have hat2 : AtA wr a2 ars := hca.out.below HB.out (Nat.le_refl _)
          rcases hat2 with hat2 | ⟨b, off, ha2, hb, hcc⟩
          · rw [hat2] at hqt; simp at hqt
          obtain ⟨a, HA, y0, y1, y2⟩ := hcc.at hqt
          subst ha2
          clear hcc
          have HAM : Hid ((0 ≤ a.f ∧ a.f < (S0 : Int)) ∧ 0 ≤ a.e ∧ a.e < (E0 : Int)) := hin.out a (by rw [HA.out, List.getElem?_eq_getElem hqt]; exact List.getElem_mem hqt)
          have hHas := fun W (hW : Below w.heap.size w W) => rowHas_any fa fc of a.e W (hof.out.below hW (Nat.le_refl _)) hofl.out
          have HHas := Hid.of hHas
          clear hHas
          have HE : Hid (tabL ars of E0 k (q + 1) = fun p : Nat => if (hasB of a.e && decide (a.f * E0 + a.e = (p : Int))) = true then tabL ars of E0 k q p ++ [a.t] else tabL ars of E0 k q p) := by
            show _ = _
            funext p; exact tabL_next hqt HA
          have HBA := Hid.of (HB.out.alloc HB.out.size (.cells #[.int .i64 a.f, .int .i64 a.e, .int .i64 a.t] 58))
          have HTA := Hid.of (HT.out.below ((Below.refl _ _).alloc (Nat.le_refl _) (.cells #[.int .i64 a.f, .int .i64 a.e, .int .i64 a.t] 58)))
          have HMA := Hid.of (HM.out.alloc (.cells #[.int .i64 a.f, .int .i64 a.e, .int .i64 a.t] 58))
          have HAA := Hid.of (Blk.new wr 58 #[.int .i64 a.f, .int .i64 a.e, .int .i64 a.t])
          cases hh : hasB of a.e with
          | false =>
            rw [hh] at HE
            go_wp2_with fail
            refine (HHas.out _ HBA.out).mono ?_
            rintro e w1 ⟨rfl, rfl⟩
            rw [hh]
            go_wp2_with fail
            go_roundw
            case rel => exact ⟨q + 1, vv, by omega, by go_num, HMA, by show TW _ _ _ _ _ _; rw [HE.out]; exact HTA.out, HBA⟩
            case measure => simp [intOf]; omega
          | true =>
            obtain ⟨P0, HP0⟩ : ∃ P0 : Nat, Hid ((P0 : Int) = a.f * E0 + a.e ∧ P0 < k) := by
              obtain ⟨F, hF⟩ : ∃ F : Nat, a.f = F := ⟨a.f.toNat, by have := HAM.out.1.1; omega⟩
              obtain ⟨G, hG⟩ : ∃ G : Nat, a.e = G := ⟨a.e.toNat, by have := HAM.out.2.1; omega⟩
              refine ⟨F * E0 + G, by rw [hF, hG]; simp, ?_⟩
              have h1 : F < S0 := by have := HAM.out.1.2; omega
              have h2 : G < E0 := by have := HAM.out.2.2; omega
              rw [HN.out]
              have h3 : (F + 1) * E0 ≤ S0 * E0 := Nat.mul_le_mul_right _ h1
              rw [Nat.succ_mul] at h3
              omega
            have hpk := HP0.out.2
            have hpv := HP0.out.1
            have HE2 : Hid (∀ p, p < k → tabL ars of E0 k (q + 1) p = upd (tabL ars of E0 k q) P0 (tabL ars of E0 k q P0 ++ [a.t]) p) := fun p hp => by
              rw [HE.out]
              show (if _ then _ else _) = _
              by_cases e : p = P0
              · subst e; rw [upd_same, if_pos]; simp [hh]; omega
              · rw [upd_other _ e, if_neg]; simp [hh]; omega
            clear hpv HE
            have hwm : wrap64 (a.f * (E0 : Int) + a.e) = (P0 : Int) := by rw [← HP0.out.1]; exact w64_in _ (by omega)
            have hb1 : 0 ≤ a.f * (E0 : Int) ∧ a.f * (E0 : Int) ≤ (P0 : Int) := by
              have h0 := HAM.out
              exact ⟨Int.mul_nonneg h0.1.1 (by omega), by have := HP0.out.1; have := h0.2.1; omega⟩
            have hwn : wrap64 (a.f * (E0 : Int)) = a.f * (E0 : Int) := w64_in _ (by omega)
            go_wp2_with fail
            refine (HHas.out _ HBA.out).mono ?_
            rintro e w1 ⟨rfl, rfl⟩
            rw [hh]
            clear x0 x1 x2 x3 x4 y0 y1 y2
            revert HBA HTA HMA HAA
            generalize hV : wr.alloc (.cells #[.int .i64 a.f, .int .i64 a.e, .int .i64 a.t] 58) = V
            intro HBA HTA HMA HAA
            obtain ⟨x0, x1, x2, x3, x4⟩ := mcell_at HMA.out
            have y0 : V.cell? ⟨wr.heap.size, 0, none⟩ = some (.int .i64 a.f) := HAA.out.cell 0 rfl
            have y1 : V.cell? ⟨wr.heap.size, 1, none⟩ = some (.int .i64 a.e) := HAA.out.cell 1 rfl
            have y2 : V.cell? ⟨wr.heap.size, 2, none⟩ = some (.int .i64 a.t) := HAA.out.cell 2 rfl
            have hl1 := HMA.out.lt
            have hl2 := HAA.out.lt
            have hl3 := HTA.out.lt
            clear hV HM HT HB HHas hb hlb
            obtain ⟨ra, rc, hrv, hr1, hr2, hr3⟩ := own_form2 (HTA.out.own P0 hpk)
            have hzp := HTA.out.cell hpk
            rw [hrv] at hzp
            have HRV := Hid.of hrv
            clear hrv
            have MNE : Hid ((Value.slice ra (tabL ars of E0 k q P0).length rc).ownBlock ≠ some w.heap.size) := fun e => by
              rw [← HRV.out] at e
              obtain ⟨cs, hc⟩ := own_type (HTA.out.own P0 hpk) e
              rw [show V.heap[w.heap.size]? = _ from HMA.out] at hc; cases hc
            have hRl : (tabL ars of E0 k q P0).length ≤ 4097 := by
              unfold tabL tab0
              rw [List.length_append, List.length_map]
              have h1 : ((ars.take q).filter fun a => hasB of a.e && decide (a.f * E0 + a.e = (P0 : Int))).length ≤ ars.length := Nat.le_trans (List.length_filter_le _ _) (List.length_take_le' _ _)
              split <;> simp <;> omega
            go_wp2_with fail
            go_region_law (first | (refine step_append_block rfl (.tmp 61) (.tmp 64) 22 rfl w.heap.size 3 j0 (.int .i64 0) 1 8 Tryd.underlying22 ji jz0 jz1 jz2 rfl (by decide) _ (tabL ars of E0 k q P0).length ((tabL ars of E0 k q P0).map (Value.int .i64)) rfl (World.ownsRow.alloc (own_same (W := V) (by rw [← HRV.out]; exact HTA.out.own P0 hpk) (fun _ _ => rfl)) _) ⟨V.heap.size, 0, none⟩ 1 1 [.int .i64 a.t] rfl rfl (cell_one_new _ _ _) (by intro u hu; simp at hu; subst hu; rfl) (by decide) (by unfold maxLen; omega) (by omega) (Nat.le_trans HBA.out.size (((Below.refl _ V).drew).alloc (Nat.le_refl _) _).size) ?_; intro v9 w9 o9 g9 n9; obtain ⟨ga, gc, hv9, -, -, -⟩ := own_form2 o9; subst hv9; obtain ⟨e1, e2, e3, e4⟩ := HTA.out.store (v := .slice ga ((tabL ars of E0 k q P0).length + 1) gc) (xs := tabL ars of E0 k q P0 ++ [a.t]) hpk (((Below.refl _ V).drew).alloc (Nat.le_refl _) _) (show World.ownsRow _ _ _ _ _ _ _ by rw [List.length_append, List.map_append]; exact o9) (by rw [HRV.out]; exact g9) (by rw [HRV.out]; exact n9.imp id (fun h => ⟨_, h, (((Below.refl _ V).drew).alloc (Nat.le_refl _) _).size⟩)) (tabL ars of E0 k (q + 1)) HE2.out; rw [HRV.out] at e1; have M9 := Hid.of (Blk.other (b' := w.heap.size + 1) (j := P0) ((g9.block w.heap.size (Nat.lt_of_lt_of_le hl1 (((Below.refl _ V).drew).alloc (Nat.le_refl _) _).size) (fun e => MNE.out e.symm)).trans (HMA.out.below (((Below.refl _ V).drew).alloc (Nat.le_refl _) _) hl1)) (by omega) (.slice ga ((tabL ars of E0 k q P0).length + 1) gc)); have E3 := Hid.of e3; have E4 := Hid.of (e4 w.heap.size (Nat.le_refl _) HBA.out.size); clear e3 e4 o9 g9 n9))
            all_goals
              have M4 : Hid (Blk (w9.setCell ⟨w.heap.size + 1, P0, none⟩ (.slice ga ((tabL ars of E0 k q P0).length + 1) gc)) w.heap.size 25 (mcells ⟨S0, E0, starts, ars, ends⟩ ⟨a1, c1, some ⟨b, off, none⟩, c2, a3, c3⟩)) := M9.out
              go_wp2_with fail
              go_roundw
              case rel => exact ⟨q + 1, _, by omega, by go_num, M4, E3, HBA.out.trans E4.out⟩
              case measure => simp [intOf]; omega
        · have hqq : q = ars.length := by omega
          subst hqq
          go_wp2_with fail
          go_ret
          exact ⟨_, vv, rfl, HT.out, HB.out⟩

end Go.Proofs.YtdnglodemkeooaaDoor
