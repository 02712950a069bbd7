/-
  A map from signs of states to numbers, as the model runs it: the numbers in the order in which the signs came.
  The walk of jalousieref8.Apart.
  The walk of least.number: what numbers signs get.
-/
import Derived.Test.YtbdkaobbfmgnhaaDoorG16
import Derived.Test.YtbdkaobbfmgnhaaDoorG23
import Derived.Laws.MakeOwn
import Derived.Deep.RegionHeld3
import Derived.Test.YtbdkaobbfmgnhaaDoorG04
import Derived.Test.YtbdkaobbfmgnhaaDoorG18
import Derived.Test.YtbdkaobbfmgnhaaDoorG20
namespace Go.Proofs.YtbdkaobbfmgnhaaDoor
open Go.RowKit
set_option linter.unusedVariables false

/-- A sign: nine numbers. -/
abbrev gvalL (l : List Nat) : Value := .agg (l.map fun (x : Nat) => Value.int .i64 (x : Int)).toArray
def okG (l : List Nat) : Prop := l.length = 9 ∧ ∀ x ∈ l, x ≤ 256
theorem nine {l : List Nat} (h : l.length = 9) : ∃ a b c d e f g i j, l = [a, b, c, d, e, f, g, i, j] := by
  match l, h with
  | [a, b, c, d, e, f, g, i, j], _ => exact ⟨a, b, c, d, e, f, g, i, j, rfl⟩
theorem wf_i64 {n : Nat} (h : n ≤ 256) : (Lit.int .i64 (n : Int)).wf = true := by
  have h1 : IntKind.i64.min = -9223372036854775808 := rfl
  have h2 : IntKind.i64.max = 9223372036854775807 := rfl
  simp [Lit.wf, h1, h2]; omega
theorem rowG : (175 : TypeId) < Tryd.prog.types.size := of_decide_eq_true (by kernel_rfl)
theorem wideG : (match Tryd.prog.underlying 175 with | some (.array _ _) | some (.struct _) => true | _ => false) = true := by kernel_rfl
set_option maxRecDepth 100000 in
theorem lawG : WideMaps.KeyLaw Tryd.prog 175 := deep_law_laid laidOutS (m := 5) (by omega) rowG (by kernel_rfl) wideG
set_option maxRecDepth 100000 in
theorem keyG {l : List Nat} (h : okG l) : ∃ k, keyOf Tryd.prog 175 (gvalL l) = some k := by
  obtain ⟨a0, a1, a2, a3, a4, a5, a6, a7, a8, rfl⟩ := nine h.1
  have h0 := wf_i64 (h.2 a0 (by simp))
  have h1 := wf_i64 (h.2 a1 (by simp))
  have h2 := wf_i64 (h.2 a2 (by simp))
  have h3 := wf_i64 (h.2 a3 (by simp))
  have h4 := wf_i64 (h.2 a4 (by simp))
  have h5 := wf_i64 (h.2 a5 (by simp))
  have h6 := wf_i64 (h.2 a6 (by simp))
  have h7 := wf_i64 (h.2 a7 (by simp))
  have h8 := wf_i64 (h.2 a8 (by simp))
  have hk : Tryd.prog.keyType 175 = true := by kernel_rfl
  have hp : Tryd.prog.cellsOf 175 = 9 := by kernel_rfl
  have hc : Tryd.prog.cellsOf 173 = 8 := by kernel_rfl
  have hci : Tryd.prog.cellsOf 3 = 1 := by kernel_rfl
  have hs : ∃ m, Tryd.prog.types.size = m + 1 + 1 := ⟨Tryd.prog.types.size - 2, by have : 2 ≤ Tryd.prog.types.size := of_decide_eq_true (by kernel_rfl); omega⟩
  obtain ⟨m, hm⟩ := hs
  show ∃ k, keyOf Tryd.prog 175 (.agg #[.int .i64 a0, .int .i64 a1, .int .i64 a2, .int .i64 a3, .int .i64 a4, .int .i64 a5, .int .i64 a6, .int .i64 a7, .int .i64 a8]) = some k
  unfold keyOf
  simp only [Tryd.underlying175]
  rw [if_pos (by simp [hk, Value.formed, Tryd.underlying175, hp]), hm]
  unfold Program.keyLits
  simp only [Tryd.underlying175, Value.cells]
  have hr : List.range 8 = [0, 1, 2, 3, 4, 5, 6, 7] := rfl
  simp [hp, hc, hci, Program.keyLits, Tryd.underlying173, Tryd.underlying3, hr, h0, h1, h2, h3, h4, h5, h6, h7, h8]
theorem map_inj : ∀ {l t : List Nat}, (l.map fun (x : Nat) => Value.int .i64 (x : Int)) = (t.map fun (x : Nat) => Value.int .i64 (x : Int)) → l = t
  | [], [], _ => rfl
  | [], _ :: _, h => by simp at h
  | _ :: _, [], h => by simp at h
  | a :: l, b :: t, h => by
    rw [List.map_cons, List.map_cons] at h
    injection h with h1 h2
    injection h1 with _ h1
    have e : a = b := by omega
    rw [e, map_inj h2]
theorem gvalL_inj {l t : List Nat} (h : gvalL l = gvalL t) : l = t := by
  have h1 : (l.map fun (x : Nat) => Value.int .i64 (x : Int)).toArray = (t.map fun (x : Nat) => Value.int .i64 (x : Int)).toArray := by injection h
  have h2 : (l.map fun (x : Nat) => Value.int .i64 (x : Int)) = (t.map fun (x : Nat) => Value.int .i64 (x : Int)) := by simpa using h1
  exact map_inj h2
/-- A thing's place in a list. -/
def idxD {σ : Type} [DecidableEq σ] (L : List σ) (s : σ) : Nat := L.idxOf s
theorem idxD_eq {σ : Type} [DecidableEq σ] {L : List σ} (hnd : L.Nodup) {s : σ} {j : Nat} (h : L[j]? = some s) : idxD L s = j := by
  have h4 := List.idxOf_lt_length_of_mem (List.mem_of_getElem? h)
  have h5 : L[L.idxOf s]? = some s := by rw [List.getElem?_eq_getElem h4]; exact congrArg some (List.getElem_idxOf h4)
  exact (List.getElem?_inj h4 hnd).1 (h5.trans h.symm)
def entT (k : Nat) (l : List Nat) : MapEntry := { key := gvalL l, val := .int .i64 k, born := k }
def entsT (L : List (List Nat)) : Array MapEntry := (L.mapIdx entT).toArray
theorem entsT_snoc (L : List (List Nat)) (l : List Nat) : entsT (L ++ [l]) = (entsT L).push (entT L.length l) := by
  unfold entsT; rw [List.mapIdx_concat]; simp
theorem find_sign {L : List (List Nat)} (hL : ∀ l ∈ L, okG l) (hnd : L.Nodup) {s : List Nat} (hs : okG s) (w : World) :
    (Instr.findKey 175 (gvalL s) (entsT L).toList).run Tryd.prog w = .ok (if s ∈ L then some (idxD L s, .int .i64 (idxD L s : Nat)) else none) w := by
  obtain ⟨kl, hl⟩ := keyG hs
  have hget : ∀ (j : Nat) e, (entsT L).toList[j]? = some e → ∃ T, L[j]? = some T ∧ e = entT j T := by
    intro j e h
    simp only [entsT] at h
    rw [List.getElem?_mapIdx] at h
    cases hq : L[j]? with
    | none => rw [hq] at h; cases h
    | some q => rw [hq] at h; exact ⟨q, rfl, (Option.some.inj h).symm⟩
  have hes : ∀ e ∈ (entsT L).toList, ∃ l, keyOf Tryd.prog 175 e.key = some l := by
    intro e he
    obtain ⟨j, hj⟩ := List.mem_iff_getElem?.1 he
    obtain ⟨T, hT, rfl⟩ := hget j e hj
    exact keyG (hL T (List.mem_of_getElem? hT))
  rcases lawG.find w hl (entsT L).toList hes with ⟨h1, h2⟩ | ⟨j, e, h1, h2, h3⟩
  · have hn : s ∉ L := fun hm => by
      obtain ⟨j, hj⟩ := List.mem_iff_getElem?.1 hm
      refine h2 (entT j s) (List.mem_of_getElem? (i := j) ?_) rfl
      simp only [entsT]
      rw [List.getElem?_mapIdx, hj]; rfl
    rw [h1, if_neg hn]
  · obtain ⟨T, hT, rfl⟩ := hget j e h2
    have e1 : T = s := gvalL_inj h3
    subst e1
    have hm := List.mem_of_getElem? hT
    have hj : idxD L T = j := idxD_eq hnd hT
    rw [h1, if_pos hm, hj]; rfl
theorem mapG : Tryd.prog.underlying 172 = some (.map 175 3) := by kernel_rfl
theorem lookT_known {L : List (List Nat)} (hL : ∀ l ∈ L, okG l) (hnd : L.Nodup) {s : List Nat} (hs : okG s) {w : World} {r c : Nat} (hm : w.heap[r]? = some (.map (entsT L) c)) (h : s ∈ L) :
    (Instr.lookup 172 (.map (some r)) (gvalL s) true).run Tryd.prog w = .ok (.tuple #[(.int .i64 (idxD L s : Nat)), .bool true]) w := by
  obtain ⟨kl, hl⟩ := keyG hs
  have h1 := find_sign hL hnd hs w
  rw [if_pos h] at h1
  simp [Instr.lookup, run_underlying mapG, MapKept.run_getObj_map hm, lawG.check w _ hl, h1, Result.andThen]
theorem lookT_new {L : List (List Nat)} (hL : ∀ l ∈ L, okG l) (hnd : L.Nodup) {s : List Nat} (hs : okG s) {w : World} {r c : Nat} (hm : w.heap[r]? = some (.map (entsT L) c)) (h : s ∉ L) :
    (Instr.lookup 172 (.map (some r)) (gvalL s) true).run Tryd.prog w = .ok (.tuple #[.int .i64 0, .bool false]) w := by
  obtain ⟨kl, hl⟩ := keyG hs
  have h1 := find_sign hL hnd hs w
  rw [if_neg h] at h1
  simp [Instr.lookup, run_underlying mapG, MapKept.run_getObj_map hm, lawG.check w _ hl, h1, Result.andThen]
theorem updT_new {L : List (List Nat)} (hL : ∀ l ∈ L, okG l) (hnd : L.Nodup) {s : List Nat} (hs : okG s) {w : World} {r : Nat} (hm : w.heap[r]? = some (.map (entsT L) L.length)) (h : s ∉ L) :
    (Instr.mapUpdate 172 (.map (some r)) (gvalL s) (.int .i64 (L.length : Nat))).run Tryd.prog w = .ok () (setMap w r (.map (entsT (L ++ [s])) (L.length + 1))) := by
  obtain ⟨kl, hl⟩ := keyG hs
  have h1 := find_sign hL hnd hs w
  rw [if_neg h] at h1
  simp [Instr.mapUpdate, run_underlying mapG, MapKept.run_getObj_map hm, lawG.check w _ hl, h1, MapKept.run_setObj_map _ hm, Result.andThen, setMap, entsT_snoc, entT]

/-! Signs in a row of cells. -/
/-- The sign at x of a row of numbers. -/
def sigF (F : Nat → Nat) (x : Nat) : List Nat := [F (x * 9), F (x * 9 + 1), F (x * 9 + 2), F (x * 9 + 3), F (x * 9 + 4), F (x * 9 + 5), F (x * 9 + 6), F (x * 9 + 7), F (x * 9 + 8)]
theorem sigF_ok {F : Nat → Nat} (h : ∀ j, F j ≤ 256) (x : Nat) : okG (sigF F x) := by
  refine ⟨rfl, fun y hy => ?_⟩
  unfold sigF at hy
  simp only [List.mem_cons, List.not_mem_nil, or_false] at hy
  rcases hy with e | e | e | e | e | e | e | e | e <;> rw [e] <;> exact h _
theorem sigF_iff (F : Nat → Nat) (x y : Nat) : sigF F x = sigF F y ↔ ∀ i, i < 9 → F (x * 9 + i) = F (y * 9 + i) := by
  unfold sigF
  simp only [List.cons.injEq, and_true]
  constructor
  · rintro ⟨h0, h1, h2, h3, h4, h5, h6, h7, h8⟩ i hi
    match i, hi with
    | 0, _ => exact h0
    | 1, _ => exact h1
    | 2, _ => exact h2
    | 3, _ => exact h3
    | 4, _ => exact h4
    | 5, _ => exact h5
    | 6, _ => exact h6
    | 7, _ => exact h7
    | 8, _ => exact h8
    | i + 9, hi => omega
  · intro h
    exact ⟨h 0 (by omega), h 1 (by omega), h 2 (by omega), h 3 (by omega), h 4 (by omega), h 5 (by omega), h 6 (by omega), h 7 (by omega), h 8 (by omega)⟩
/-- The signs that ends give. -/
def endC (E : List Int) (j : Nat) : Nat := if j % 9 = 0 ∧ hasB E ((j / 9 : Nat) : Int) = true then 1 else 0
/-- The signs that classes give. -/
def stepC (D : List Arr) (ev : Nat) (c : Nat → Nat) (j : Nat) : Nat := if j % 9 = 0 then c (j / 9) else if j % 9 - 1 < ev then c (toI D ((j / 9 : Nat) : Int) ((j % 9 - 1 : Nat) : Int)).toNat else 0
theorem mod9 (x : Nat) {i : Nat} (hi : i < 9) : (x * 9 + i) % 9 = i ∧ (x * 9 + i) / 9 = x := by omega
theorem endC_iff (E : List Int) (x y : Nat) : sigF (endC E) x = sigF (endC E) y ↔ hasB E (x : Int) = hasB E (y : Int) := by
  rw [sigF_iff]
  unfold endC
  constructor
  · intro h
    have := h 0 (by omega)
    rw [(mod9 x (i := 0) (by omega)).1, (mod9 x (i := 0) (by omega)).2, (mod9 y (i := 0) (by omega)).1, (mod9 y (i := 0) (by omega)).2] at this
    cases hx : hasB E (x : Int) <;> cases hy : hasB E (y : Int) <;> simp_all
  · intro h i hi
    rw [(mod9 x hi).1, (mod9 x hi).2, (mod9 y hi).1, (mod9 y hi).2, h]
theorem stepC_iff {d : Mach} {ev : Nat} (he : d.ev = (ev : Int)) (h8 : ev ≤ 8) (c : Nat → Nat) (x y : Nat) : sigF (stepC d.arrows ev c) x = sigF (stepC d.arrows ev c) y ↔ sgn d c x = sgn d c y := by
  rw [sigF_iff, sgn_iff]
  unfold stepC
  constructor
  · intro h
    refine ⟨?_, fun e h1 => ?_⟩
    · have := h 0 (by omega)
      rw [(mod9 x (i := 0) (by omega)).1, (mod9 x (i := 0) (by omega)).2, (mod9 y (i := 0) (by omega)).1, (mod9 y (i := 0) (by omega)).2] at this
      simpa using this
    · have := h (e + 1) (by omega)
      rw [(mod9 x (i := e + 1) (by omega)).1, (mod9 x (i := e + 1) (by omega)).2, (mod9 y (i := e + 1) (by omega)).1, (mod9 y (i := e + 1) (by omega)).2, if_neg (show ¬ (e + 1 = 0) by omega), if_neg (show ¬ (e + 1 = 0) by omega), Nat.add_sub_cancel, if_pos (show e < ev by omega), if_pos (show e < ev by omega)] at this
      exact this
  · rintro ⟨h1, h2⟩ i hi
    rw [(mod9 x hi).1, (mod9 x hi).2, (mod9 y hi).1, (mod9 y hi).2]
    by_cases e0 : i = 0
    · rw [if_pos e0, if_pos e0]; exact h1
    · rw [if_neg e0, if_neg e0]
      by_cases e1 : i - 1 < ev
      · rw [if_pos e1, if_pos e1]; exact h2 _ (by omega)
      · rw [if_neg e1, if_neg e1]

end Go.Proofs.YtbdkaobbfmgnhaaDoor
namespace Go.Proofs.YtbdkaobbfmgnhaaDoor
open Go.RowKit
set_option linter.unusedVariables false

theorem Tryd.infoBool : (Tryd.prog.info? 4).map (fun i => (i.zero, i.size, i.bytes)) = some (some (.bool false), 1, 1) := by kernel_rfl
theorem Tryd.infoBools : (Tryd.prog.info? 115).map (fun i => (i.zero, i.size, i.bytes)) = some (some (.slice none 0 0), 1, 24) := by kernel_rfl
theorem Tryd.infoIntsA : (Tryd.prog.info? 22).map (fun i => (i.zero, i.size, i.bytes)) = some (some (.slice none 0 0), 1, 24) := by kernel_rfl

/-- Where a state leads to, at the first k events. -/
def ldT (ars : List Arr) (s k : Nat) : List Int := (List.range k).map fun (e : Nat) => toI ars (s : Int) (e : Int)
theorem ldT_succ (ars : List Arr) (s k : Nat) : ldT ars s (k + 1) = ldT ars s k ++ [toI ars (s : Int) (k : Int)] := by unfold ldT; rw [List.range_succ, List.map_append]; rfl
theorem ldT_len (ars : List Arr) (s k : Nat) : (ldT ars s k).length = k := by simp [ldT]
theorem keepC {W : World} {b b' j j' : Nat} {v x : Value} (hne : b ≠ b') (h : W.cell? ⟨b, j, none⟩ = some x) : (W.setCell ⟨b', j', none⟩ v).cell? ⟨b, j, none⟩ = some x := by
  rw [World.cell?_of_block (w := W) (Below.heap_setCell W ⟨b', j', none⟩ v b hne)]; exact h
theorem ldT_get (ars : List Arr) (s : Nat) {e k : Nat} (h : e < k) : (ldT ars s k).getD e 0 = toI ars (s : Int) (e : Int) := by
  unfold ldT
  rw [List.getD_eq_getElem?_getD, List.getElem?_map, List.getElem?_range h]; rfl
theorem AT.leadCell {w W : World} {d : Mach} {l : ML} {n K : Nat} {q : Nat → Nat} {T : Nat → Nat → Bool} {vv : Nat → Value} {Ld : Nat → List Int} (h : AT w W d l n K q T vv Ld) {ars : List Arr} {s v e : Nat} (hs : s < n) (hL : Ld s = ldT ars s v) (he : e < v) (h0 : 0 ≤ toI ars (s : Int) (e : Int)) : ∃ g o c, vv s = .slice (some ⟨g, o, none⟩) v c ∧ W.cell? ⟨g, o + e, none⟩ = some (.int .i64 ((toN ars s e : Nat) : Int)) := by
  obtain ⟨a, c, e1, h1, -, -, -⟩ := (h.le s hs).at2
  rw [hL, ldT_len] at e1
  rw [hL] at h1
  rcases h1 with h1 | ⟨g, o, rfl, -, hc⟩
  · have := congrArg List.length h1; rw [ldT_len] at this; simp at this; omega
  · refine ⟨g, o, c, e1, ?_⟩
    rw [hc e (by rw [ldT_len]; exact he), ldT_get ars s he]
    unfold toN
    rw [Int.toNat_of_nonneg h0]
/-- What Apart leaves. -/
def ApaPost (w : World) (d : Mach) (l : ML) (n : Nat) (e : Ending) (w' : World) : Prop := ∃ q T vv Ld, e = .returned (.slice (some ⟨w.heap.size + 1, 0, none⟩) n n) ∧ AT w w' d l n n q T vv Ld ∧ ∀ x y, x < n → y < n → (T x y = true ↔ langS d [(x : Int)] ≠ langS d [(y : Int)])
theorem apart_tab {n v : Nat} {starts : List Int} {ars : List Arr} {ends : List Int} (hd : detB ⟨(n : Int), (v : Int), starts, ars, ends⟩ = true) {T : Nat → Nat → Bool} (h0 : ∀ x y, x < n → y < n → hasB ends (x : Int) ≠ hasB ends (y : Int) → T x y = true) (h1 : ∀ x y, x < n → y < n → T x y = true → langS ⟨(n : Int), (v : Int), starts, ars, ends⟩ [(x : Int)] ≠ langS ⟨(n : Int), (v : Int), starts, ars, ends⟩ [(y : Int)]) (h2 : ∀ x y e, x < n → y < n → e < v → T (toN ars x e) (toN ars y e) = true → T x y = true) :
    ∀ x y, x < n → y < n → (T x y = true ↔ langS ⟨(n : Int), (v : Int), starts, ars, ends⟩ [(x : Int)] ≠ langS ⟨(n : Int), (v : Int), starts, ars, ends⟩ [(y : Int)]) := by
  have c : ∀ z : Int, 0 ≤ z → ((z.toNat : Nat) : Int) = z := fun z hz => by omega
  have key := apart_iff hd (ap := fun s t => T s.toNat t.toNat) (fun s t s0 s1 t0 t1 hne => h0 _ _ (by dsimp only at s1; omega) (by dsimp only at t1; omega) (by rw [c s s0, c t t0]; exact hne)) (fun s t e s0 s1 t0 t1 he ht => h2 _ _ e (by dsimp only at s1; omega) (by dsimp only at t1; omega) (by dsimp only at he; omega) (by unfold toN; rw [c s s0, c t t0]; exact ht)) (fun s t s0 s1 t0 t1 ht => by
    have := h1 _ _ (show s.toNat < n by dsimp only at s1; omega) (show t.toNat < n by dsimp only at t1; omega) ht
    rwa [c s s0, c t t0] at this)
  intro x y hx hy
  have := key (x : Int) (y : Int) (by omega) (by show (x : Int) < (n : Int); omega) (by omega) (by show (y : Int) < (n : Int); omega)
  simpa using this
/-- What ends tell apart. -/
def endT (ends : List Int) (s t : Nat) : Bool := hasB ends (s : Int) != hasB ends (t : Int)

set_option maxRecDepth 100000 in
set_option maxHeartbeats 4000000 in
theorem apart_any (n v : Nat) (starts : List Int) (ars : List Arr) (ends : List Int) (a1 : Option Addr) (c1 : Nat) (a2 : Option Addr) (c2 : Nat) (a3 : Option Addr) (c3 : Nat) (w : World) (h : Hid (MAt w ⟨(n : Int), (v : Int), starts, ars, ends⟩ ⟨a1, c1, a2, c2, a3, c3⟩)) (hd : Hid (detB ⟨(n : Int), (v : Int), starts, ars, ends⟩ = true)) (hn : n ≤ 256) (hv : v ≤ 8) :
    Calls Tryd.prog 87 #[mval ⟨(n : Int), (v : Int), starts, ars, ends⟩ ⟨a1, c1, a2, c2, a3, c3⟩] w fun e w' => ApaPost w ⟨(n : Int), (v : Int), starts, ars, ends⟩ ⟨a1, c1, a2, c2, a3, c3⟩ n e w' := by
  obtain ⟨i0, hi, hz0, hz1, hz2⟩ := info_parts Tryd.infoBools
  have hmk1 : ∀ w : World, (Instr.makeSlice 112 (.int .i64 n) (.int .i64 n)).run Tryd.prog w = .ok (.slice (some ⟨w.heap.size, 0, none⟩) n n) (w.alloc (.cells (madeCells #[.slice none 0 0] n) 115)) := fun w => by
    have := run_make (P := Tryd.prog) w 112 115 i0 (.slice none 0 0) Tryd.underlying112 hi hz0 .i64 .i64 n n (by omega) (by omega) (by rw [hz2]; omega) (by omega)
    rw [hz1, Int.toNat_natCast, Nat.mul_one] at this
    exact this
  clear hi hz0 hz1 hz2
  obtain ⟨i1, hi, hz0, hz1, hz2⟩ := info_parts Tryd.infoIntsA
  have hmk2 : ∀ w : World, (Instr.makeSlice 39 (.int .i64 n) (.int .i64 n)).run Tryd.prog w = .ok (.slice (some ⟨w.heap.size, 0, none⟩) n n) (w.alloc (.cells (madeCells #[.slice none 0 0] n) 22)) := fun w => by
    have := run_make (P := Tryd.prog) w 39 22 i1 (.slice none 0 0) Tryd.underlying39 hi hz0 .i64 .i64 n n (by omega) (by omega) (by rw [hz2]; omega) (by omega)
    rw [hz1, Int.toNat_natCast, Nat.mul_one] at this
    exact this
  clear hi hz0 hz1 hz2
  obtain ⟨i2, hi, hz0, hz1, hz2⟩ := info_parts Tryd.infoBool
  have hmk3 : ∀ w : World, (Instr.makeSlice 115 (.int .i64 n) (.int .i64 n)).run Tryd.prog w = .ok (.slice (some ⟨w.heap.size, 0, none⟩) n n) (w.alloc (.cells (madeCells #[.bool false] n) 4)) := fun w => by
    have := run_make (P := Tryd.prog) w 115 4 i2 (.bool false) Tryd.underlying115 hi hz0 .i64 .i64 n n (by omega) (by omega) (by rw [hz2]; omega) (by omega)
    rw [hz1, Int.toNat_natCast, Nat.mul_one] at this
    exact this
  clear hi hz0 hz1 hz2
  obtain ⟨k0, ki, kz0, kz1, kz2⟩ := info_parts Tryd.infoInt
  have A0 : Hid (AT w (((w.alloc (.cells (mcells ⟨(n : Int), (v : Int), starts, ars, ends⟩ ⟨a1, c1, a2, c2, a3, c3⟩) 25)).alloc (.cells (madeCells #[.slice none 0 0] n) 115)).alloc (.cells (madeCells #[.slice none 0 0] n) 22)) ⟨(n : Int), (v : Int), starts, ars, ends⟩ ⟨a1, c1, a2, c2, a3, c3⟩ n 0 (fun _ => 0) (fun _ _ => false) (fun _ => .slice none 0 0) (fun _ => [])) := by
    refine ⟨(((Below.refl _ _).alloc (Nat.le_refl _) _).alloc (by simp) _).alloc (by simp; omega) _, ((Blk.new w _ _).alloc _).alloc _, ?_, ?_, fun s hs => by omega, fun s s' hs => by omega, fun s hs => by omega, fun s hs => own_nil _ _, fun s s' g _ _ _ e => by cases e⟩
    · have := (Blk.new (w.alloc (.cells (mcells ⟨(n : Int), (v : Int), starts, ars, ends⟩ ⟨a1, c1, a2, c2, a3, c3⟩) 25)) 115 (madeCells #[.slice none 0 0] n)).alloc (.cells (madeCells #[.slice none 0 0] n) 22)
      rw [World.size_alloc] at this
      exact (RowC.made this).congr (fun j hj => by unfold rowV; rw [if_neg (by omega)])
    · have := Blk.new ((w.alloc (.cells (mcells ⟨(n : Int), (v : Int), starts, ars, ends⟩ ⟨a1, c1, a2, c2, a3, c3⟩) 25)).alloc (.cells (madeCells #[.slice none 0 0] n) 115)) 22 (madeCells #[.slice none 0 0] n)
      rw [World.size_alloc, World.size_alloc] at this
      exact RowC.made this
  have x0 : (w.alloc (.cells (mcells ⟨(n : Int), (v : Int), starts, ars, ends⟩ ⟨a1, c1, a2, c2, a3, c3⟩) 25)).cell? ⟨w.heap.size, 0, none⟩ = some (.int .i64 n) := (Blk.new w _ _).cell 0 rfl
  have x1 : ((w.alloc (.cells (mcells ⟨(n : Int), (v : Int), starts, ars, ends⟩ ⟨a1, c1, a2, c2, a3, c3⟩) 25)).alloc (.cells (madeCells #[.slice none 0 0] n) 115)).cell? ⟨w.heap.size, 0, none⟩ = some (.int .i64 n) := ((Blk.new w _ _).alloc _).cell 0 rfl
  go_enter Tryd.func87, Tryd.ntmps87
  go_wp2
  clear x0 x1
  revert A0
  generalize ((w.alloc (.cells (mcells ⟨(n : Int), (v : Int), starts, ars, ends⟩ ⟨a1, c1, a2, c2, a3, c3⟩) 25)).alloc (.cells (madeCells #[.slice none 0 0] n) 115)).alloc (.cells (madeCells #[.slice none 0 0] n) 22) = W0
  intro A0
  go_loopw [5] (fun i wr => ∃ (k : Nat) (q : Nat → Nat) (T : Nat → Nat → Bool) (vv : Nat → Value) (Ld : Nat → List Int), i = .int .i64 k ∧ k ≤ n ∧ Hid (AT w wr ⟨(n : Int), (v : Int), starts, ars, ends⟩ ⟨a1, c1, a2, c2, a3, c3⟩ n k q T vv Ld) ∧ Hid (∀ x y, x < k → y < n → T x y = endT ends x y) ∧ Hid (∀ x, x < n → Ld x = if x < k then ldT ars x v else [])) (fun i _ => n - (intOf i).toNat)
  case atStart => exact ⟨0, _, _, _, _, rfl, Nat.zero_le _, A0, fun x y hx => by omega, fun x hx => by rw [if_neg (by omega)]⟩
  case round =>
    clear A0
    obtain ⟨k, q, T, vv, Ld, rfl, hk, HA, HT, HL⟩ := hrel
    obtain ⟨x0, x1, x2, x3, x4⟩ := mcell_at HA.out.kd
    dsimp only at x0 x1 x2 x3 x4
    by_cases hlt : k < n
    · have HR := Hid.of (HA.out.row hlt)
      have b1 : Below wr.heap.size wr (wr.alloc (.cells (madeCells #[.bool false] n) 4)) := (Below.refl _ _).alloc (Nat.le_refl _) _
      obtain ⟨cs1, hcs1, -, -⟩ := (HA.out.below b1).pa
      have pf := hcs1.frozen k
      have pc := (HA.out.below b1).pa.cell hlt
      obtain ⟨ov, hov⟩ : ∃ ov, ov = rowV n k q k := ⟨_, rfl⟩
      rw [← hov] at pc
      clear hov hcs1 b1
      go_wp2_with fail
      clear pf pc
      obtain ⟨q1, HQ1⟩ : ∃ q1, Hid (q1 = fun s => if s = k then wr.heap.size else q s) := ⟨_, rfl⟩
      obtain ⟨T1, HT1⟩ : ∃ T1, Hid (T1 = fun x y => if x = k then false else T x y) := ⟨_, rfl⟩
      rw [← HQ1.out, ← HT1.out] at HR
      have HTa : Hid (∀ x y, x < k → y < n → T1 x y = endT ends x y) := fun x y hx hy => by rw [HT1.out]; dsimp only; rw [if_neg (by omega)]; exact HT.out x y hx hy
      have HTb : Hid (∀ y, T1 k y = false) := fun y => by rw [HT1.out]; dsimp only; rw [if_pos rfl]
      clear HA HT HT1 HQ1 x0 x1 x2 x3 x4
      revert HR
      generalize (wr.alloc (.cells (madeCells #[.bool false] n) 4)).setCell ⟨w.heap.size + 1, k, none⟩ (.slice (some ⟨wr.heap.size, 0, none⟩) n n) = W1
      intro HR
      go_loopw [6] (fun i wr => ∃ (e : Nat) (vv : Nat → Value) (Ld : Nat → List Int), i = .int .i64 e ∧ e ≤ v ∧ Hid (AT w wr ⟨(n : Int), (v : Int), starts, ars, ends⟩ ⟨a1, c1, a2, c2, a3, c3⟩ n (k + 1) q1 T1 vv Ld) ∧ Hid (∀ x, x < n → Ld x = if x < k then ldT ars x v else if x = k then ldT ars k e else [])) (fun i _ => v - (intOf i).toNat)
      case atStart => exact ⟨0, vv, Ld, rfl, Nat.zero_le _, HR, fun x hx => by rw [HL.out x hx]; by_cases e1 : x < k; (rw [if_pos e1, if_pos e1]); (rw [if_neg e1, if_neg e1]; split <;> rfl)⟩
      case round =>
        clear HR HL
        obtain ⟨e, vv, Ld, rfl, hee, HR, HL⟩ := hrel
        obtain ⟨x0, x1, x2, x3, x4⟩ := mcell_at HR.out.kd
        dsimp only at x0 x1 x2 x3 x4
        by_cases hle : e < v
        · have KEY : Hid (∀ W, Below w.heap.size w W → Calls Tryd.prog 89 #[mval ⟨(n : Int), (v : Int), starts, ars, ends⟩ ⟨a1, c1, a2, c2, a3, c3⟩, .int .i64 (k : Int), .int .i64 (e : Int)] W fun r w' => r = .returned (.int .i64 (toI ars (k : Int) (e : Int))) ∧ Below W.heap.size W w') := fun W hW => rTo_any ⟨(n : Int), (v : Int), starts, ars, ends⟩ ⟨a1, c1, a2, c2, a3, c3⟩ (k : Int) (e : Int) W (Hid.of (h.out.below hW (Nat.le_refl _))) hd (show _ ∧ _ from ⟨by omega, by show (k : Int) < (n : Int); omega⟩) (show _ ∧ _ from ⟨by omega, by show (e : Int) < (v : Int); omega⟩)
          obtain ⟨t, HTO⟩ : ∃ t, Hid (t = toI ars (k : Int) (e : Int)) := ⟨_, rfl⟩
          rw [← HTO.out] at KEY
          go_wp2_with fail
          refine (KEY.out _ HR.out.bel).mono ?_
          rintro r V ⟨rfl, hb⟩
          have HRV := Hid.of (HR.out.below hb)
          clear KEY hb HR x0 x1 x2 x3 x4
          obtain ⟨va, vc, hva, -, hv1, hv2⟩ := (HRV.out.le k hlt).at2
          have pc := HRV.out.pl.cell hlt
          rw [hva] at pc
          have HO := Hid.of (HRV.out.le k hlt)
          rw [hva] at HO
          have HVA := Hid.of hva
          have hll : (Ld k).length ≤ 8 := by rw [HL.out k hlt, if_neg (by omega), if_pos rfl, ldT_len]; omega
          have b2 : Below V.heap.size V (V.alloc (.cells #[.int .i64 t] 3)) := (Below.refl _ _).alloc (Nat.le_refl _) _
          have pc2 := (HRV.out.below b2).pl.cell hlt
          rw [hva] at pc2
          have hsz := HRV.out.pl.lt
          clear hva hv1 hv2
          go_wp2_with (at_builtin; refine wpList_append_block _ rfl (.tmp 46) (.tmp 48) 22 rfl (w.heap.size + 3) 3 k0 (.int .i64 0) 1 8 Tryd.underlying22 ki kz0 kz1 kz2 rfl (by decide) _ _ _ rfl (World.ownsRow.alloc HO.out _) ⟨V.heap.size, 0, none⟩ 1 1 [.int .i64 t] rfl rfl (cell_one_new _ _ _) (by intro u hu; simp at hu; subst hu; rfl) (by decide) (by unfold maxLen; omega) (by omega) (by simp; omega) ?_)
          intro v7 w7 o7 g7 n7
          have O7 : Own w7 (w.heap.size + 3) v7 (Ld k ++ [t]) := by unfold Own; rw [List.length_append, List.map_append]; exact o7
          rw [← HVA.out] at g7 n7
          obtain ⟨r1, r2⟩ := AT.lead HRV.out b2 hlt O7 g7 (by rw [World.size_alloc]; exact n7)
          obtain ⟨fa, fc, hfa, -, -, -, -⟩ := O7.at2
          have hl7 : (Ld k ++ [t]).length = (Ld k).length + 1 := by simp
          rw [hl7] at hfa
          subst hfa
          have y3 := r1.cell hlt
          rw [HVA.out] at y3
          have yf : w7.frozen? ⟨w.heap.size + 2, k, none⟩ = false := by obtain ⟨cs, hb, -, -⟩ := r1; exact hb.frozen k
          have R2 := Hid.of r2
          clear r1 r2 O7 o7 g7 n7 pc pc2 b2 hl7 HRV HO hsz
          go_wp2_with fail
          clear y3 yf
          revert R2
          generalize w7.setCell ⟨w.heap.size + 2, k, none⟩ (.slice fa ((Ld k).length + 1) fc) = Y
          intro R2
          go_roundw
          case rel => exact ⟨e + 1, _, _, by go_num, by omega, R2, fun x hx => by
            by_cases e1 : x = k
            · subst e1
              rw [if_pos rfl, HL.out x hx, if_neg (by omega), if_pos rfl, if_neg (by omega), if_pos rfl, ldT_succ, HTO.out]
            · rw [if_neg e1, HL.out x hx]
              by_cases e2 : x < k
              · rw [if_pos e2, if_pos e2]
              · rw [if_neg e2, if_neg e2, if_neg e1, if_neg e1]⟩
          case measure => simp [intOf]; omega
        · have he2 : v = e := by omega
          subst he2
          clear x0 x1 x2 x3 x4
          have HL2 : Hid (∀ x, x < n → Ld x = if x < k + 1 then ldT ars x v else []) := fun x hx => by
            rw [HL.out x hx]
            by_cases e1 : x < k
            · rw [if_pos e1, if_pos (by omega)]
            · by_cases e2 : x = k
              · subst e2; rw [if_neg e1, if_pos rfl, if_pos (by omega)]
              · rw [if_neg e1, if_neg e2, if_neg (by omega)]
          clear HL
          have HTc : Hid (∀ x y, x < k + 1 → y < n → T1 x y = if x < k then endT ends x y else if y < 0 then endT ends x y else false) := fun x y hx hy => by
            by_cases e1 : x < k
            · rw [if_pos e1]; exact HTa.out x y e1 hy
            · have : x = k := by omega
              subst this
              rw [if_neg e1, if_neg (by omega)]; exact HTb.out y
          clear HTa HTb
          obtain ⟨x0, x1, x2, x3, x4⟩ := mcell_at HR.out.kd
          dsimp only at x0 x1 x2 x3 x4
          go_wp2_with fail
          clear x0 x1 x2 x3 x4
          go_loopw [8] (fun i wr => ∃ (t : Nat) (T : Nat → Nat → Bool), i = .int .i64 t ∧ t ≤ n ∧ Hid (AT w wr ⟨(n : Int), (v : Int), starts, ars, ends⟩ ⟨a1, c1, a2, c2, a3, c3⟩ n (k + 1) q1 T vv Ld) ∧ Hid (∀ x y, x < k + 1 → y < n → T x y = if x < k then endT ends x y else if y < t then endT ends x y else false)) (fun i _ => n - (intOf i).toNat)
          case atStart => exact ⟨0, T1, rfl, Nat.zero_le _, HR, HTc⟩
          case round =>
            clear HR HTc
            obtain ⟨t, T, rfl, htt, HR, HTc⟩ := hrel
            obtain ⟨x0, x1, x2, x3, x4⟩ := mcell_at HR.out.kd
            dsimp only at x0 x1 x2 x3 x4
            by_cases hltt : t < n
            · have pc : wr.cell? ⟨w.heap.size + 1, k, none⟩ = some (.slice (some ⟨q1 k, 0, none⟩) n n) := by
                have := HR.out.pa.cell hlt
                unfold rowV at this
                rwa [if_pos (by omega)] at this
              have rc := (HR.out.rw k (by omega)).cell hltt
              have rf : wr.frozen? ⟨q1 k, t, none⟩ = false := by obtain ⟨cs, hb, -, -⟩ := HR.out.rw k (by omega); exact hb.frozen t
              have KEY : Hid (∀ (W : World) (z : Int), Below w.heap.size w W → Calls Tryd.prog 88 #[.slice a3 ends.length c3, .int .i64 z] W fun e w' => e = .returned (.bool (hasB ends z)) ∧ w' = W) := fun W z hW => refHas_any a3 c3 ends z W (h.out.e.below hW (Nat.le_refl _)) (Nat.le_trans h.out.e1 h.out.e2)
              have R2 := Hid.of (HR.out.set (s := k) (by omega) hltt (hasB ends (k : Int) != hasB ends (t : Int)))
              clear x1 x2 x3
              have hq3 := HR.out.ql k (by omega)
              go_wp2_with fail
              go_region_held3 (fun w' => w'.cell? ⟨w.heap.size, 4, none⟩ = some (.slice a3 ends.length c3) ∧ w'.cell? ⟨w.heap.size + 1, k, none⟩ = some (.slice (some ⟨q1 k, 0, none⟩) n n)) (first | exact ⟨keepC (by omega) x4, keepC (by omega) pc⟩ | go_keep) (first | (go_at_call 88; refine (KEY.out _ _ HR.out.bel.drew).mono ?_; rintro e w1 ⟨rfl, rfl⟩))
              have R3 : Hid (AT w ((wr.setCell ⟨q1 k, t, none⟩ (.bool (!(hasB ends (k : Int) == hasB ends (t : Int))))).drew) ⟨(n : Int), (v : Int), starts, ars, ends⟩ ⟨a1, c1, a2, c2, a3, c3⟩ n (k + 1) q1 (fun x y => if x = k ∧ y = t then (hasB ends (k : Int) != hasB ends (t : Int)) else T x y) vv Ld) := R2.out.below (Below.refl _ _).drew
              clear R2 pc rc rf KEY x0 x4 hq3 HR
              revert R3
              generalize (wr.setCell ⟨q1 k, t, none⟩ (.bool (!(hasB ends (k : Int) == hasB ends (t : Int))))).drew = Y
              intro R3
              go_wp2_with fail
              go_roundw
              case rel => exact ⟨t + 1, _, by go_num, by omega, R3, fun x y hx hy => by
                by_cases e1 : x = k ∧ y = t
                · rw [if_pos e1, if_neg (by omega), if_pos (by omega), e1.1, e1.2]; rfl
                · rw [if_neg e1, HTc.out x y hx hy]
                  by_cases e2 : x < k
                  · rw [if_pos e2, if_pos e2]
                  · rw [if_neg e2, if_neg e2]
                    by_cases e3 : y < t
                    · rw [if_pos e3, if_pos (by omega)]
                    · rw [if_neg e3, if_neg (by omega)]⟩
              case measure => simp [intOf]; omega
            · have ht2 : n = t := by omega
              subst ht2
              go_wp2_with fail
              go_roundw
              case rel => exact ⟨k + 1, q1, T, vv, Ld, by go_num, by omega, HR, fun x y hx hy => by
                rw [HTc.out x y hx hy, if_pos hy]; split <;> rfl, HL2⟩
              case measure => simp [intOf]; omega
    · have hk2 : n = k := by omega
      subst hk2
      clear x0 x1 x2 x3 x4
      have HL2 : Hid (∀ x, x < n → Ld x = ldT ars x v) := fun x hx => by rw [HL.out x hx, if_pos hx]
      have HS0 : Hid (∀ x y, x < n → y < n → hasB ends (x : Int) ≠ hasB ends (y : Int) → T x y = true) := fun x y hx hy hne => by rw [HT.out x y hx hy]; unfold endT; simp [hne]
      have HS1 : Hid (∀ x y, x < n → y < n → T x y = true → langS ⟨(n : Int), (v : Int), starts, ars, ends⟩ [(x : Int)] ≠ langS ⟨(n : Int), (v : Int), starts, ars, ends⟩ [(y : Int)]) := fun x y hx hy hxy => by
        rw [HT.out x y hx hy] at hxy
        unfold endT at hxy
        exact apart_fin (d := ⟨(n : Int), (v : Int), starts, ars, ends⟩) (by simpa using hxy)
      clear HL HT
      obtain ⟨x0, x1, x2, x3, x4⟩ := mcell_at HA.out.kd
      dsimp only at x0 x1 x2 x3 x4
      go_wp2_with fail
      clear x0 x1 x2 x3 x4
      go_loopw [9] (fun b9 wr => ∃ (b : Bool) (T : Nat → Nat → Bool), b9 = .bool b ∧ Hid (AT w wr ⟨(n : Int), (v : Int), starts, ars, ends⟩ ⟨a1, c1, a2, c2, a3, c3⟩ n n q T vv Ld) ∧ Hid (∀ x y, x < n → y < n → hasB ends (x : Int) ≠ hasB ends (y : Int) → T x y = true) ∧ Hid (∀ x y, x < n → y < n → T x y = true → langS ⟨(n : Int), (v : Int), starts, ars, ends⟩ [(x : Int)] ≠ langS ⟨(n : Int), (v : Int), starts, ars, ends⟩ [(y : Int)]) ∧ Hid (b = false → ∀ x y e, x < n → y < n → e < v → T (toN ars x e) (toN ars y e) = true → T x y = true)) (fun b9 wr => 2 * cntW wr q n + (match b9 with | .bool true => 1 | _ => 0))
      case atStart => exact ⟨true, T, rfl, HA, HS0, HS1, fun h => by cases h⟩
      case round =>
        clear HA HS0 HS1
        obtain ⟨b, T, rfl, HA, HS0, HS1, HS2⟩ := hrel
        cases b with
        | false =>
          have HAP : Hid (∀ x y, x < n → y < n → (T x y = true ↔ langS ⟨(n : Int), (v : Int), starts, ars, ends⟩ [(x : Int)] ≠ langS ⟨(n : Int), (v : Int), starts, ars, ends⟩ [(y : Int)])) := apart_tab hd.out HS0.out HS1.out (HS2.out rfl)
          go_wp2_with fail
          go_ret
          exact ⟨q, T, vv, Ld, rfl, HA.out, HAP.out⟩
        | true =>
          obtain ⟨T0, HT0⟩ : ∃ T0, Hid (T0 = T) := ⟨_, rfl⟩
          have HC0 : Hid (cntW wr q n = cntF n T0) := by show _ = _; rw [HT0.out]; exact HA.out.cnt
          have HSW : Hid (SW ⟨(n : Int), (v : Int), starts, ars, ends⟩ n v T0 T false (fun x y e => x < 0)) := ⟨HS0.out, HS1.out, fun h => (by cases h), fun _ => ⟨fun x y _ _ => (by rw [HT0.out]), fun x y e _ _ _ h => (by omega)⟩⟩
          clear HS0 HS1 HS2
          go_wp2_with fail
          go_loopw [9, 10] (fun b9 i wr => ∃ (b : Bool) (s : Nat) (T : Nat → Nat → Bool), b9 = .bool b ∧ i = .int .i64 s ∧ s ≤ n ∧ Hid (AT w wr ⟨(n : Int), (v : Int), starts, ars, ends⟩ ⟨a1, c1, a2, c2, a3, c3⟩ n n q T vv Ld) ∧ Hid (SW ⟨(n : Int), (v : Int), starts, ars, ends⟩ n v T0 T b (fun x y e => x < s))) (fun _ i _ => n - (intOf i).toNat)
          case atStart => exact ⟨false, 0, T, rfl, rfl, Nat.zero_le _, HA, HSW⟩
          case round =>
            clear HA HSW
            obtain ⟨b, s, T, rfl, rfl, hss, HA, HSW⟩ := hrel
            obtain ⟨x0, x1, x2, x3, x4⟩ := mcell_at HA.out.kd
            dsimp only at x0 x1 x2 x3 x4
            by_cases hls : s < n
            · go_wp2_with fail
              clear x0 x1 x2 x3 x4
              go_loopw [9, 11] (fun b9 i wr => ∃ (b : Bool) (t : Nat) (T : Nat → Nat → Bool), b9 = .bool b ∧ i = .int .i64 t ∧ t ≤ n ∧ Hid (AT w wr ⟨(n : Int), (v : Int), starts, ars, ends⟩ ⟨a1, c1, a2, c2, a3, c3⟩ n n q T vv Ld) ∧ Hid (SW ⟨(n : Int), (v : Int), starts, ars, ends⟩ n v T0 T b (fun x y e => x < s ∨ (x = s ∧ y < t)))) (fun _ i _ => n - (intOf i).toNat)
              case atStart => exact ⟨b, 0, T, rfl, rfl, Nat.zero_le _, HA, HSW.out.more (fun x y e _ _ _ hp => by omega)⟩
              case round =>
                clear HA HSW
                obtain ⟨b, t, T, rfl, rfl, htt, HA, HSW⟩ := hrel
                obtain ⟨x0, x1, x2, x3, x4⟩ := mcell_at HA.out.kd
                dsimp only at x0 x1 x2 x3 x4
                by_cases hlt2 : t < n
                · go_wp2_with fail
                  clear x0 x1 x2 x3 x4
                  go_loopw [9, 12] (fun b9 i wr => ∃ (b : Bool) (e : Nat) (T : Nat → Nat → Bool), b9 = .bool b ∧ i = .int .i64 e ∧ e ≤ v ∧ Hid (AT w wr ⟨(n : Int), (v : Int), starts, ars, ends⟩ ⟨a1, c1, a2, c2, a3, c3⟩ n n q T vv Ld) ∧ Hid (SW ⟨(n : Int), (v : Int), starts, ars, ends⟩ n v T0 T b (fun x y e' => x < s ∨ (x = s ∧ y < t) ∨ (x = s ∧ y = t ∧ e' < e)))) (fun _ i _ => v - (intOf i).toNat)
                  case atStart => exact ⟨b, 0, T, rfl, rfl, Nat.zero_le _, HA, HSW.out.more (fun x y e _ _ _ hp => by omega)⟩
                  case round =>
                    clear HA HSW
                    obtain ⟨b, e, T, rfl, rfl, hee, HA, HSW⟩ := hrel
                    obtain ⟨x0, x1, x2, x3, x4⟩ := mcell_at HA.out.kd
                    dsimp only at x0 x1 x2 x3 x4
                    by_cases hle : e < v
                    · have pc : wr.cell? ⟨w.heap.size + 1, s, none⟩ = some (.slice (some ⟨q s, 0, none⟩) n n) := by
                        have := HA.out.pa.cell hls
                        unfold rowV at this
                        rwa [if_pos hls] at this
                      have rc := (HA.out.rw s hls).cell hlt2
                      cases hst : T s t with
                      | true =>
                        rw [hst] at rc
                        go_wp2_with fail
                        go_roundw
                        case rel => exact ⟨b, t + 1, T, rfl, by go_num, by omega, HA, HSW.out.more (fun x y e _ _ _ hp => by
                          by_cases c : x = s ∧ y = t
                          · obtain ⟨rfl, rfl⟩ := c; exact .inr hst
                          · exact .inl (by omega))⟩
                        case measure => simp [intOf]; omega
                      | false =>
                        rw [hst] at rc
                        have a1 := (toI_step hd.out (s := (s : Int)) (e := (e : Int)) (by omega) (by show (s : Int) < (n : Int); omega) (by omega) (by show (e : Int) < (v : Int); omega)).2
                        have a2 := (toI_step hd.out (s := (t : Int)) (e := (e : Int)) (by omega) (by show (t : Int) < (n : Int); omega) (by omega) (by show (e : Int) < (v : Int); omega)).2
                        dsimp only at a1 a2
                        obtain ⟨g1, o1, k1, hv1, cc1⟩ := HA.out.leadCell hls (HL2.out s hls) hle a1.1
                        obtain ⟨g2, o2, k2, hv2, cc2⟩ := HA.out.leadCell hlt2 (HL2.out t hlt2) hle a2.1
                        have hX : toN ars s e < n := by unfold toN; omega
                        have hY : toN ars t e < n := by unfold toN; omega
                        have p1 := HA.out.pl.cell hls
                        have p2 := HA.out.pl.cell hlt2
                        rw [hv1] at p1
                        rw [hv2] at p2
                        have HST := Hid.of hst
                        obtain ⟨X, HX⟩ : ∃ X, Hid (X = toN ars s e) := ⟨_, rfl⟩
                        obtain ⟨Z, HZ⟩ : ∃ Z, Hid (Z = toN ars t e) := ⟨_, rfl⟩
                        rw [← HX.out] at cc1 hX
                        rw [← HZ.out] at cc2 hY
                        have pX : wr.cell? ⟨w.heap.size + 1, X, none⟩ = some (.slice (some ⟨q X, 0, none⟩) n n) := by
                          have := HA.out.pa.cell hX
                          unfold rowV at this
                          rwa [if_pos hX] at this
                        have rX := (HA.out.rw X hX).cell hY
                        clear a1 a2 hv1 hv2 hst
                        go_wp2_with fail
                        go_region_held3 (fun w' => w'.cell? ⟨w.heap.size + 2, s, none⟩ = some (.slice (some ⟨g1, o1, none⟩) v k1) ∧ w'.cell? ⟨g1, o1 + e, none⟩ = some (.int .i64 (X : Int)) ∧ w'.cell? ⟨w.heap.size + 1, X, none⟩ = some (.slice (some ⟨q X, 0, none⟩) n n) ∧ w'.cell? ⟨w.heap.size + 2, t, none⟩ = some (.slice (some ⟨g2, o2, none⟩) v k2) ∧ w'.cell? ⟨g2, o2 + e, none⟩ = some (.int .i64 (Z : Int)) ∧ w'.cell? ⟨q X, Z, none⟩ = some (.bool (T X Z))) (go_keep) (fail)
                        have HA2 := Hid.of (HA.out.below (Below.refl _ wr).drew)
                        cases hB : T X Z with
                        | true =>
                          have hm : T (toN ars s e) (toN ars t e) = true := by rw [← HX.out, ← HZ.out]; exact hB
                          have HNX : Hid (SW ⟨(n : Int), (v : Int), starts, ars, ends⟩ n v T0 (fun x y => if x = s ∧ y = t then true else T x y) true (fun x y e' => x < s ∨ (x = s ∧ y < t) ∨ (x = s ∧ y = t ∧ e' < e + 1))) := SW.hit hd.out rfl rfl HSW.out hls hlt2 hle HST.out hm
                          have R2 := Hid.of (HA2.out.set hls hlt2 true)
                          have pc2 : wr.drew.cell? ⟨w.heap.size + 1, s, none⟩ = some (.slice (some ⟨q s, 0, none⟩) n n) := pc
                          have rc2 : wr.drew.cell? ⟨q s, t, none⟩ = some (.bool false) := rc
                          have rf2 : wr.drew.frozen? ⟨q s, t, none⟩ = false := by obtain ⟨cs, hb, -, -⟩ := HA2.out.rw s hls; exact hb.frozen t
                          clear hB hm HA HA2 pc rc x0 x1 x2 x3 x4 cc1 cc2 p1 p2 pX rX HSW
                          revert R2 pc2 rc2 rf2
                          generalize wr.drew = Y
                          intro R2 pc2 rc2 rf2
                          go_wp2_with fail
                          clear pc2 rc2 rf2
                          revert R2
                          generalize Y.setCell ⟨q s, t, none⟩ (.bool true) = Y2
                          intro R2
                          go_roundw
                          case rel => exact ⟨true, e + 1, _, rfl, by go_num, by omega, R2, HNX⟩
                          case measure => simp [intOf]; omega
                        | false =>
                          have hm : T (toN ars s e) (toN ars t e) = false := by rw [← HX.out, ← HZ.out]; exact hB
                          have HNX : Hid (SW ⟨(n : Int), (v : Int), starts, ars, ends⟩ n v T0 T b (fun x y e' => x < s ∨ (x = s ∧ y < t) ∨ (x = s ∧ y = t ∧ e' < e + 1))) := SW.miss HSW.out hm (fun x y e' hp => by omega)
                          clear hB hm HA pc rc x0 x1 x2 x3 x4 cc1 cc2 p1 p2 pX rX HSW
                          revert HA2
                          generalize wr.drew = Y
                          intro HA2
                          go_wp2_with fail
                          go_roundw
                          case rel => exact ⟨b, e + 1, T, rfl, by go_num, by omega, HA2, HNX⟩
                          case measure => simp [intOf]; omega
                    · have hv2 : v = e := by omega
                      subst hv2
                      go_wp2_with fail
                      go_roundw
                      case rel => exact ⟨b, t + 1, T, rfl, by go_num, by omega, HA, HSW.out.more (fun x y e _ _ he hp => .inl (by omega))⟩
                      case measure => simp [intOf]; omega
                · have ht2 : n = t := by omega
                  subst ht2
                  go_wp2_with fail
                  go_roundw
                  case rel => exact ⟨b, s + 1, T, rfl, by go_num, by omega, HA, HSW.out.more (fun x y e _ hy _ hp => by omega)⟩
                  case measure => simp [intOf]; omega
            · have hs2 : n = s := by omega
              subst hs2
              go_wp2_with fail
              go_roundw
              case rel => exact ⟨b, T, rfl, HA, HSW.out.bs, HSW.out.sd, fun hb x y e hx hy he ht => (HSW.out.no hb).2 x y e hx hy he hx ht⟩
              case measure =>
                have c1 := HA.out.cnt
                have c0 := HC0.out
                cases b with
                | true => have := HSW.out.yes rfl; simp; omega
                | false => have := cntF_congr (HSW.out.no rfl).1; simp; omega

end Go.Proofs.YtbdkaobbfmgnhaaDoor
namespace Go.Proofs.YtbdkaobbfmgnhaaDoor
open Go.RowKit
set_option linter.unusedVariables false

theorem entsT_size (L : List (List Nat)) : (entsT L).size = L.length := by unfold entsT; simp
theorem lenT {L : List (List Nat)} {w : World} {r c : Nat} (hm : w.heap[r]? = some (.map (entsT L) c)) : ∀ ty : TypeId, (Builtin.len_ #[172] ty #[.map (some r)]).run Tryd.prog w = .ok (.int .i64 ((L.length : Nat) : Int)) w := fun ty => by
  have := run_len_map (P := Tryd.prog) (w := w) 172 ty r _ _ (by kernel_rfl) hm
  rw [entsT_size] at this
  exact this
/-- What number knows. -/
structure NBr (w W : World) (N : Nat) (F : Nat → Nat) (n : Nat) : Prop where
  low : Below w.heap.size w W
  mp : W.heap[w.heap.size]? = some (.map (entsT (fnd (sigF F) n)) (fnd (sigF F) n).length)
  kn : RowC W (w.heap.size + 1) 3 N (fun x => .int .i64 ((if x < n then cls (sigF F) N x else 0 : Nat) : Int))
  hB : w.heap.size + 2 ≤ W.heap.size
theorem NBr.below {w W W' : World} {N n : Nat} {F : Nat → Nat} (h : NBr w W N F n) (hb : Below W.heap.size W W') : NBr w W' N F n :=
  ⟨h.low.trans (hb.mono h.low.size), (hb.block _ (Array.getElem?_eq_some_iff.1 h.mp).1).trans h.mp, h.kn.below hb h.kn.lt, Nat.le_trans h.hB hb.size⟩
theorem cls_here {F : Nat → Nat} {N n : Nat} (hn : n < N) : cls (sigF F) N n = idxD (fnd (sigF F) (n + 1)) (sigF F n) := by
  have := cls_stays (sigF F) (n := n + 1) (x := n) (by omega) (N - (n + 1))
  rw [show n + 1 + (N - (n + 1)) = N by omega] at this
  rw [this]; rfl
theorem cls_old {F : Nat → Nat} {N n : Nat} (hn : n < N) (h : sigF F n ∈ fnd (sigF F) n) : fnd (sigF F) (n + 1) = fnd (sigF F) n ∧ cls (sigF F) N n = idxD (fnd (sigF F) n) (sigF F n) := by
  have e : fnd (sigF F) (n + 1) = fnd (sigF F) n := by rw [fnd, if_pos h]
  exact ⟨e, by rw [cls_here hn, e]⟩
theorem cls_new {F : Nat → Nat} {N n : Nat} (hn : n < N) (h : sigF F n ∉ fnd (sigF F) n) : fnd (sigF F) (n + 1) = fnd (sigF F) n ++ [sigF F n] ∧ cls (sigF F) N n = (fnd (sigF F) n).length := by
  have e : fnd (sigF F) (n + 1) = fnd (sigF F) n ++ [sigF F n] := by rw [fnd, if_neg h]
  refine ⟨e, ?_⟩
  rw [cls_here hn, e]
  exact idxD_eq (by rw [← e]; exact nodup_fnd _ _) (by rw [List.getElem?_append_right (Nat.le_refl _)]; simp)
/-- The number is set. -/
theorem NBr.put {w W : World} {N n : Nat} {F : Nat → Nat} (h : NBr w W N F n) (hn : n < N) {W2 : World} (hs : ∀ j, j ≠ w.heap.size → W2.heap[j]? = W.heap[j]?) (hz : W2.heap.size = W.heap.size) (hb : Below w.heap.size w W2) (hm : W2.heap[w.heap.size]? = some (.map (entsT (fnd (sigF F) (n + 1))) (fnd (sigF F) (n + 1)).length)) : NBr w (W2.setCell ⟨w.heap.size + 1, n, none⟩ (.int .i64 ((cls (sigF F) N n : Nat) : Int))) N F (n + 1) := by
  refine ⟨hb.setCell (p := ⟨w.heap.size + 1, n, none⟩) (show w.heap.size ≤ w.heap.size + 1 by omega) _, (Below.heap_setCell W2 ⟨w.heap.size + 1, n, none⟩ _ _ (show w.heap.size ≠ w.heap.size + 1 by omega)).trans hm, ?_, ?_⟩
  · refine ((h.kn.same (hs _ (by omega))).set hn _).congr (fun j hj => ?_)
    by_cases e : j = n
    · rw [if_pos e, e, if_pos (by omega)]
    · rw [if_neg e]
      by_cases e2 : j < n
      · rw [if_pos e2, if_pos (by omega)]
      · rw [if_neg e2, if_neg (by omega)]
  · have := h.hB
    simp [World.setCell]; omega

set_option maxRecDepth 100000 in
set_option maxHeartbeats 4000000 in
theorem number_any (g N : Nat) (F : Nat → Nat) (w : World) (hN : N ≤ 256) (h : Hid (RowC w g 175 (N * 9) (fun j => .int .i64 ((F j : Nat) : Int)))) (hF : Hid (∀ j, F j ≤ 256)) :
    Calls Tryd.prog 117 #[.slice (some ⟨g, 0, none⟩) N N] w fun e w' => e = .returned (.tuple #[.slice (some ⟨w.heap.size + 1, 0, none⟩) N N, .int .i64 (((fnd (sigF F) N).length : Nat) : Int)]) ∧ RowC w' (w.heap.size + 1) 3 N (fun x => .int .i64 ((cls (sigF F) N x : Nat) : Int)) ∧ Below w.heap.size w w' := by
  obtain ⟨i0, hi, hz0, hz1, hz2⟩ := info_parts Tryd.infoInt
  have hmk : ∀ w : World, (Instr.makeSlice 22 (.int .i64 N) (.int .i64 N)).run Tryd.prog w = .ok (.slice (some ⟨w.heap.size, 0, none⟩) N N) (w.alloc (.cells (madeCells #[.int .i64 0] N) 3)) := fun w => by
    have := run_make (P := Tryd.prog) w 22 3 i0 (.int .i64 0) Tryd.underlying22 hi hz0 .i64 .i64 N N (by omega) (by omega) (by rw [hz2]; omega) (by omega)
    rw [hz1, Int.toNat_natCast, Nat.mul_one] at this
    exact this
  clear hi hz0 hz1 hz2
  have hmm := @run_makeMap Tryd.prog
  have hg := Hid.of h.out.lt
  have hok : Hid (∀ l ∈ fnd (sigF F) N, okG l) := fun l hl => by
    obtain ⟨x, -, rfl⟩ := (mem_fnd (sigF F) N l).1 hl
    exact sigF_ok hF.out x
  have N0 : Hid (NBr w ((w.alloc (.map #[] 0)).alloc (.cells (madeCells #[.int .i64 0] N) 3)) N F 0) := by
    refine ⟨((Below.refl _ _).alloc (Nat.le_refl _) _).alloc (by simp) _, ?_, ?_, by simp⟩
    · exact (Below.heap_alloc (w.alloc (.map #[] 0)) _ _ (by simp)).trans (World.alloc_heap_new w (.map #[] 0))
    · have := Blk.new (w.alloc (.map #[] 0)) 3 (madeCells #[.int .i64 0] N)
      rw [World.size_alloc] at this
      exact (RowC.made this).congr (fun j hj => by rw [if_neg (by omega)]; rfl)
  go_enter Tryd.func117, Tryd.ntmps117
  go_wp2
  revert N0
  generalize (w.alloc (.map #[] 0)).alloc (.cells (madeCells #[.int .i64 0] N) 3) = W0
  intro N0
  clear hmm hmk
  have hgl := hg.out
  go_loopw [16] (fun i wr => ∃ (n : Nat), i = .int .i64 n ∧ n ≤ N ∧ Hid (NBr w wr N F n)) (fun i _ => N - (intOf i).toNat)
  case atStart => exact ⟨0, rfl, Nat.zero_le _, N0⟩
  case round =>
    clear N0
    obtain ⟨n, rfl, hnn, HN⟩ := hrel
    by_cases hlt : n < N
    · have HR := h.out.below HN.out.low hgl
      have c0 := HR.cell (j := n * 9) (by omega)
      have c1 := HR.cell (j := n * 9 + 1) (by omega)
      have c2 := HR.cell (j := n * 9 + 2) (by omega)
      have c3 := HR.cell (j := n * 9 + 3) (by omega)
      have c4 := HR.cell (j := n * 9 + 4) (by omega)
      have c5 := HR.cell (j := n * 9 + 5) (by omega)
      have c6 := HR.cell (j := n * 9 + 6) (by omega)
      have c7 := HR.cell (j := n * 9 + 7) (by omega)
      have c8 := HR.cell (j := n * 9 + 8) (by omega)
      clear HR
      --BEGIN
      have hst := sigF_ok hF.out n
      have hoks : ∀ l ∈ fnd (sigF F) n, okG l := fun l hl => by
        obtain ⟨x, -, rfl⟩ := (mem_fnd (sigF F) n l).1 hl
        exact sigF_ok hF.out x
      have H1 := HN.out.below ((Below.refl _ _).alloc (Nat.le_refl _) (.cells #[.int .i64 ((F (n * 9) : Nat) : Int), .int .i64 ((F (n * 9 + 1) : Nat) : Int), .int .i64 ((F (n * 9 + 2) : Nat) : Int), .int .i64 ((F (n * 9 + 3) : Nat) : Int), .int .i64 ((F (n * 9 + 4) : Nat) : Int), .int .i64 ((F (n * 9 + 5) : Nat) : Int), .int .i64 ((F (n * 9 + 6) : Nat) : Int), .int .i64 ((F (n * 9 + 7) : Nat) : Int), .int .i64 ((F (n * 9 + 8) : Nat) : Int)] 175))
      have hz1 : (wr.alloc (.cells #[.int .i64 ((F (n * 9) : Nat) : Int), .int .i64 ((F (n * 9 + 1) : Nat) : Int), .int .i64 ((F (n * 9 + 2) : Nat) : Int), .int .i64 ((F (n * 9 + 3) : Nat) : Int), .int .i64 ((F (n * 9 + 4) : Nat) : Int), .int .i64 ((F (n * 9 + 5) : Nat) : Int), .int .i64 ((F (n * 9 + 6) : Nat) : Int), .int .i64 ((F (n * 9 + 7) : Nat) : Int), .int .i64 ((F (n * 9 + 8) : Nat) : Int)] 175)).heap.size = wr.heap.size + 1 := World.size_alloc _ _
      have hwz := HN.out.hB
      by_cases hin : sigF F n ∈ fnd (sigF F) n
      · obtain ⟨e1, e2⟩ := cls_old hlt hin
        have lk : (Instr.lookup 172 (.map (some w.heap.size)) (.agg #[.int .i64 ((F (n * 9) : Nat) : Int), .int .i64 ((F (n * 9 + 1) : Nat) : Int), .int .i64 ((F (n * 9 + 2) : Nat) : Int), .int .i64 ((F (n * 9 + 3) : Nat) : Int), .int .i64 ((F (n * 9 + 4) : Nat) : Int), .int .i64 ((F (n * 9 + 5) : Nat) : Int), .int .i64 ((F (n * 9 + 6) : Nat) : Int), .int .i64 ((F (n * 9 + 7) : Nat) : Int), .int .i64 ((F (n * 9 + 8) : Nat) : Int)]) true).run Tryd.prog (wr.alloc (.cells #[.int .i64 ((F (n * 9) : Nat) : Int), .int .i64 ((F (n * 9 + 1) : Nat) : Int), .int .i64 ((F (n * 9 + 2) : Nat) : Int), .int .i64 ((F (n * 9 + 3) : Nat) : Int), .int .i64 ((F (n * 9 + 4) : Nat) : Int), .int .i64 ((F (n * 9 + 5) : Nat) : Int), .int .i64 ((F (n * 9 + 6) : Nat) : Int), .int .i64 ((F (n * 9 + 7) : Nat) : Int), .int .i64 ((F (n * 9 + 8) : Nat) : Int)] 175)) = .ok (.tuple #[.int .i64 ((cls (sigF F) N n : Nat) : Int), .bool true]) (wr.alloc (.cells #[.int .i64 ((F (n * 9) : Nat) : Int), .int .i64 ((F (n * 9 + 1) : Nat) : Int), .int .i64 ((F (n * 9 + 2) : Nat) : Int), .int .i64 ((F (n * 9 + 3) : Nat) : Int), .int .i64 ((F (n * 9 + 4) : Nat) : Int), .int .i64 ((F (n * 9 + 5) : Nat) : Int), .int .i64 ((F (n * 9 + 6) : Nat) : Int), .int .i64 ((F (n * 9 + 7) : Nat) : Int), .int .i64 ((F (n * 9 + 8) : Nat) : Int)] 175)) := by rw [e2]; exact lookT_known hoks (nodup_fnd _ _) hst H1.mp hin
        have kc := H1.kn.cell hlt
        have kf : (wr.alloc (.cells #[.int .i64 ((F (n * 9) : Nat) : Int), .int .i64 ((F (n * 9 + 1) : Nat) : Int), .int .i64 ((F (n * 9 + 2) : Nat) : Int), .int .i64 ((F (n * 9 + 3) : Nat) : Int), .int .i64 ((F (n * 9 + 4) : Nat) : Int), .int .i64 ((F (n * 9 + 5) : Nat) : Int), .int .i64 ((F (n * 9 + 6) : Nat) : Int), .int .i64 ((F (n * 9 + 7) : Nat) : Int), .int .i64 ((F (n * 9 + 8) : Nat) : Int)] 175)).frozen? ⟨w.heap.size + 1, n, none⟩ = false := by obtain ⟨cs, hb, -, -⟩ := H1.kn; exact hb.frozen n
        have HNX : Hid (NBr w ((wr.alloc (.cells #[.int .i64 ((F (n * 9) : Nat) : Int), .int .i64 ((F (n * 9 + 1) : Nat) : Int), .int .i64 ((F (n * 9 + 2) : Nat) : Int), .int .i64 ((F (n * 9 + 3) : Nat) : Int), .int .i64 ((F (n * 9 + 4) : Nat) : Int), .int .i64 ((F (n * 9 + 5) : Nat) : Int), .int .i64 ((F (n * 9 + 6) : Nat) : Int), .int .i64 ((F (n * 9 + 7) : Nat) : Int), .int .i64 ((F (n * 9 + 8) : Nat) : Int)] 175)).setCell ⟨w.heap.size + 1, n, none⟩ (.int .i64 ((cls (sigF F) N n : Nat) : Int))) N F (n + 1)) := NBr.put H1 hlt (fun _ _ => rfl) rfl H1.low (by rw [e1]; exact H1.mp)
        obtain ⟨K, HK⟩ : ∃ K, Hid (K = cls (sigF F) N n) := ⟨_, rfl⟩
        rw [← HK.out] at lk HNX
        obtain ⟨ov, hov⟩ : ∃ ov, Hid (ov = (if n < n then cls (sigF F) N n else 0)) := ⟨_, rfl⟩
        rw [← hov.out] at kc
        clear hin e1 e2 hst hoks H1 HK HN
        go_wp2_with fail
        go_roundw
        case rel => exact ⟨n + 1, by go_num, by omega, HNX⟩
        case measure => simp [intOf]; omega
      · obtain ⟨e1, e2⟩ := cls_new hlt hin
        have lk : (Instr.lookup 172 (.map (some w.heap.size)) (.agg #[.int .i64 ((F (n * 9) : Nat) : Int), .int .i64 ((F (n * 9 + 1) : Nat) : Int), .int .i64 ((F (n * 9 + 2) : Nat) : Int), .int .i64 ((F (n * 9 + 3) : Nat) : Int), .int .i64 ((F (n * 9 + 4) : Nat) : Int), .int .i64 ((F (n * 9 + 5) : Nat) : Int), .int .i64 ((F (n * 9 + 6) : Nat) : Int), .int .i64 ((F (n * 9 + 7) : Nat) : Int), .int .i64 ((F (n * 9 + 8) : Nat) : Int)]) true).run Tryd.prog (wr.alloc (.cells #[.int .i64 ((F (n * 9) : Nat) : Int), .int .i64 ((F (n * 9 + 1) : Nat) : Int), .int .i64 ((F (n * 9 + 2) : Nat) : Int), .int .i64 ((F (n * 9 + 3) : Nat) : Int), .int .i64 ((F (n * 9 + 4) : Nat) : Int), .int .i64 ((F (n * 9 + 5) : Nat) : Int), .int .i64 ((F (n * 9 + 6) : Nat) : Int), .int .i64 ((F (n * 9 + 7) : Nat) : Int), .int .i64 ((F (n * 9 + 8) : Nat) : Int)] 175)) = .ok (.tuple #[.int .i64 0, .bool false]) (wr.alloc (.cells #[.int .i64 ((F (n * 9) : Nat) : Int), .int .i64 ((F (n * 9 + 1) : Nat) : Int), .int .i64 ((F (n * 9 + 2) : Nat) : Int), .int .i64 ((F (n * 9 + 3) : Nat) : Int), .int .i64 ((F (n * 9 + 4) : Nat) : Int), .int .i64 ((F (n * 9 + 5) : Nat) : Int), .int .i64 ((F (n * 9 + 6) : Nat) : Int), .int .i64 ((F (n * 9 + 7) : Nat) : Int), .int .i64 ((F (n * 9 + 8) : Nat) : Int)] 175)) := lookT_new hoks (nodup_fnd _ _) hst H1.mp hin
        have hlen := lenT (w := (wr.alloc (.cells #[.int .i64 ((F (n * 9) : Nat) : Int), .int .i64 ((F (n * 9 + 1) : Nat) : Int), .int .i64 ((F (n * 9 + 2) : Nat) : Int), .int .i64 ((F (n * 9 + 3) : Nat) : Int), .int .i64 ((F (n * 9 + 4) : Nat) : Int), .int .i64 ((F (n * 9 + 5) : Nat) : Int), .int .i64 ((F (n * 9 + 6) : Nat) : Int), .int .i64 ((F (n * 9 + 7) : Nat) : Int), .int .i64 ((F (n * 9 + 8) : Nat) : Int)] 175))) H1.mp
        have hu : (Instr.mapUpdate 172 (.map (some w.heap.size)) (.agg #[.int .i64 ((F (n * 9) : Nat) : Int), .int .i64 ((F (n * 9 + 1) : Nat) : Int), .int .i64 ((F (n * 9 + 2) : Nat) : Int), .int .i64 ((F (n * 9 + 3) : Nat) : Int), .int .i64 ((F (n * 9 + 4) : Nat) : Int), .int .i64 ((F (n * 9 + 5) : Nat) : Int), .int .i64 ((F (n * 9 + 6) : Nat) : Int), .int .i64 ((F (n * 9 + 7) : Nat) : Int), .int .i64 ((F (n * 9 + 8) : Nat) : Int)]) (.int .i64 ((cls (sigF F) N n : Nat) : Int))).run Tryd.prog (wr.alloc (.cells #[.int .i64 ((F (n * 9) : Nat) : Int), .int .i64 ((F (n * 9 + 1) : Nat) : Int), .int .i64 ((F (n * 9 + 2) : Nat) : Int), .int .i64 ((F (n * 9 + 3) : Nat) : Int), .int .i64 ((F (n * 9 + 4) : Nat) : Int), .int .i64 ((F (n * 9 + 5) : Nat) : Int), .int .i64 ((F (n * 9 + 6) : Nat) : Int), .int .i64 ((F (n * 9 + 7) : Nat) : Int), .int .i64 ((F (n * 9 + 8) : Nat) : Int)] 175)) = .ok () (setMap (wr.alloc (.cells #[.int .i64 ((F (n * 9) : Nat) : Int), .int .i64 ((F (n * 9 + 1) : Nat) : Int), .int .i64 ((F (n * 9 + 2) : Nat) : Int), .int .i64 ((F (n * 9 + 3) : Nat) : Int), .int .i64 ((F (n * 9 + 4) : Nat) : Int), .int .i64 ((F (n * 9 + 5) : Nat) : Int), .int .i64 ((F (n * 9 + 6) : Nat) : Int), .int .i64 ((F (n * 9 + 7) : Nat) : Int), .int .i64 ((F (n * 9 + 8) : Nat) : Int)] 175)) w.heap.size (.map (entsT (fnd (sigF F) (n + 1))) (fnd (sigF F) (n + 1)).length)) := by
          have := updT_new hoks (nodup_fnd _ _) hst (w := (wr.alloc (.cells #[.int .i64 ((F (n * 9) : Nat) : Int), .int .i64 ((F (n * 9 + 1) : Nat) : Int), .int .i64 ((F (n * 9 + 2) : Nat) : Int), .int .i64 ((F (n * 9 + 3) : Nat) : Int), .int .i64 ((F (n * 9 + 4) : Nat) : Int), .int .i64 ((F (n * 9 + 5) : Nat) : Int), .int .i64 ((F (n * 9 + 6) : Nat) : Int), .int .i64 ((F (n * 9 + 7) : Nat) : Int), .int .i64 ((F (n * 9 + 8) : Nat) : Int)] 175))) (r := w.heap.size) H1.mp hin
          rw [e2, e1, List.length_append]
          exact this
        rw [← e2] at hlen
        have hbr : w.heap.size < (wr.alloc (.cells #[.int .i64 ((F (n * 9) : Nat) : Int), .int .i64 ((F (n * 9 + 1) : Nat) : Int), .int .i64 ((F (n * 9 + 2) : Nat) : Int), .int .i64 ((F (n * 9 + 3) : Nat) : Int), .int .i64 ((F (n * 9 + 4) : Nat) : Int), .int .i64 ((F (n * 9 + 5) : Nat) : Int), .int .i64 ((F (n * 9 + 6) : Nat) : Int), .int .i64 ((F (n * 9 + 7) : Nat) : Int), .int .i64 ((F (n * 9 + 8) : Nat) : Int)] 175)).heap.size := by omega
        have KN := H1.kn.same (W' := setMap (wr.alloc (.cells #[.int .i64 ((F (n * 9) : Nat) : Int), .int .i64 ((F (n * 9 + 1) : Nat) : Int), .int .i64 ((F (n * 9 + 2) : Nat) : Int), .int .i64 ((F (n * 9 + 3) : Nat) : Int), .int .i64 ((F (n * 9 + 4) : Nat) : Int), .int .i64 ((F (n * 9 + 5) : Nat) : Int), .int .i64 ((F (n * 9 + 6) : Nat) : Int), .int .i64 ((F (n * 9 + 7) : Nat) : Int), .int .i64 ((F (n * 9 + 8) : Nat) : Int)] 175)) w.heap.size (.map (entsT (fnd (sigF F) (n + 1))) (fnd (sigF F) (n + 1)).length)) (heap_setMap_ne _ _ _ (by omega))
        have kc := KN.cell hlt
        have kf : (setMap (wr.alloc (.cells #[.int .i64 ((F (n * 9) : Nat) : Int), .int .i64 ((F (n * 9 + 1) : Nat) : Int), .int .i64 ((F (n * 9 + 2) : Nat) : Int), .int .i64 ((F (n * 9 + 3) : Nat) : Int), .int .i64 ((F (n * 9 + 4) : Nat) : Int), .int .i64 ((F (n * 9 + 5) : Nat) : Int), .int .i64 ((F (n * 9 + 6) : Nat) : Int), .int .i64 ((F (n * 9 + 7) : Nat) : Int), .int .i64 ((F (n * 9 + 8) : Nat) : Int)] 175)) w.heap.size (.map (entsT (fnd (sigF F) (n + 1))) (fnd (sigF F) (n + 1)).length)).frozen? ⟨w.heap.size + 1, n, none⟩ = false := by obtain ⟨cs, hb, -, -⟩ := KN; exact hb.frozen n
        have HNX : Hid (NBr w ((setMap (wr.alloc (.cells #[.int .i64 ((F (n * 9) : Nat) : Int), .int .i64 ((F (n * 9 + 1) : Nat) : Int), .int .i64 ((F (n * 9 + 2) : Nat) : Int), .int .i64 ((F (n * 9 + 3) : Nat) : Int), .int .i64 ((F (n * 9 + 4) : Nat) : Int), .int .i64 ((F (n * 9 + 5) : Nat) : Int), .int .i64 ((F (n * 9 + 6) : Nat) : Int), .int .i64 ((F (n * 9 + 7) : Nat) : Int), .int .i64 ((F (n * 9 + 8) : Nat) : Int)] 175)) w.heap.size (.map (entsT (fnd (sigF F) (n + 1))) (fnd (sigF F) (n + 1)).length)).setCell ⟨w.heap.size + 1, n, none⟩ (.int .i64 ((cls (sigF F) N n : Nat) : Int))) N F (n + 1)) := NBr.put H1 hlt (fun j hj => heap_setMap_ne _ _ _ hj) (size_setMap _ _ _) (Below.map H1.low (Nat.le_refl _) _) (heap_setMap _ _ hbr)
        obtain ⟨K, HK⟩ : ∃ K, Hid (K = cls (sigF F) N n) := ⟨_, rfl⟩
        rw [← HK.out] at hlen hu HNX
        obtain ⟨L, HL⟩ : ∃ L, Hid (L = fnd (sigF F) (n + 1)) := ⟨_, rfl⟩
        rw [← HL.out] at hu kc kf HNX
        obtain ⟨ov, hov⟩ : ∃ ov, Hid (ov = (if n < n then cls (sigF F) N n else 0)) := ⟨_, rfl⟩
        rw [← hov.out] at kc
        clear hin e1 e2 hst hoks H1 HK HN KN hbr
        go_wp2_with fail
        go_roundw
        case rel => exact ⟨n + 1, by go_num, by omega, HNX⟩
        case measure => simp [intOf]; omega
    · have e2 : N = n := by omega
      subst e2
      have hlen := lenT HN.out.mp
      have HKN : Hid (RowC wr (w.heap.size + 1) 3 N (fun x => .int .i64 ((cls (sigF F) N x : Nat) : Int))) := HN.out.kn.congr (fun j hj => by rw [if_pos hj])
      go_wp2
      refine bodyPost_ret (v := .tuple #[.slice (some ⟨w.heap.size + 1, 0, none⟩) N N, .int .i64 (((fnd (sigF F) N).length : Nat) : Int)]) (by simp [results, go_sem]) rfl ⟨rfl, HKN.out, HN.out.low⟩

end Go.Proofs.YtbdkaobbfmgnhaaDoor
