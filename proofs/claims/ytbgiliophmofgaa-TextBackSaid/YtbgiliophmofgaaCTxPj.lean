/-
  The walk of parts.project.
-/
import Derived.Test.YtbgiliophmofgaaG11
import Derived.Test.YtbgiliophmofgaaG13
import Derived.Test.YtbgiliophmofgaaG09
namespace Go.Proofs.Ytbgiliophmofgaa
open Go.RowKit
set_option linter.unusedVariables false

/-- The rest of a project. -/
def prj9 (S E : List Str) (r2 r3 r4 r5 r6 r7 : List Int) (ts : List Thr) : Except (Int × Nat) Proj := (arrL S E [] ts).bind fun A => .ok ⟨S, E, ⟨S.length, E.length, r6, A, r7⟩, r2, r3, r4, r5⟩
def prj7 (S E : List Str) (r2 r3 r4 r5 r6 : List Int) (p7 : List Tok) (ts : List Thr) : Except (Int × Nat) Proj := (rowL S [] p7).bind fun r7 => prj9 S E r2 r3 r4 r5 r6 r7 ts
def prj6 (S E : List Str) (r2 r3 r4 r5 : List Int) (p6 p7 : List Tok) (ts : List Thr) : Except (Int × Nat) Proj := (rowL S [] p6).bind fun r6 => prj7 S E r2 r3 r4 r5 r6 p7 ts
def prj5 (S E : List Str) (r2 r3 r4 : List Int) (p5 p6 p7 : List Tok) (ts : List Thr) : Except (Int × Nat) Proj := (rowL S [] p5).bind fun r5 => prj6 S E r2 r3 r4 r5 p6 p7 ts
def prj4 (S E : List Str) (r2 r3 : List Int) (p4 p5 p6 p7 : List Tok) (ts : List Thr) : Except (Int × Nat) Proj := (rowL E [] p4).bind fun r4 => prj5 S E r2 r3 r4 p5 p6 p7 ts
def prj3 (S E : List Str) (r2 : List Int) (p3 p4 p5 p6 p7 : List Tok) (ts : List Thr) : Except (Int × Nat) Proj := (rowL E [] p3).bind fun r3 => prj4 S E r2 r3 p4 p5 p6 p7 ts
def prj2 (S E : List Str) (p2 p3 p4 p5 p6 p7 : List Tok) (ts : List Thr) : Except (Int × Nat) Proj := (rowL E [] p2).bind fun r2 => prj3 S E r2 p3 p4 p5 p6 p7 ts
def prj1 (S : List Str) (p1 p2 p3 p4 p5 p6 p7 : List Tok) (ts : List Thr) : Except (Int × Nat) Proj := (listL 8 [] p1).bind fun E => prj2 S E p2 p3 p4 p5 p6 p7 ts
theorem prj_from (p0 p1 p2 p3 p4 p5 p6 p7 : List Tok) (ts : List Thr) : prjL [p0, p1, p2, p3, p4, p5, p6, p7] ts = (listL 6 [] p0).bind fun S => prj1 S p1 p2 p3 p4 p5 p6 p7 ts := rfl
/-- A row of the call's own. -/
structure ORow where
  e : TypeId
  s : Nat
  v : Value
  n : Nat
  xs : List Value
abbrev ORow.owns (W : World) (B : Nat) (f : ORow) : Prop := W.ownsRow B f.e f.s f.v f.n f.xs
/-- What project knows of the memory. -/
structure PJK (w W : World) (pc cs : Array Value) (F : List ORow) : Prop where
  bel : Below w.heap.size w W
  k1 : Blk W w.heap.size 48 pc
  k2 : Blk W (w.heap.size + 1) 28 #[.slice none 0 0, .slice none 0 0, .int .i64 0, .int .i64 0, .slice none 0 0, .slice none 0 0, .slice none 0 0, .slice none 0 0, .slice none 0 0, .slice none 0 0, .slice none 0 0]
  k3 : Blk W (w.heap.size + 1 + 1) 28 cs
  o : ∀ f ∈ F, ORow.owns W w.heap.size f ∧ f.e ≠ 28
theorem PJK.below {w W W' : World} {pc cs : Array Value} {F : List ORow} (h : PJK w W pc cs F) (hb : Below W.heap.size W W') : PJK w W' pc cs F :=
  ⟨h.bel.trans (hb.mono h.bel.size), h.k1.below hb h.k1.lt, h.k2.below hb h.k2.lt, h.k3.below hb h.k3.lt, fun f hf => ⟨own_same (h.o f hf).1 (fun k hk => hb.block k (World.ownsRow.lt (h.o f hf).1 k hk).2), (h.o f hf).2⟩⟩
theorem PJK.put {w W : World} {pc cs : Array Value} {F : List ORow} (h : PJK w W pc cs F) (j : Nat) (v : Value) : PJK w (W.setCell ⟨w.heap.size + 1 + 1, j, none⟩ v) pc (cs.setIfInBounds j v) F :=
  ⟨h.bel.setCell (p := ⟨w.heap.size + 1 + 1, j, none⟩) (show w.heap.size ≤ w.heap.size + 1 + 1 by omega) v, h.k1.other (by omega) v, h.k2.other (by omega) v, h.k3.set j v, fun f hf => ⟨own_same (h.o f hf).1 (fun k hk => Below.heap_setCell _ _ _ _ (show k ≠ w.heap.size + 1 + 1 from fun e => own_blk (h.o f hf).1 (show W.heap[w.heap.size + 1 + 1]? = _ from h.k3) (Ne.symm (h.o f hf).2) (by rw [hk, e]))), (h.o f hf).2⟩⟩
theorem PJK.step {w W W' : World} {pc cs : Array Value} {F : List ORow} (h : PJK w W pc cs F) (hb : Below W.heap.size W W') (f : ORow) (hf : ORow.owns W' W.heap.size f) (he : f.e ≠ 28) (j : Nat) : PJK w (W'.setCell ⟨w.heap.size + 1 + 1, j, none⟩ f.v) pc (cs.setIfInBounds j f.v) (F ++ [f]) := by
  have h1 : PJK w W' pc cs (F ++ [f]) := by
    have h0 := h.below hb
    refine ⟨h0.bel, h0.k1, h0.k2, h0.k3, fun g hg => ?_⟩
    rcases List.mem_append.1 hg with hg | hg
    · exact h0.o g hg
    · have : g = f := by simpa using hg
      subst this
      exact ⟨own_low16 hf h.bel.size, he⟩
  exact h1.put j f.v
theorem th_below {w V : World} {v : Value} {ts : List Thr} (h : ThAt w v ts) (hb : Below w.heap.size w V) : ThAt V v ts := by
  obtain ⟨a, c, h1, h2⟩ := h
  refine ⟨a, c, h1, h2.imp id ?_⟩
  rintro ⟨g, h3, h4, h5⟩
  exact ⟨g, h3, Nat.lt_of_lt_of_le h4 hb.size, fun j x hj i u hu => (hb.cell (p := ⟨g, _, none⟩) h4).trans (h5 j x hj i u hu)⟩
theorem sls_of {W : World} {B : Nat} {a : Option Addr} {c : Nat} {S : List Str} (h : OwnSr W B (.slice a S.length c) S) : SlS W a c S := by
  obtain ⟨a', c', hv, x1, x2, x3, x4⟩ := OwnSr.at h
  cases hv
  exact ⟨x1, x2, x3, x4⟩
theorem sl_of {W : World} {B : Nat} {a : Option Addr} {c : Nat} {l : List Int} (h : Own W B (.slice a l.length c) l) : Sl W a c l := by
  obtain ⟨a', c', hv, x1, x2, x3, x4⟩ := Own.at2 h
  cases hv
  exact ⟨x1, x2, x3, x4⟩
theorem mat_of {W : World} {B st ev : Nat} {a1 a2 a3 : Option Addr} {c1 c2 c3 : Nat} {s e : List Int} {A : List Arr} (h1 : Own W B (.slice a1 s.length c1) s) (h2 : OwnA W B (.slice a2 A.length c2) A) (h3 : Own W B (.slice a3 e.length c3) e) : MAt W ⟨st, ev, s, A, e⟩ ⟨a1, c1, a2, c2, a3, c3⟩ := by
  have s1 := sl_of h1
  have s3 := sl_of h3
  obtain ⟨a', c', hv, x1, x2, x3, x4⟩ := OwnA.at h2
  cases hv
  exact ⟨s1.at_, x1, s3.at_, s1.le, s1.max, s1.nil, x2, x3, x4, s3.le, s3.max, s3.nil⟩
theorem fd_of {W : World} {B p : Nat} {a : Option Addr} {c : Nat} {S : List Str} (hb : Blk W p 22 #[.slice a S.length c]) (h : OwnSr W B (.slice a S.length c) S) (hl : S.length ≤ 8) : FdAt W p S :=
  ⟨⟨a, c, hb, (sls_of h).at_⟩, hl⟩
theorem tk_below {w V : World} {v : Value} {l : List Tok} (h : TkAt w v l) (hb : Below w.heap.size w V) : TkAt V v l := h.below hb
/-- What project leaves. -/
def ProjPost (x : Except (Int × Nat) Proj) (w : World) (e : Ending) (w' : World) : Prop := Below w.heap.size w w' ∧ match x with
  | .error er => e = Pn er.1 (er.2 : Int)
  | .ok p => ∃ L, e = .returned (pjval p L) ∧ ∀ W : World, (∀ k, w.heap.size ≤ k → k < w'.heap.size → W.heap[k]? = w'.heap[k]?) → PjAt W p L
set_option maxRecDepth 100000 in
set_option maxHeartbeats 4000000 in
theorem results_proj {fn : Func} {p : Tmp} (h : fn.results = #[.cell p 28]) (tmps : Array Value) (w : World) (g : Nat) (q : Proj) (L : PJL) (hp : tmps.getD p undef = .pointer (some ⟨g, 0, none⟩)) (hB : Blk w g 28 (pjcells q L)) :
    (results fn tmps).run Try.prog w = .ok (pjval q L) w := by
  obtain ⟨x0, x1, x2, x3, x4, x5, x6, x7, x8, x9, x10⟩ := pj11 hB
  have e : (results fn tmps).run Try.prog w = ((asAddr (tmps.getD p undef)).run Try.prog w).andThen fun a w₁ => (loadVar 28 a).run Try.prog w₁ := by
    simp only [results, h]
    simp [Sem.run_bind, Result.andThen]
  rw [e, hp]
  go_simp
theorem setP_below {B : Nat} {U Z : World} {r2 : Nat} (v0 v1 v2 v3 v4 v5 v6 v7 v8 v9 v10 : Value) (h : Below B U Z) (h2 : B ≤ r2) : Below B U (setPq Z r2 v0 v1 v2 v3 v4 v5 v6 v7 v8 v9 v10) :=
  ((((((((((h.setCell (p := ⟨r2, 0, none⟩) h2 v0).setCell (p := ⟨r2, 1, none⟩) h2 v1).setCell (p := ⟨r2, 2, none⟩) h2 v2).setCell (p := ⟨r2, 3, none⟩) h2 v3).setCell (p := ⟨r2, 4, none⟩) h2 v4).setCell (p := ⟨r2, 5, none⟩) h2 v5).setCell (p := ⟨r2, 6, none⟩) h2 v6).setCell (p := ⟨r2, 7, none⟩) h2 v7).setCell (p := ⟨r2, 8, none⟩) h2 v8).setCell (p := ⟨r2, 9, none⟩) h2 v9).setCell (p := ⟨r2, 10, none⟩) h2 v10
theorem setP_blk {Z : World} {r2 : Nat} (v0 v1 v2 v3 v4 v5 v6 v7 v8 v9 v10 : Value) (h2 : Blk Z r2 28 #[.slice none 0 0, .slice none 0 0, .int .i64 0, .int .i64 0, .slice none 0 0, .slice none 0 0, .slice none 0 0, .slice none 0 0, .slice none 0 0, .slice none 0 0, .slice none 0 0]) : Blk (setPq Z r2 v0 v1 v2 v3 v4 v5 v6 v7 v8 v9 v10) r2 28 #[v0, v1, v2, v3, v4, v5, v6, v7, v8, v9, v10] := by
  have h := ((((((((((h2.set 0 v0).set 1 v1).set 2 v2).set 3 v3).set 4 v4).set 5 v5).set 6 v6).set 7 v7).set 8 v8).set 9 v9).set 10 v10
  simp only [List.setIfInBounds_toArray, List.set_cons_zero, List.set_cons_succ] at h
  exact h

set_option maxRecDepth 100000 in
set_option maxHeartbeats 16000000 in
theorem project_any (v0 v1 v2 v3 v4 v5 v6 v7 v8 : Value) (p0 p1 p2 p3 p4 p5 p6 p7 : List Tok) (ts : List Thr) (w : World) (h0 : Hid (TkAt w v0 p0)) (h1 : Hid (TkAt w v1 p1)) (h2 : Hid (TkAt w v2 p2)) (h3 : Hid (TkAt w v3 p3)) (h4 : Hid (TkAt w v4 p4)) (h5 : Hid (TkAt w v5 p5)) (h6 : Hid (TkAt w v6 p6)) (h7 : Hid (TkAt w v7 p7)) (h8 : Hid (ThAt w v8 ts)) (l0 : p0.length ≤ 4000) (l1 : p1.length ≤ 4000) (l2 : p2.length ≤ 4000) (l3 : p3.length ≤ 4000) (l4 : p4.length ≤ 4000) (l5 : p5.length ≤ 4000) (l6 : p6.length ≤ 4000) (l7 : p7.length ≤ 4000) (l8 : ts.length ≤ 4000) (t0 : Hid (∀ t ∈ p0, t.text.length ≤ 4000)) (t1 : Hid (∀ t ∈ p1, t.text.length ≤ 4000)) :
    Calls Try.prog 21 #[.agg #[v0, v1, v2, v3, v4, v5, v6, v7, v8]] w fun e w' => ProjPost (prjL [p0, p1, p2, p3, p4, p5, p6, p7] ts) w e w' := by
  have HE0 : Hid (prjL [p0, p1, p2, p3, p4, p5, p6, p7] ts = (listL 6 [] p0).bind fun S => prj1 S p1 p2 p3 p4 p5 p6 p7 ts) := prj_from p0 p1 p2 p3 p4 p5 p6 p7 ts
  obtain ⟨a0, c0, rfl, -⟩ := h0.out
  obtain ⟨a1, c1, rfl, -⟩ := h1.out
  obtain ⟨a2, c2, rfl, -⟩ := h2.out
  obtain ⟨a3, c3, rfl, -⟩ := h3.out
  obtain ⟨a4, c4, rfl, -⟩ := h4.out
  obtain ⟨a5, c5, rfl, -⟩ := h5.out
  obtain ⟨a6, c6, rfl, -⟩ := h6.out
  obtain ⟨a7, c7, rfl, -⟩ := h7.out
  obtain ⟨a8, c8, rfl, -⟩ := h8.out
  have K0 : Hid (PJK w (((w.alloc (.cells #[.slice a0 p0.length c0, .slice a1 p1.length c1, .slice a2 p2.length c2, .slice a3 p3.length c3, .slice a4 p4.length c4, .slice a5 p5.length c5, .slice a6 p6.length c6, .slice a7 p7.length c7, .slice a8 ts.length c8] 48)).alloc (.cells #[.slice none 0 0, .slice none 0 0, .int .i64 0, .int .i64 0, .slice none 0 0, .slice none 0 0, .slice none 0 0, .slice none 0 0, .slice none 0 0, .slice none 0 0, .slice none 0 0] 28)).alloc (.cells #[.slice none 0 0, .slice none 0 0, .int .i64 0, .int .i64 0, .slice none 0 0, .slice none 0 0, .slice none 0 0, .slice none 0 0, .slice none 0 0, .slice none 0 0, .slice none 0 0] 28)) #[.slice a0 p0.length c0, .slice a1 p1.length c1, .slice a2 p2.length c2, .slice a3 p3.length c3, .slice a4 p4.length c4, .slice a5 p5.length c5, .slice a6 p6.length c6, .slice a7 p7.length c7, .slice a8 ts.length c8] #[.slice none 0 0, .slice none 0 0, .int .i64 0, .int .i64 0, .slice none 0 0, .slice none 0 0, .slice none 0 0, .slice none 0 0, .slice none 0 0, .slice none 0 0, .slice none 0 0] []) := by
    refine ⟨(((Below.refl _ _).alloc (Nat.le_refl _) _).alloc (by simp) _).alloc (by simp; omega) _, ((Blk.new w _ _).alloc _).alloc _, ?_, ?_, fun f hf => absurd hf (by simp)⟩
    · have := (Blk.new (w.alloc (.cells #[.slice a0 p0.length c0, .slice a1 p1.length c1, .slice a2 p2.length c2, .slice a3 p3.length c3, .slice a4 p4.length c4, .slice a5 p5.length c5, .slice a6 p6.length c6, .slice a7 p7.length c7, .slice a8 ts.length c8] 48)) 28 #[.slice none 0 0, .slice none 0 0, .int .i64 0, .int .i64 0, .slice none 0 0, .slice none 0 0, .slice none 0 0, .slice none 0 0, .slice none 0 0, .slice none 0 0, .slice none 0 0]).alloc (.cells #[.slice none 0 0, .slice none 0 0, .int .i64 0, .int .i64 0, .slice none 0 0, .slice none 0 0, .slice none 0 0, .slice none 0 0, .slice none 0 0, .slice none 0 0, .slice none 0 0] 28)
      rwa [World.size_alloc] at this
    · have := Blk.new ((w.alloc (.cells #[.slice a0 p0.length c0, .slice a1 p1.length c1, .slice a2 p2.length c2, .slice a3 p3.length c3, .slice a4 p4.length c4, .slice a5 p5.length c5, .slice a6 p6.length c6, .slice a7 p7.length c7, .slice a8 ts.length c8] 48)).alloc (.cells #[.slice none 0 0, .slice none 0 0, .int .i64 0, .int .i64 0, .slice none 0 0, .slice none 0 0, .slice none 0 0, .slice none 0 0, .slice none 0 0, .slice none 0 0, .slice none 0 0] 28)) 28 #[.slice none 0 0, .slice none 0 0, .int .i64 0, .int .i64 0, .slice none 0 0, .slice none 0 0, .slice none 0 0, .slice none 0 0, .slice none 0 0, .slice none 0 0, .slice none 0 0]
      rwa [World.size_alloc, World.size_alloc] at this
  go_enter Try.func21, Try.ntmps21
  go_wp2_with fail
  revert K0
  generalize (((w.alloc (.cells #[.slice a0 p0.length c0, .slice a1 p1.length c1, .slice a2 p2.length c2, .slice a3 p3.length c3, .slice a4 p4.length c4, .slice a5 p5.length c5, .slice a6 p6.length c6, .slice a7 p7.length c7, .slice a8 ts.length c8] 48)).alloc (.cells #[.slice none 0 0, .slice none 0 0, .int .i64 0, .int .i64 0, .slice none 0 0, .slice none 0 0, .slice none 0 0, .slice none 0 0, .slice none 0 0, .slice none 0 0, .slice none 0 0] 28)).alloc (.cells #[.slice none 0 0, .slice none 0 0, .int .i64 0, .int .i64 0, .slice none 0 0, .slice none 0 0, .slice none 0 0, .slice none 0 0, .slice none 0 0, .slice none 0 0, .slice none 0 0] 28)) = V0
  intro K0
  obtain ⟨x0, x1, x2, x3, x4, x5, x6, x7, x8⟩ := blk9 K0.out.k1
  go_wp2_with fail
  clear x0 x1 x2 x3 x4 x5 x6 x7 x8
  refine (list_any (.slice a0 p0.length c0) p0 6 (by omega) l0 V0 t0 (Hid.of (tk_below h0.out K0.out.bel))).mono ?_
  intro e U0 hq
  obtain ⟨hb, hq⟩ := hq
  cases hx : listL 6 [] p0 with
  | error er =>
    rw [hx] at hq
    dsimp only at hq
    subst hq
    have HX : Hid (prjL [p0, p1, p2, p3, p4, p5, p6, p7] ts = .error er) := by
      show _ = _
      rw [HE0.out]
      show Except.bind _ _ = _
      rw [hx]; rfl
    have HBX := Hid.of (K0.out.bel.trans (hb.mono K0.out.bel.size))
    clear hx hb
    go_wp2_with fail
    refine ⟨rfl, HBX.out, ?_⟩
    rw [HX.out]
  | ok S =>
    rw [hx] at hq
    dsimp only at hq
    obtain ⟨v, rfl, ho, hS8⟩ := hq
    have HE1 : Hid (prjL [p0, p1, p2, p3, p4, p5, p6, p7] ts = (listL 8 [] p1).bind fun E => prj2 S E p2 p3 p4 p5 p6 p7 ts) := by
      show _ = _
      rw [HE0.out]
      show Except.bind _ _ = _
      rw [hx]; rfl
    obtain ⟨sa, sc, hv, -, -, -, -⟩ := OwnSr.at ho
    subst hv
    have KB := Hid.of (K0.out.below hb)
    have K1 : Hid (PJK w (U0.setCell ⟨w.heap.size + 1 + 1, 0, none⟩ (.slice sa S.length sc)) #[.slice a0 p0.length c0, .slice a1 p1.length c1, .slice a2 p2.length c2, .slice a3 p3.length c3, .slice a4 p4.length c4, .slice a5 p5.length c5, .slice a6 p6.length c6, .slice a7 p7.length c7, .slice a8 ts.length c8] #[.slice sa S.length sc, .slice none 0 0, .int .i64 0, .int .i64 0, .slice none 0 0, .slice none 0 0, .slice none 0 0, .slice none 0 0, .slice none 0 0, .slice none 0 0, .slice none 0 0] [⟨9, 1, .slice sa S.length sc, S.length, S.map strV⟩]) := PJK.step K0.out hb (⟨9, 1, .slice sa S.length sc, S.length, S.map strV⟩) ho (by show (_ : TypeId) ≠ _; dsimp only; decide) 0
    obtain ⟨y0, y1, y2, y3, y4, y5, y6, y7, y8, y9, y10⟩ := pj11 KB.out.k3
    have yf := KB.out.k3.frozen
    obtain ⟨x0, x1, x2, x3, x4, x5, x6, x7, x8⟩ := blk9 K1.out.k1
    clear hx hb ho HE0 K0 KB
    go_wp2_with fail
    clear x0 x1 x2 x3 x4 x5 x6 x7 x8
    clear y0 y1 y2 y3 y4 y5 y6 y7 y8 y9 y10 yf
    revert K1
    generalize U0.setCell ⟨w.heap.size + 1 + 1, 0, none⟩ (.slice sa S.length sc) = V1
    intro K1
    refine (list_any (.slice a1 p1.length c1) p1 8 (by omega) l1 V1 t1 (Hid.of (tk_below h1.out K1.out.bel))).mono ?_
    intro e U1 hq
    obtain ⟨hb, hq⟩ := hq
    cases hx : listL 8 [] p1 with
    | error er =>
      rw [hx] at hq
      dsimp only at hq
      subst hq
      have HX : Hid (prjL [p0, p1, p2, p3, p4, p5, p6, p7] ts = .error er) := by
        show _ = _
        rw [HE1.out]
        show Except.bind _ _ = _
        rw [hx]; rfl
      have HBX := Hid.of (K1.out.bel.trans (hb.mono K1.out.bel.size))
      clear hx hb
      go_wp2_with fail
      refine ⟨rfl, HBX.out, ?_⟩
      rw [HX.out]
    | ok E =>
      rw [hx] at hq
      dsimp only at hq
      obtain ⟨v, rfl, ho, hE8⟩ := hq
      have HE2 : Hid (prjL [p0, p1, p2, p3, p4, p5, p6, p7] ts = prj2 S E p2 p3 p4 p5 p6 p7 ts) := by
        show _ = _
        rw [HE1.out]
        show Except.bind _ _ = _
        rw [hx]; rfl
      obtain ⟨ea, ec, hv, -, -, -, -⟩ := OwnSr.at ho
      subst hv
      have KB := Hid.of (K1.out.below hb)
      have K2 : Hid (PJK w (U1.setCell ⟨w.heap.size + 1 + 1, 1, none⟩ (.slice ea E.length ec)) #[.slice a0 p0.length c0, .slice a1 p1.length c1, .slice a2 p2.length c2, .slice a3 p3.length c3, .slice a4 p4.length c4, .slice a5 p5.length c5, .slice a6 p6.length c6, .slice a7 p7.length c7, .slice a8 ts.length c8] #[.slice sa S.length sc, .slice ea E.length ec, .int .i64 0, .int .i64 0, .slice none 0 0, .slice none 0 0, .slice none 0 0, .slice none 0 0, .slice none 0 0, .slice none 0 0, .slice none 0 0] [⟨9, 1, .slice sa S.length sc, S.length, S.map strV⟩, ⟨9, 1, .slice ea E.length ec, E.length, E.map strV⟩]) := PJK.step K1.out hb (⟨9, 1, .slice ea E.length ec, E.length, E.map strV⟩) ho (by show (_ : TypeId) ≠ _; dsimp only; decide) 1
      obtain ⟨y0, y1, y2, y3, y4, y5, y6, y7, y8, y9, y10⟩ := pj11 KB.out.k3
      have yf := KB.out.k3.frozen
      obtain ⟨x0, x1, x2, x3, x4, x5, x6, x7, x8⟩ := blk9 K2.out.k1
      clear hx hb ho HE1 K1 KB
      go_wp2_with fail
      clear x0 x1 x2 x3 x4 x5 x6 x7 x8
      clear y0 y1 y2 y3 y4 y5 y6 y7 y8 y9 y10 yf
      revert K2
      generalize U1.setCell ⟨w.heap.size + 1 + 1, 1, none⟩ (.slice ea E.length ec) = V2
      intro K2
      obtain ⟨y0, y1, -, -, -, -, -, -, -, -, -⟩ := pj11 K2.out.k3
      have SA : V2.drew.cell? ⟨w.heap.size + 1 + 1, 0, none⟩ = some (.slice sa S.length sc) ∧ V2.drew.cell? ⟨w.heap.size + 1 + 1, 1, none⟩ = some (.slice ea E.length ec) := ⟨y0, y1⟩
      clear y0 y1
      refine wp_region_held_drew (S := fun w' => w'.cell? ⟨w.heap.size + 1 + 1, 0, none⟩ = some (.slice sa S.length sc) ∧ w'.cell? ⟨w.heap.size + 1 + 1, 1, none⟩ = some (.slice ea E.length ec)) (by kernel_rfl) SA (fun hS => ?_)
      clear SA
      have Q0 : Hid (PJK w V2.drew #[.slice a0 p0.length c0, .slice a1 p1.length c1, .slice a2 p2.length c2, .slice a3 p3.length c3, .slice a4 p4.length c4, .slice a5 p5.length c5, .slice a6 p6.length c6, .slice a7 p7.length c7, .slice a8 ts.length c8] #[.slice sa S.length sc, .slice ea E.length ec, .int .i64 0, .int .i64 0, .slice none 0 0, .slice none 0 0, .slice none 0 0, .slice none 0 0, .slice none 0 0, .slice none 0 0, .slice none 0 0] [⟨9, 1, .slice sa S.length sc, S.length, S.map strV⟩, ⟨9, 1, .slice ea E.length ec, E.length, E.map strV⟩]) := ⟨K2.out.bel.drew, K2.out.k1, K2.out.k2, K2.out.k3, K2.out.o⟩
      clear K2
      revert hS Q0
      generalize V2.drew = Y0
      intro hS Q0
      refine wpAnyH_take (i := 0) (v := .pointer (some ⟨w.heap.size + 1 + 1, 0, none⟩)) rfl (by kernel_rfl) (by kernel_rfl) (by kernel_rfl) (fun _ _ _ h => h) (Or.inl ⟨by kernel_rfl, fun w' hw' => by obtain ⟨q0, q1⟩ := hw'; go_simp⟩) hS ?_
      refine wpAnyH_take (i := 1) (v := .slice sa S.length sc) rfl (by kernel_rfl) (by kernel_rfl) (by kernel_rfl) (fun _ _ _ h => h) (Or.inl ⟨by kernel_rfl, fun w' hw' => by obtain ⟨q0, q1⟩ := hw'; go_simp⟩) hS ?_
      refine wpAnyH_take (i := 3) (v := .pointer (some ⟨w.heap.size + 1 + 1, 1, none⟩)) rfl (by kernel_rfl) (by kernel_rfl) (by kernel_rfl) (fun _ _ _ h => h) (Or.inl ⟨by kernel_rfl, fun w' hw' => by obtain ⟨q0, q1⟩ := hw'; go_simp⟩) hS ?_
      refine wpAnyH_take (i := 4) (v := .slice ea E.length ec) rfl (by kernel_rfl) (by kernel_rfl) (by kernel_rfl) (fun _ _ _ h => h) (Or.inl ⟨by kernel_rfl, fun w' hw' => by obtain ⟨q0, q1⟩ := hw'; go_simp⟩) hS ?_
      simp only [Act.put, List.setIfInBounds_toArray, List.getElem_toArray, List.getElem_cons_succ, List.getElem_cons_zero, List.set_cons_zero, List.set_cons_succ]
      refine wpAnyH_ready (rs := [2]) (by kernel_rfl) (by simp) ?_
      refine AllReadyH.cons rfl (fun K' hK' => ?_) AllReadyH.nil
      clear hS
      go_simp
      refine (finder_any sa S.length sc Y0).mono ?_
      rintro e Y1 ⟨rfl, rfl⟩
      have hb : Below Y0.heap.size Y0 (Y0.alloc (.cells #[.slice sa S.length sc] 22)) := (Below.refl _ _).alloc (Nat.le_refl _) _
      have Q1 := Hid.of (Q0.out.below hb)
      have FB2 : Hid (Blk (Y0.alloc (.cells #[.slice sa S.length sc] 22)) Y0.heap.size 22 #[.slice sa S.length sc]) := Blk.new Y0 _ _
      have FN2 : Hid (Y0.heap.size ≠ w.heap.size + 1 + 1) := fun e => by have := Q0.out.k3.lt; omega
      refine hK'.out _ _ (by obtain ⟨y0, y1, -⟩ := pj11 Q1.out.k3; exact ⟨y0, y1⟩) (fun hS => ?_)
      clear hK' K' hb Q0
      revert Q1 FB2 FN2 hS
      generalize Y0.alloc (.cells #[.slice sa S.length sc] 22) = Y1
      generalize Y0.heap.size = fp
      intro Q1 FB2 FN2 hS
      try simp only [Act.put, List.setIfInBounds_toArray, List.getElem_toArray, List.getElem_cons_succ, List.getElem_cons_zero, List.set_cons_zero, List.set_cons_succ]
      refine wpAnyH_ready (rs := [5]) (by kernel_rfl) (by simp) ?_
      refine AllReadyH.cons rfl (fun K' hK' => ?_) AllReadyH.nil
      clear hS
      go_simp
      refine (finder_any ea E.length ec Y1).mono ?_
      rintro e V3 ⟨rfl, rfl⟩
      have hb : Below Y1.heap.size Y1 (Y1.alloc (.cells #[.slice ea E.length ec] 22)) := (Below.refl _ _).alloc (Nat.le_refl _) _
      have K3 := Hid.of (Q1.out.below hb)
      have FB5 : Hid (Blk (Y1.alloc (.cells #[.slice ea E.length ec] 22)) Y1.heap.size 22 #[.slice ea E.length ec]) := Blk.new Y1 _ _
      have FN5 : Hid (Y1.heap.size ≠ w.heap.size + 1 + 1) := fun e => by have := Q1.out.k3.lt; omega
      replace FB2 := Hid.of (FB2.out.below hb FB2.out.lt)
      refine hK'.out _ _ (by obtain ⟨y0, y1, -⟩ := pj11 K3.out.k3; exact ⟨y0, y1⟩) (fun hS => ?_)
      clear hK' K' hb Q1
      revert K3 FB5 FN5 hS FB2
      generalize Y1.alloc (.cells #[.slice ea E.length ec] 22) = V3
      generalize Y1.heap.size = ep
      intro K3 FB5 FN5 FB2 hS
      refine wpAnyH_take (i := 6) (v := findV fp) rfl (by kernel_rfl) (by kernel_rfl) (by kernel_rfl) (fun _ _ _ h => h) (Or.inl ⟨by kernel_rfl, fun w' hw' => by obtain ⟨q0, q1⟩ := hw'; go_simp⟩) hS ?_
      refine wpAnyH_take (i := 7) (v := findV ep) rfl (by kernel_rfl) (by kernel_rfl) (by kernel_rfl) (fun _ _ _ h => h) (Or.inl ⟨by kernel_rfl, fun w' hw' => by obtain ⟨q0, q1⟩ := hw'; go_simp⟩) hS ?_
      simp only [Act.put, List.setIfInBounds_toArray, List.getElem_toArray, List.getElem_cons_succ, List.getElem_cons_zero, List.set_cons_zero, List.set_cons_succ]
      clear hS
      refine wpAnyH_done (by kernel_rfl) ?_ _
      obtain ⟨x0, x1, x2, x3, x4, x5, x6, x7, x8⟩ := blk9 K3.out.k1
      go_wp2_with fail
      clear x0 x1 x2 x3 x4 x5 x6 x7 x8
      have HE3 := HE2
      clear HE2
      refine (rowOf_any (.slice a2 p2.length c2) p2 ep E l2 V3 (Hid.of (fd_of FB5.out (K3.out.o _ (List.mem_of_getElem? (i := 1) rfl)).1 hE8)) (Hid.of (tk_below h2.out K3.out.bel))).mono ?_
      intro e U3 hq
      obtain ⟨hb, hq⟩ := hq
      cases hx : rowL E [] p2 with
      | error er =>
        rw [hx] at hq
        dsimp only at hq
        subst hq
        have HX : Hid (prjL [p0, p1, p2, p3, p4, p5, p6, p7] ts = .error er) := by
          show _ = _
          rw [HE3.out]
          show Except.bind _ _ = _
          rw [hx]; rfl
        have HBX := Hid.of (K3.out.bel.trans (hb.mono K3.out.bel.size))
        clear hx hb
        go_wp2_with fail
        refine ⟨rfl, HBX.out, ?_⟩
        rw [HX.out]
      | ok r2 =>
        rw [hx] at hq
        dsimp only at hq
        obtain ⟨v, rfl, ho⟩ := hq
        have HE4 : Hid (prjL [p0, p1, p2, p3, p4, p5, p6, p7] ts = prj3 S E r2 p3 p4 p5 p6 p7 ts) := by
          show _ = _
          rw [HE3.out]
          show Except.bind _ _ = _
          rw [hx]; rfl
        obtain ⟨b2, d2, hv, -, -⟩ := Own.at ho
        subst hv
        have KB := Hid.of (K3.out.below hb)
        have K4 : Hid (PJK w (U3.setCell ⟨w.heap.size + 1 + 1, 7, none⟩ (.slice b2 r2.length d2)) #[.slice a0 p0.length c0, .slice a1 p1.length c1, .slice a2 p2.length c2, .slice a3 p3.length c3, .slice a4 p4.length c4, .slice a5 p5.length c5, .slice a6 p6.length c6, .slice a7 p7.length c7, .slice a8 ts.length c8] #[.slice sa S.length sc, .slice ea E.length ec, .int .i64 0, .int .i64 0, .slice none 0 0, .slice none 0 0, .slice none 0 0, .slice b2 r2.length d2, .slice none 0 0, .slice none 0 0, .slice none 0 0] [⟨9, 1, .slice sa S.length sc, S.length, S.map strV⟩, ⟨9, 1, .slice ea E.length ec, E.length, E.map strV⟩, ⟨3, 1, .slice b2 r2.length d2, r2.length, r2.map (Value.int .i64)⟩]) := PJK.step K3.out hb (⟨3, 1, .slice b2 r2.length d2, r2.length, r2.map (Value.int .i64)⟩) ho (by show (_ : TypeId) ≠ _; dsimp only; decide) 7
        have GB2 : Hid (Blk (U3.setCell ⟨w.heap.size + 1 + 1, 7, none⟩ (.slice b2 r2.length d2)) fp 22 #[.slice sa S.length sc]) := (FB2.out.below hb FB2.out.lt).other FN2.out _
        have GB5 : Hid (Blk (U3.setCell ⟨w.heap.size + 1 + 1, 7, none⟩ (.slice b2 r2.length d2)) ep 22 #[.slice ea E.length ec]) := (FB5.out.below hb FB5.out.lt).other FN5.out _
        obtain ⟨y0, y1, y2, y3, y4, y5, y6, y7, y8, y9, y10⟩ := pj11 KB.out.k3
        have yf := KB.out.k3.frozen
        obtain ⟨x0, x1, x2, x3, x4, x5, x6, x7, x8⟩ := blk9 K4.out.k1
        clear hx hb ho HE3 K3 KB FB2 FB5
        go_wp2_with fail
        clear x0 x1 x2 x3 x4 x5 x6 x7 x8
        clear y0 y1 y2 y3 y4 y5 y6 y7 y8 y9 y10 yf
        revert K4 GB2 GB5
        generalize U3.setCell ⟨w.heap.size + 1 + 1, 7, none⟩ (.slice b2 r2.length d2) = V4
        intro K4 FB2 FB5
        refine (rowOf_any (.slice a3 p3.length c3) p3 ep E l3 V4 (Hid.of (fd_of FB5.out (K4.out.o _ (List.mem_of_getElem? (i := 1) rfl)).1 hE8)) (Hid.of (tk_below h3.out K4.out.bel))).mono ?_
        intro e U4 hq
        obtain ⟨hb, hq⟩ := hq
        cases hx : rowL E [] p3 with
        | error er =>
          rw [hx] at hq
          dsimp only at hq
          subst hq
          have HX : Hid (prjL [p0, p1, p2, p3, p4, p5, p6, p7] ts = .error er) := by
            show _ = _
            rw [HE4.out]
            show Except.bind _ _ = _
            rw [hx]; rfl
          have HBX := Hid.of (K4.out.bel.trans (hb.mono K4.out.bel.size))
          clear hx hb
          go_wp2_with fail
          refine ⟨rfl, HBX.out, ?_⟩
          rw [HX.out]
        | ok r3 =>
          rw [hx] at hq
          dsimp only at hq
          obtain ⟨v, rfl, ho⟩ := hq
          have HE5 : Hid (prjL [p0, p1, p2, p3, p4, p5, p6, p7] ts = prj4 S E r2 r3 p4 p5 p6 p7 ts) := by
            show _ = _
            rw [HE4.out]
            show Except.bind _ _ = _
            rw [hx]; rfl
          obtain ⟨b3, d3, hv, -, -⟩ := Own.at ho
          subst hv
          have KB := Hid.of (K4.out.below hb)
          have K5 : Hid (PJK w (U4.setCell ⟨w.heap.size + 1 + 1, 8, none⟩ (.slice b3 r3.length d3)) #[.slice a0 p0.length c0, .slice a1 p1.length c1, .slice a2 p2.length c2, .slice a3 p3.length c3, .slice a4 p4.length c4, .slice a5 p5.length c5, .slice a6 p6.length c6, .slice a7 p7.length c7, .slice a8 ts.length c8] #[.slice sa S.length sc, .slice ea E.length ec, .int .i64 0, .int .i64 0, .slice none 0 0, .slice none 0 0, .slice none 0 0, .slice b2 r2.length d2, .slice b3 r3.length d3, .slice none 0 0, .slice none 0 0] [⟨9, 1, .slice sa S.length sc, S.length, S.map strV⟩, ⟨9, 1, .slice ea E.length ec, E.length, E.map strV⟩, ⟨3, 1, .slice b2 r2.length d2, r2.length, r2.map (Value.int .i64)⟩, ⟨3, 1, .slice b3 r3.length d3, r3.length, r3.map (Value.int .i64)⟩]) := PJK.step K4.out hb (⟨3, 1, .slice b3 r3.length d3, r3.length, r3.map (Value.int .i64)⟩) ho (by show (_ : TypeId) ≠ _; dsimp only; decide) 8
          have GB2 : Hid (Blk (U4.setCell ⟨w.heap.size + 1 + 1, 8, none⟩ (.slice b3 r3.length d3)) fp 22 #[.slice sa S.length sc]) := (FB2.out.below hb FB2.out.lt).other FN2.out _
          have GB5 : Hid (Blk (U4.setCell ⟨w.heap.size + 1 + 1, 8, none⟩ (.slice b3 r3.length d3)) ep 22 #[.slice ea E.length ec]) := (FB5.out.below hb FB5.out.lt).other FN5.out _
          obtain ⟨y0, y1, y2, y3, y4, y5, y6, y7, y8, y9, y10⟩ := pj11 KB.out.k3
          have yf := KB.out.k3.frozen
          obtain ⟨x0, x1, x2, x3, x4, x5, x6, x7, x8⟩ := blk9 K5.out.k1
          clear hx hb ho HE4 K4 KB FB2 FB5
          go_wp2_with fail
          clear x0 x1 x2 x3 x4 x5 x6 x7 x8
          clear y0 y1 y2 y3 y4 y5 y6 y7 y8 y9 y10 yf
          revert K5 GB2 GB5
          generalize U4.setCell ⟨w.heap.size + 1 + 1, 8, none⟩ (.slice b3 r3.length d3) = V5
          intro K5 FB2 FB5
          refine (rowOf_any (.slice a4 p4.length c4) p4 ep E l4 V5 (Hid.of (fd_of FB5.out (K5.out.o _ (List.mem_of_getElem? (i := 1) rfl)).1 hE8)) (Hid.of (tk_below h4.out K5.out.bel))).mono ?_
          intro e U5 hq
          obtain ⟨hb, hq⟩ := hq
          cases hx : rowL E [] p4 with
          | error er =>
            rw [hx] at hq
            dsimp only at hq
            subst hq
            have HX : Hid (prjL [p0, p1, p2, p3, p4, p5, p6, p7] ts = .error er) := by
              show _ = _
              rw [HE5.out]
              show Except.bind _ _ = _
              rw [hx]; rfl
            have HBX := Hid.of (K5.out.bel.trans (hb.mono K5.out.bel.size))
            clear hx hb
            go_wp2_with fail
            refine ⟨rfl, HBX.out, ?_⟩
            rw [HX.out]
          | ok r4 =>
            rw [hx] at hq
            dsimp only at hq
            obtain ⟨v, rfl, ho⟩ := hq
            have HE6 : Hid (prjL [p0, p1, p2, p3, p4, p5, p6, p7] ts = prj5 S E r2 r3 r4 p5 p6 p7 ts) := by
              show _ = _
              rw [HE5.out]
              show Except.bind _ _ = _
              rw [hx]; rfl
            obtain ⟨b4, d4, hv, -, -⟩ := Own.at ho
            subst hv
            have KB := Hid.of (K5.out.below hb)
            have K6 : Hid (PJK w (U5.setCell ⟨w.heap.size + 1 + 1, 9, none⟩ (.slice b4 r4.length d4)) #[.slice a0 p0.length c0, .slice a1 p1.length c1, .slice a2 p2.length c2, .slice a3 p3.length c3, .slice a4 p4.length c4, .slice a5 p5.length c5, .slice a6 p6.length c6, .slice a7 p7.length c7, .slice a8 ts.length c8] #[.slice sa S.length sc, .slice ea E.length ec, .int .i64 0, .int .i64 0, .slice none 0 0, .slice none 0 0, .slice none 0 0, .slice b2 r2.length d2, .slice b3 r3.length d3, .slice b4 r4.length d4, .slice none 0 0] [⟨9, 1, .slice sa S.length sc, S.length, S.map strV⟩, ⟨9, 1, .slice ea E.length ec, E.length, E.map strV⟩, ⟨3, 1, .slice b2 r2.length d2, r2.length, r2.map (Value.int .i64)⟩, ⟨3, 1, .slice b3 r3.length d3, r3.length, r3.map (Value.int .i64)⟩, ⟨3, 1, .slice b4 r4.length d4, r4.length, r4.map (Value.int .i64)⟩]) := PJK.step K5.out hb (⟨3, 1, .slice b4 r4.length d4, r4.length, r4.map (Value.int .i64)⟩) ho (by show (_ : TypeId) ≠ _; dsimp only; decide) 9
            have GB2 : Hid (Blk (U5.setCell ⟨w.heap.size + 1 + 1, 9, none⟩ (.slice b4 r4.length d4)) fp 22 #[.slice sa S.length sc]) := (FB2.out.below hb FB2.out.lt).other FN2.out _
            have GB5 : Hid (Blk (U5.setCell ⟨w.heap.size + 1 + 1, 9, none⟩ (.slice b4 r4.length d4)) ep 22 #[.slice ea E.length ec]) := (FB5.out.below hb FB5.out.lt).other FN5.out _
            obtain ⟨y0, y1, y2, y3, y4, y5, y6, y7, y8, y9, y10⟩ := pj11 KB.out.k3
            have yf := KB.out.k3.frozen
            obtain ⟨x0, x1, x2, x3, x4, x5, x6, x7, x8⟩ := blk9 K6.out.k1
            clear hx hb ho HE5 K5 KB FB2 FB5
            go_wp2_with fail
            clear x0 x1 x2 x3 x4 x5 x6 x7 x8
            clear y0 y1 y2 y3 y4 y5 y6 y7 y8 y9 y10 yf
            revert K6 GB2 GB5
            generalize U5.setCell ⟨w.heap.size + 1 + 1, 9, none⟩ (.slice b4 r4.length d4) = V6
            intro K6 FB2 FB5
            refine (rowOf_any (.slice a5 p5.length c5) p5 fp S l5 V6 (Hid.of (fd_of FB2.out (K6.out.o _ (List.mem_of_getElem? (i := 0) rfl)).1 hS8)) (Hid.of (tk_below h5.out K6.out.bel))).mono ?_
            intro e U6 hq
            obtain ⟨hb, hq⟩ := hq
            cases hx : rowL S [] p5 with
            | error er =>
              rw [hx] at hq
              dsimp only at hq
              subst hq
              have HX : Hid (prjL [p0, p1, p2, p3, p4, p5, p6, p7] ts = .error er) := by
                show _ = _
                rw [HE6.out]
                show Except.bind _ _ = _
                rw [hx]; rfl
              have HBX := Hid.of (K6.out.bel.trans (hb.mono K6.out.bel.size))
              clear hx hb
              go_wp2_with fail
              refine ⟨rfl, HBX.out, ?_⟩
              rw [HX.out]
            | ok r5 =>
              rw [hx] at hq
              dsimp only at hq
              obtain ⟨v, rfl, ho⟩ := hq
              have HE7 : Hid (prjL [p0, p1, p2, p3, p4, p5, p6, p7] ts = prj6 S E r2 r3 r4 r5 p6 p7 ts) := by
                show _ = _
                rw [HE6.out]
                show Except.bind _ _ = _
                rw [hx]; rfl
              obtain ⟨b5, d5, hv, -, -⟩ := Own.at ho
              subst hv
              have KB := Hid.of (K6.out.below hb)
              have K7 : Hid (PJK w (U6.setCell ⟨w.heap.size + 1 + 1, 10, none⟩ (.slice b5 r5.length d5)) #[.slice a0 p0.length c0, .slice a1 p1.length c1, .slice a2 p2.length c2, .slice a3 p3.length c3, .slice a4 p4.length c4, .slice a5 p5.length c5, .slice a6 p6.length c6, .slice a7 p7.length c7, .slice a8 ts.length c8] #[.slice sa S.length sc, .slice ea E.length ec, .int .i64 0, .int .i64 0, .slice none 0 0, .slice none 0 0, .slice none 0 0, .slice b2 r2.length d2, .slice b3 r3.length d3, .slice b4 r4.length d4, .slice b5 r5.length d5] [⟨9, 1, .slice sa S.length sc, S.length, S.map strV⟩, ⟨9, 1, .slice ea E.length ec, E.length, E.map strV⟩, ⟨3, 1, .slice b2 r2.length d2, r2.length, r2.map (Value.int .i64)⟩, ⟨3, 1, .slice b3 r3.length d3, r3.length, r3.map (Value.int .i64)⟩, ⟨3, 1, .slice b4 r4.length d4, r4.length, r4.map (Value.int .i64)⟩, ⟨3, 1, .slice b5 r5.length d5, r5.length, r5.map (Value.int .i64)⟩]) := PJK.step K6.out hb (⟨3, 1, .slice b5 r5.length d5, r5.length, r5.map (Value.int .i64)⟩) ho (by show (_ : TypeId) ≠ _; dsimp only; decide) 10
              have GB2 : Hid (Blk (U6.setCell ⟨w.heap.size + 1 + 1, 10, none⟩ (.slice b5 r5.length d5)) fp 22 #[.slice sa S.length sc]) := (FB2.out.below hb FB2.out.lt).other FN2.out _
              have GB5 : Hid (Blk (U6.setCell ⟨w.heap.size + 1 + 1, 10, none⟩ (.slice b5 r5.length d5)) ep 22 #[.slice ea E.length ec]) := (FB5.out.below hb FB5.out.lt).other FN5.out _
              obtain ⟨y0, y1, y2, y3, y4, y5, y6, y7, y8, y9, y10⟩ := pj11 KB.out.k3
              have yf := KB.out.k3.frozen
              obtain ⟨w0, w1, w2, w3, w4, w5, w6, w7, w8, w9, w10⟩ := pj11 K7.out.k3
              have wf := K7.out.k3.frozen
              have K8 : Hid (PJK w (((U6.setCell ⟨w.heap.size + 1 + 1, 10, none⟩ (.slice b5 r5.length d5)).setCell ⟨w.heap.size + 1 + 1, 2, none⟩ (.int .i64 (S.length : Int))).setCell ⟨w.heap.size + 1 + 1, 3, none⟩ (.int .i64 (E.length : Int))) #[.slice a0 p0.length c0, .slice a1 p1.length c1, .slice a2 p2.length c2, .slice a3 p3.length c3, .slice a4 p4.length c4, .slice a5 p5.length c5, .slice a6 p6.length c6, .slice a7 p7.length c7, .slice a8 ts.length c8] #[.slice sa S.length sc, .slice ea E.length ec, .int .i64 (S.length : Int), .int .i64 (E.length : Int), .slice none 0 0, .slice none 0 0, .slice none 0 0, .slice b2 r2.length d2, .slice b3 r3.length d3, .slice b4 r4.length d4, .slice b5 r5.length d5] [⟨9, 1, .slice sa S.length sc, S.length, S.map strV⟩, ⟨9, 1, .slice ea E.length ec, E.length, E.map strV⟩, ⟨3, 1, .slice b2 r2.length d2, r2.length, r2.map (Value.int .i64)⟩, ⟨3, 1, .slice b3 r3.length d3, r3.length, r3.map (Value.int .i64)⟩, ⟨3, 1, .slice b4 r4.length d4, r4.length, r4.map (Value.int .i64)⟩, ⟨3, 1, .slice b5 r5.length d5, r5.length, r5.map (Value.int .i64)⟩]) := (K7.out.put 2 _).put 3 _
              have GC2 : Hid (Blk (((U6.setCell ⟨w.heap.size + 1 + 1, 10, none⟩ (.slice b5 r5.length d5)).setCell ⟨w.heap.size + 1 + 1, 2, none⟩ (.int .i64 (S.length : Int))).setCell ⟨w.heap.size + 1 + 1, 3, none⟩ (.int .i64 (E.length : Int))) fp 22 #[.slice sa S.length sc]) := (GB2.out.other FN2.out _).other FN2.out _
              have GC5 : Hid (Blk (((U6.setCell ⟨w.heap.size + 1 + 1, 10, none⟩ (.slice b5 r5.length d5)).setCell ⟨w.heap.size + 1 + 1, 2, none⟩ (.int .i64 (S.length : Int))).setCell ⟨w.heap.size + 1 + 1, 3, none⟩ (.int .i64 (E.length : Int))) ep 22 #[.slice ea E.length ec]) := (GB5.out.other FN5.out _).other FN5.out _
              obtain ⟨x0, x1, x2, x3, x4, x5, x6, x7, x8⟩ := blk9 K8.out.k1
              have HE8 := HE7
              clear hx hb ho HE6 HE7 K6 K7 KB FB2 FB5 GB2 GB5
              go_wp2_with fail
              clear x0 x1 x2 x3 x4 x5 x6 x7 x8
              clear y0 y1 y2 y3 y4 y5 y6 y7 y8 y9 y10 yf
              clear w0 w1 w2 w3 w4 w5 w6 w7 w8 w9 w10 wf
              revert K8 GC2 GC5
              generalize (((U6.setCell ⟨w.heap.size + 1 + 1, 10, none⟩ (.slice b5 r5.length d5)).setCell ⟨w.heap.size + 1 + 1, 2, none⟩ (.int .i64 (S.length : Int))).setCell ⟨w.heap.size + 1 + 1, 3, none⟩ (.int .i64 (E.length : Int))) = V8
              intro K8 FB2 FB5
              refine (rowOf_any (.slice a6 p6.length c6) p6 fp S l6 V8 (Hid.of (fd_of FB2.out (K8.out.o _ (List.mem_of_getElem? (i := 0) rfl)).1 hS8)) (Hid.of (tk_below h6.out K8.out.bel))).mono ?_
              intro e U8 hq
              obtain ⟨hb, hq⟩ := hq
              cases hx : rowL S [] p6 with
              | error er =>
                rw [hx] at hq
                dsimp only at hq
                subst hq
                have HX : Hid (prjL [p0, p1, p2, p3, p4, p5, p6, p7] ts = .error er) := by
                  show _ = _
                  rw [HE8.out]
                  show Except.bind _ _ = _
                  rw [hx]; rfl
                have HBX := Hid.of (K8.out.bel.trans (hb.mono K8.out.bel.size))
                clear hx hb
                go_wp2_with fail
                refine ⟨rfl, HBX.out, ?_⟩
                rw [HX.out]
              | ok r6 =>
                rw [hx] at hq
                dsimp only at hq
                obtain ⟨v, rfl, ho⟩ := hq
                have HE9 : Hid (prjL [p0, p1, p2, p3, p4, p5, p6, p7] ts = prj7 S E r2 r3 r4 r5 r6 p7 ts) := by
                  show _ = _
                  rw [HE8.out]
                  show Except.bind _ _ = _
                  rw [hx]; rfl
                obtain ⟨b6, d6, hv, -, -⟩ := Own.at ho
                subst hv
                have KB := Hid.of (K8.out.below hb)
                have K9 : Hid (PJK w (U8.setCell ⟨w.heap.size + 1 + 1, 4, none⟩ (.slice b6 r6.length d6)) #[.slice a0 p0.length c0, .slice a1 p1.length c1, .slice a2 p2.length c2, .slice a3 p3.length c3, .slice a4 p4.length c4, .slice a5 p5.length c5, .slice a6 p6.length c6, .slice a7 p7.length c7, .slice a8 ts.length c8] #[.slice sa S.length sc, .slice ea E.length ec, .int .i64 (S.length : Int), .int .i64 (E.length : Int), .slice b6 r6.length d6, .slice none 0 0, .slice none 0 0, .slice b2 r2.length d2, .slice b3 r3.length d3, .slice b4 r4.length d4, .slice b5 r5.length d5] [⟨9, 1, .slice sa S.length sc, S.length, S.map strV⟩, ⟨9, 1, .slice ea E.length ec, E.length, E.map strV⟩, ⟨3, 1, .slice b2 r2.length d2, r2.length, r2.map (Value.int .i64)⟩, ⟨3, 1, .slice b3 r3.length d3, r3.length, r3.map (Value.int .i64)⟩, ⟨3, 1, .slice b4 r4.length d4, r4.length, r4.map (Value.int .i64)⟩, ⟨3, 1, .slice b5 r5.length d5, r5.length, r5.map (Value.int .i64)⟩, ⟨3, 1, .slice b6 r6.length d6, r6.length, r6.map (Value.int .i64)⟩]) := PJK.step K8.out hb (⟨3, 1, .slice b6 r6.length d6, r6.length, r6.map (Value.int .i64)⟩) ho (by show (_ : TypeId) ≠ _; dsimp only; decide) 4
                have GB2 : Hid (Blk (U8.setCell ⟨w.heap.size + 1 + 1, 4, none⟩ (.slice b6 r6.length d6)) fp 22 #[.slice sa S.length sc]) := (FB2.out.below hb FB2.out.lt).other FN2.out _
                have GB5 : Hid (Blk (U8.setCell ⟨w.heap.size + 1 + 1, 4, none⟩ (.slice b6 r6.length d6)) ep 22 #[.slice ea E.length ec]) := (FB5.out.below hb FB5.out.lt).other FN5.out _
                obtain ⟨y0, y1, y2, y3, y4, y5, y6, y7, y8, y9, y10⟩ := pj11 KB.out.k3
                have yf := KB.out.k3.frozen
                obtain ⟨x0, x1, x2, x3, x4, x5, x6, x7, x8⟩ := blk9 K9.out.k1
                clear hx hb ho HE8 K8 KB FB2 FB5
                go_wp2_with fail
                clear x0 x1 x2 x3 x4 x5 x6 x7 x8
                clear y0 y1 y2 y3 y4 y5 y6 y7 y8 y9 y10 yf
                revert K9 GB2 GB5
                generalize U8.setCell ⟨w.heap.size + 1 + 1, 4, none⟩ (.slice b6 r6.length d6) = V9
                intro K9 FB2 FB5
                refine (rowOf_any (.slice a7 p7.length c7) p7 fp S l7 V9 (Hid.of (fd_of FB2.out (K9.out.o _ (List.mem_of_getElem? (i := 0) rfl)).1 hS8)) (Hid.of (tk_below h7.out K9.out.bel))).mono ?_
                intro e U9 hq
                obtain ⟨hb, hq⟩ := hq
                cases hx : rowL S [] p7 with
                | error er =>
                  rw [hx] at hq
                  dsimp only at hq
                  subst hq
                  have HX : Hid (prjL [p0, p1, p2, p3, p4, p5, p6, p7] ts = .error er) := by
                    show _ = _
                    rw [HE9.out]
                    show Except.bind _ _ = _
                    rw [hx]; rfl
                  have HBX := Hid.of (K9.out.bel.trans (hb.mono K9.out.bel.size))
                  clear hx hb
                  go_wp2_with fail
                  refine ⟨rfl, HBX.out, ?_⟩
                  rw [HX.out]
                | ok r7 =>
                  rw [hx] at hq
                  dsimp only at hq
                  obtain ⟨v, rfl, ho⟩ := hq
                  have HE10 : Hid (prjL [p0, p1, p2, p3, p4, p5, p6, p7] ts = prj9 S E r2 r3 r4 r5 r6 r7 ts) := by
                    show _ = _
                    rw [HE9.out]
                    show Except.bind _ _ = _
                    rw [hx]; rfl
                  obtain ⟨b7, d7, hv, -, -⟩ := Own.at ho
                  subst hv
                  have KB := Hid.of (K9.out.below hb)
                  have K10 : Hid (PJK w (U9.setCell ⟨w.heap.size + 1 + 1, 6, none⟩ (.slice b7 r7.length d7)) #[.slice a0 p0.length c0, .slice a1 p1.length c1, .slice a2 p2.length c2, .slice a3 p3.length c3, .slice a4 p4.length c4, .slice a5 p5.length c5, .slice a6 p6.length c6, .slice a7 p7.length c7, .slice a8 ts.length c8] #[.slice sa S.length sc, .slice ea E.length ec, .int .i64 (S.length : Int), .int .i64 (E.length : Int), .slice b6 r6.length d6, .slice none 0 0, .slice b7 r7.length d7, .slice b2 r2.length d2, .slice b3 r3.length d3, .slice b4 r4.length d4, .slice b5 r5.length d5] [⟨9, 1, .slice sa S.length sc, S.length, S.map strV⟩, ⟨9, 1, .slice ea E.length ec, E.length, E.map strV⟩, ⟨3, 1, .slice b2 r2.length d2, r2.length, r2.map (Value.int .i64)⟩, ⟨3, 1, .slice b3 r3.length d3, r3.length, r3.map (Value.int .i64)⟩, ⟨3, 1, .slice b4 r4.length d4, r4.length, r4.map (Value.int .i64)⟩, ⟨3, 1, .slice b5 r5.length d5, r5.length, r5.map (Value.int .i64)⟩, ⟨3, 1, .slice b6 r6.length d6, r6.length, r6.map (Value.int .i64)⟩, ⟨3, 1, .slice b7 r7.length d7, r7.length, r7.map (Value.int .i64)⟩]) := PJK.step K9.out hb (⟨3, 1, .slice b7 r7.length d7, r7.length, r7.map (Value.int .i64)⟩) ho (by show (_ : TypeId) ≠ _; dsimp only; decide) 6
                  have GB2 : Hid (Blk (U9.setCell ⟨w.heap.size + 1 + 1, 6, none⟩ (.slice b7 r7.length d7)) fp 22 #[.slice sa S.length sc]) := (FB2.out.below hb FB2.out.lt).other FN2.out _
                  have GB5 : Hid (Blk (U9.setCell ⟨w.heap.size + 1 + 1, 6, none⟩ (.slice b7 r7.length d7)) ep 22 #[.slice ea E.length ec]) := (FB5.out.below hb FB5.out.lt).other FN5.out _
                  obtain ⟨y0, y1, y2, y3, y4, y5, y6, y7, y8, y9, y10⟩ := pj11 KB.out.k3
                  have yf := KB.out.k3.frozen
                  obtain ⟨x0, x1, x2, x3, x4, x5, x6, x7, x8⟩ := blk9 K10.out.k1
                  clear hx hb ho HE9 K9 KB FB2 FB5
                  go_wp2_with fail
                  clear x0 x1 x2 x3 x4 x5 x6 x7 x8
                  clear y0 y1 y2 y3 y4 y5 y6 y7 y8 y9 y10 yf
                  revert K10 GB2 GB5
                  generalize U9.setCell ⟨w.heap.size + 1 + 1, 6, none⟩ (.slice b7 r7.length d7) = V10
                  intro K10 FB2 FB5
                  refine (arrowsOf_any (.slice a8 ts.length c8) ts fp ep S E l8 V10 (Hid.of (fd_of FB2.out (K10.out.o _ (List.mem_of_getElem? (i := 0) rfl)).1 hS8)) (Hid.of (fd_of FB5.out (K10.out.o _ (List.mem_of_getElem? (i := 1) rfl)).1 hE8)) (Hid.of (th_below h8.out K10.out.bel))).mono ?_
                  intro e U10 hq
                  obtain ⟨hb, hq⟩ := hq
                  cases hx : arrL S E [] ts with
                  | error er =>
                    rw [hx] at hq
                    dsimp only at hq
                    subst hq
                    have HX : Hid (prjL [p0, p1, p2, p3, p4, p5, p6, p7] ts = .error er) := by
                      show _ = _
                      rw [HE10.out]
                      show Except.bind _ _ = _
                      rw [hx]; rfl
                    have HBX := Hid.of (K10.out.bel.trans (hb.mono K10.out.bel.size))
                    clear hx hb
                    go_wp2_with fail
                    refine ⟨rfl, HBX.out, ?_⟩
                    rw [HX.out]
                  | ok A =>
                    rw [hx] at hq
                    dsimp only at hq
                    obtain ⟨v, rfl, ho⟩ := hq
                    have HX : Hid (prjL [p0, p1, p2, p3, p4, p5, p6, p7] ts = .ok ⟨S, E, ⟨S.length, E.length, r6, A, r7⟩, r2, r3, r4, r5⟩) := by
                      show _ = _
                      rw [HE10.out]
                      show Except.bind _ _ = _
                      rw [hx]; rfl
                    obtain ⟨aa, ac, hv, -, -, -, -⟩ := OwnA.at ho
                    subst hv
                    have KB := Hid.of (K10.out.below hb)
                    have K11 : Hid (PJK w (U10.setCell ⟨w.heap.size + 1 + 1, 5, none⟩ (.slice aa A.length ac)) #[.slice a0 p0.length c0, .slice a1 p1.length c1, .slice a2 p2.length c2, .slice a3 p3.length c3, .slice a4 p4.length c4, .slice a5 p5.length c5, .slice a6 p6.length c6, .slice a7 p7.length c7, .slice a8 ts.length c8] #[.slice sa S.length sc, .slice ea E.length ec, .int .i64 (S.length : Int), .int .i64 (E.length : Int), .slice b6 r6.length d6, .slice aa A.length ac, .slice b7 r7.length d7, .slice b2 r2.length d2, .slice b3 r3.length d3, .slice b4 r4.length d4, .slice b5 r5.length d5] [⟨9, 1, .slice sa S.length sc, S.length, S.map strV⟩, ⟨9, 1, .slice ea E.length ec, E.length, E.map strV⟩, ⟨3, 1, .slice b2 r2.length d2, r2.length, r2.map (Value.int .i64)⟩, ⟨3, 1, .slice b3 r3.length d3, r3.length, r3.map (Value.int .i64)⟩, ⟨3, 1, .slice b4 r4.length d4, r4.length, r4.map (Value.int .i64)⟩, ⟨3, 1, .slice b5 r5.length d5, r5.length, r5.map (Value.int .i64)⟩, ⟨3, 1, .slice b6 r6.length d6, r6.length, r6.map (Value.int .i64)⟩, ⟨3, 1, .slice b7 r7.length d7, r7.length, r7.map (Value.int .i64)⟩, ⟨60, 3, .slice aa A.length ac, A.length, aflat A⟩]) := PJK.step K10.out hb (⟨60, 3, .slice aa A.length ac, A.length, aflat A⟩) ho (by show (_ : TypeId) ≠ _; dsimp only; decide) 5
                    obtain ⟨y0, y1, y2, y3, y4, y5, y6, y7, y8, y9, y10⟩ := pj11 KB.out.k3
                    have yf := KB.out.k3.frozen
                    obtain ⟨z0, z1, z2, z3, z4, z5, z6, z7, z8, z9, z10⟩ := pj11 K11.out.k3
                    obtain ⟨e0, e1, e2, e3, e4, e5, e6, e7, e8, e9, e10⟩ := pj11 K11.out.k2
                    have ef := K11.out.k2.frozen
                    have GB := Hid.of (setP_below (r2 := w.heap.size + 1) (.slice sa S.length sc) (.slice ea E.length ec) (.int .i64 (S.length : Int)) (.int .i64 (E.length : Int)) (.slice b6 r6.length d6) (.slice aa A.length ac) (.slice b7 r7.length d7) (.slice b2 r2.length d2) (.slice b3 r3.length d3) (.slice b4 r4.length d4) (.slice b5 r5.length d5) K11.out.bel (by omega))
                    have GK : Hid (Blk (setPq (U10.setCell ⟨w.heap.size + 1 + 1, 5, none⟩ (.slice aa A.length ac)) (w.heap.size + 1) (.slice sa S.length sc) (.slice ea E.length ec) (.int .i64 (S.length : Int)) (.int .i64 (E.length : Int)) (.slice b6 r6.length d6) (.slice aa A.length ac) (.slice b7 r7.length d7) (.slice b2 r2.length d2) (.slice b3 r3.length d3) (.slice b4 r4.length d4) (.slice b5 r5.length d5)) (w.heap.size + 1) 28 #[.slice sa S.length sc, .slice ea E.length ec, .int .i64 (S.length : Int), .int .i64 (E.length : Int), .slice b6 r6.length d6, .slice aa A.length ac, .slice b7 r7.length d7, .slice b2 r2.length d2, .slice b3 r3.length d3, .slice b4 r4.length d4, .slice b5 r5.length d5]) := setP_blk _ _ _ _ _ _ _ _ _ _ _ K11.out.k2
                    have own : ∀ f ∈ [⟨9, 1, .slice sa S.length sc, S.length, S.map strV⟩, ⟨9, 1, .slice ea E.length ec, E.length, E.map strV⟩, ⟨3, 1, .slice b2 r2.length d2, r2.length, r2.map (Value.int .i64)⟩, ⟨3, 1, .slice b3 r3.length d3, r3.length, r3.map (Value.int .i64)⟩, ⟨3, 1, .slice b4 r4.length d4, r4.length, r4.map (Value.int .i64)⟩, ⟨3, 1, .slice b5 r5.length d5, r5.length, r5.map (Value.int .i64)⟩, ⟨3, 1, .slice b6 r6.length d6, r6.length, r6.map (Value.int .i64)⟩, ⟨3, 1, .slice b7 r7.length d7, r7.length, r7.map (Value.int .i64)⟩, ⟨60, 3, .slice aa A.length ac, A.length, aflat A⟩], ORow.owns (setPq (U10.setCell ⟨w.heap.size + 1 + 1, 5, none⟩ (.slice aa A.length ac)) (w.heap.size + 1) (.slice sa S.length sc) (.slice ea E.length ec) (.int .i64 (S.length : Int)) (.int .i64 (E.length : Int)) (.slice b6 r6.length d6) (.slice aa A.length ac) (.slice b7 r7.length d7) (.slice b2 r2.length d2) (.slice b3 r3.length d3) (.slice b4 r4.length d4) (.slice b5 r5.length d5)) w.heap.size f := fun f hf => own_same (K11.out.o f hf).1 (fun k hk => setP_heap _ _ _ _ _ _ _ _ _ _ _ (show k ≠ w.heap.size + 1 from fun e => own_blk (K11.out.o f hf).1 (show (U10.setCell ⟨w.heap.size + 1 + 1, 5, none⟩ (.slice aa A.length ac)).heap[w.heap.size + 1]? = _ from K11.out.k2) (Ne.symm (K11.out.o f hf).2) (by rw [hk, e])))
                    have GP : Hid (∀ W : World, (∀ k, w.heap.size ≤ k → k < ((setPq (U10.setCell ⟨w.heap.size + 1 + 1, 5, none⟩ (.slice aa A.length ac)) (w.heap.size + 1) (.slice sa S.length sc) (.slice ea E.length ec) (.int .i64 (S.length : Int)) (.int .i64 (E.length : Int)) (.slice b6 r6.length d6) (.slice aa A.length ac) (.slice b7 r7.length d7) (.slice b2 r2.length d2) (.slice b3 r3.length d3) (.slice b4 r4.length d4) (.slice b5 r5.length d5))).heap.size → W.heap[k]? = ((setPq (U10.setCell ⟨w.heap.size + 1 + 1, 5, none⟩ (.slice aa A.length ac)) (w.heap.size + 1) (.slice sa S.length sc) (.slice ea E.length ec) (.int .i64 (S.length : Int)) (.int .i64 (E.length : Int)) (.slice b6 r6.length d6) (.slice aa A.length ac) (.slice b7 r7.length d7) (.slice b2 r2.length d2) (.slice b3 r3.length d3) (.slice b4 r4.length d4) (.slice b5 r5.length d5))).heap[k]?) → PjAt W ⟨S, E, ⟨S.length, E.length, r6, A, r7⟩, r2, r3, r4, r5⟩ ⟨sa, sc, ea, ec, ⟨b6, d6, aa, ac, b7, d7⟩, b2, d2, b3, d3, b4, d4, b5, d5⟩) := fun W hW => by
                      have own : ∀ f ∈ [⟨9, 1, .slice sa S.length sc, S.length, S.map strV⟩, ⟨9, 1, .slice ea E.length ec, E.length, E.map strV⟩, ⟨3, 1, .slice b2 r2.length d2, r2.length, r2.map (Value.int .i64)⟩, ⟨3, 1, .slice b3 r3.length d3, r3.length, r3.map (Value.int .i64)⟩, ⟨3, 1, .slice b4 r4.length d4, r4.length, r4.map (Value.int .i64)⟩, ⟨3, 1, .slice b5 r5.length d5, r5.length, r5.map (Value.int .i64)⟩, ⟨3, 1, .slice b6 r6.length d6, r6.length, r6.map (Value.int .i64)⟩, ⟨3, 1, .slice b7 r7.length d7, r7.length, r7.map (Value.int .i64)⟩, ⟨60, 3, .slice aa A.length ac, A.length, aflat A⟩], ORow.owns W w.heap.size f := fun f hf => own_same (own f hf) (fun k hk => hW k (World.ownsRow.lt (own f hf) k hk).1 (World.ownsRow.lt (own f hf) k hk).2)
                      exact ⟨sls_of (own _ (List.mem_of_getElem? (i := 0) rfl)), sls_of (own _ (List.mem_of_getElem? (i := 1) rfl)), mat_of (own _ (List.mem_of_getElem? (i := 6) rfl)) (own _ (List.mem_of_getElem? (i := 8) rfl)) (own _ (List.mem_of_getElem? (i := 7) rfl)), sl_of (own _ (List.mem_of_getElem? (i := 2) rfl)), sl_of (own _ (List.mem_of_getElem? (i := 3) rfl)), sl_of (own _ (List.mem_of_getElem? (i := 4) rfl)), sl_of (own _ (List.mem_of_getElem? (i := 5) rfl))⟩
                    clear hx hb ho HE10 K10 KB FB2 FB5 K11 own
                    go_wp2_with fail
                    refine bodyPost_ret (v := pjval ⟨S, E, ⟨S.length, E.length, r6, A, r7⟩, r2, r3, r4, r5⟩ ⟨sa, sc, ea, ec, ⟨b6, d6, aa, ac, b7, d7⟩, b2, d2, b3, d3, b4, d4, b5, d5⟩) (results_proj (p := 2) rfl _ _ (w.heap.size + 1) ⟨S, E, ⟨S.length, E.length, r6, A, r7⟩, r2, r3, r4, r5⟩ ⟨sa, sc, ea, ec, ⟨b6, d6, aa, ac, b7, d7⟩, b2, d2, b3, d3, b4, d4, b5, d5⟩ rfl GK.out) rfl ⟨GB.out, ?_⟩
                    rw [HX.out]
                    exact ⟨_, rfl, GP.out⟩

end Go.Proofs.Ytbgiliophmofgaa
