/-
  What is said on the way through jalousieref4.Beside, where pairs are gone through.
  The walk of jalousieref4.leads: where a pair leads to, at an event.
  jalousieref4.leads, at whatever event.
  The walks of the three closures of row.Join, row.Meet and row.Less.
  The walk of row.Join.
  Plain mathematics of a machine trimmed: the states that are in both, numbered anew; it accepts the same words. No program, no model.
  Plain: the machine of two beside one another accepts a word just when each accepts what of it is its own. No program, no model.
-/
import Derived.Test.YtdnglodemkeooaaG09
import Derived.Deep.RegionHeld3
import Derived.Deep.RegionLaw
import Derived.Test.YtdnglodemkeooaaG02
import Derived.Test.YtdnglodemkeooaaG08
import Derived.Test.YtdnglodemkeooaaG03
import Derived.Test.YtdnglodemkeooaaG06
import Derived.Test.YtdnglodemkeooaaG01
namespace Go.Proofs.Ytdnglodemkeooaa
open Go.RowKit
set_option linter.unusedVariables false

theorem prs_get {L : List (Int × Int)} {j : Nat} {xs : List Int} (h : (prs L)[j]? = some xs) : ∃ p, L[j]? = some p ∧ xs = [p.1, p.2] := by
  unfold prs at h
  rw [List.getElem?_map] at h
  cases hp : L[j]? with
  | none => rw [hp] at h; cases h
  | some p => rw [hp] at h; exact ⟨p, rfl, (Option.some.inj h).symm⟩
theorem Own2.get {W : World} {B : Nat} {v : Value} {L : List (Int × Int)} (h : Own2 W B v (prs L)) {k : Nat} (hk : k < L.length) :
    ∃ (b cap : Nat), v = .slice (some ⟨b, 0, none⟩) L.length cap ∧ b < W.heap.size ∧ ∃ (p : Int × Int) (g o c : Nat), Hid (L[k]? = some p) ∧ g < W.heap.size ∧ W.cell? ⟨b, k, none⟩ = some (.slice (some ⟨g, o, none⟩) 2 c) ∧ InnB W (.slice (some ⟨g, o, none⟩) 2 c) [p.1, p.2] ∧ W.cell? ⟨g, o, none⟩ = some (.int .i64 p.1) ∧ W.cell? ⟨g, o + 1, none⟩ = some (.int .i64 p.2) := by
  obtain ⟨vs, ho, hi⟩ := h
  have hl : vs.length = L.length := by have := ho.1; rw [prs_len] at this; omega
  rcases ho.2 with ⟨rfl, hn⟩ | ⟨b, cap, cur, rfl, hg, hh, hnc, hcm, hcs, ht⟩
  · rw [prs_len] at hn; omega
  · refine ⟨b, cap, by rw [prs_len], (Array.getElem?_eq_some_iff.1 hh).1, ?_⟩
    obtain ⟨p, hp⟩ : ∃ p, L[k]? = some p := ⟨_, List.getElem?_eq_getElem hk⟩
    have hx := List.getElem?_eq_getElem (l := vs) (show k < vs.length by omega)
    have i1 := hi k _ [p.1, p.2] hx (by simp [prs, hp])
    have hc := ho.cells (g := b) rfl k _ hx
    rw [show (⟨b, 0, none⟩ : Addr).add k = ⟨b, k, none⟩ from by unfold Addr.add; split <;> simp_all] at hc
    obtain ⟨a, c, e1, e2, e3, e4⟩ := i1
    rcases e4 with e4 | ⟨g, o, cs, rfl, hh', hcc⟩
    · cases e4
    · rw [e1] at hc
      refine ⟨p, g, o, c, hp, (Array.getElem?_eq_some_iff.1 hh').1, hc, ⟨_, c, rfl, e2, e3, .inr ⟨g, o, cs, rfl, hh', hcc⟩⟩, ?_, ?_⟩
      · simp [World.cell?, hh']; have := hcc 0 (by simp); simpa using this
      · simp [World.cell?, hh']; have := hcc 1 (by simp); simpa using this
theorem Own2.keep {W W' : World} {B B' s n : Nat} {e : TypeId} {v v' : Value} {LL : List (List Int)} {xs : List Value} (h : Own2 W B v LL) (hr : W.ownsRow B' e s v' n xs) (he : e ≠ 3) (hne : v.ownBlock = none ∨ v.ownBlock ≠ v'.ownBlock) (g : W.grownBy W' v'.ownBlock) : Own2 W' B v LL := by
  obtain ⟨vs, ho, hi⟩ := h
  exact ⟨vs, ho.kept g hne, fun j x xs h1 h2 => (hi j x xs h1 h2).apart hr he g⟩

/-- Where pairs are gone through: the starts are laid, pairs and arrows come. -/
structure PC (X W : World) (bm : Nat) (ev : Int) (v2 v13 v16 : Value) (n : Nat) (s : BS) : Prop where
  blk : Blk W bm 25 (bcells ev v2)
  kp : Kp bm X W
  st : InnB W v2 (rngI n)
  ps : Own2 W X.heap.size v13 (prs s.ps)
  ar : OwnA W X.heap.size v16 s.ar
theorem PB.pc {X W : World} {bm n : Nat} {ev : Int} {v2 v13 : Value} {P : List (Int × Int)} (h : PB X W bm ev v2 v13 n P) : PC X W bm ev v2 v13 (.slice none 0 0) n ⟨P, []⟩ := by
  refine ⟨h.blk, h.kp, own_innB h.st (rngI_len n), ?_, ownA_nil _ _⟩
  obtain ⟨vs, ho, hi⟩ := h.ps
  refine ⟨vs, by rw [prs_len]; exact ho, fun j x xs h1 h2 => ?_⟩
  obtain ⟨p, hp, rfl⟩ := prs_get h2
  exact (hi j x p h1 hp).1
theorem Kp.below {b : Nat} {X W W' : World} (h : Kp b X W) (hb : Below W.heap.size W W') : Kp b X W' :=
  ⟨Nat.le_trans h.size hb.size, fun k hk hne => (hb.block k (Nat.lt_of_lt_of_le hk h.size)).trans (h.same k hk hne)⟩
theorem PC.below {X W W' : World} {bm n : Nat} {ev : Int} {v2 v13 v16 : Value} {s : BS} (h : PC X W bm ev v2 v13 v16 n s) (hb : Below W.heap.size W W') : PC X W' bm ev v2 v13 v16 n s :=
  ⟨h.blk.below hb h.blk.lt, h.kp.below hb, h.st.below hb, h.ps.below hb, h.ar.kept hb (Nat.le_refl _)⟩
theorem PC.alloc {X W : World} {bm n : Nat} {ev : Int} {v2 v13 v16 : Value} {s : BS} (h : PC X W bm ev v2 v13 v16 n s) (o : Obj) : PC X (W.alloc o) bm ev v2 v13 v16 n s := h.below ((Below.refl _ _).alloc (Nat.le_refl _) o)
theorem PC.ps1 {X W W1 : World} {bm n : Nat} {ev : Int} {v2 v13 v13' v16 x : Value} {s : BS} {p : Int × Int} {vs : List Value} (h : PC X W bm ev v2 v13 v16 n s) (hbm : bm < X.heap.size)
    (ho : W.ownsRow X.heap.size 22 1 v13 (prs s.ps).length vs) (hi : ∀ (j : Nat) (x : Value) (xs : List Int), vs[j]? = some x → (prs s.ps)[j]? = some xs → InnB W x xs) (hx : InnB W x [p.1, p.2])
    (o1 : W1.ownsRow X.heap.size 22 1 v13' ((prs s.ps).length + 1) (vs ++ [x])) (g : W.grownBy W1 v13.ownBlock) : PC X W1 bm ev v2 v13' v16 n ⟨s.ps ++ [p], s.ar⟩ := by
  have hr : ∀ k, v13.ownBlock = some k → X.heap.size ≤ k := fun k hk => (ho.lt k hk).1
  refine ⟨(g.block bm h.blk.lt (fun e => by have := hr bm e.symm; omega)).trans h.blk, h.kp.grown g hr, h.st.apart ho (by decide) g, ?_, World.ownsRow.kept h.ar g (own_apart h.ar ho (by decide))⟩
  show Own2 _ _ _ (prs (s.ps ++ [p]))
  rw [prs_snoc]
  exact Own2.snoc ho hi hx o1 g
theorem PC.ar1 {X W W1 : World} {bm n : Nat} {ev : Int} {v2 v13 v16 v16' : Value} {s : BS} {a : Arr} (h : PC X W bm ev v2 v13 v16 n s) (hbm : bm < X.heap.size)
    (o1 : OwnA W1 X.heap.size v16' (s.ar ++ [a])) (g : W.grownBy W1 v16.ownBlock) : PC X W1 bm ev v2 v13 v16' n ⟨s.ps, s.ar ++ [a]⟩ := by
  have hr : ∀ k, v16.ownBlock = some k → X.heap.size ≤ k := fun k hk => (World.ownsRow.lt h.ar k hk).1
  obtain ⟨vs, ho, hi⟩ := h.ps
  exact ⟨(g.block bm h.blk.lt (fun e => by have := hr bm e.symm; omega)).trans h.blk, h.kp.grown g hr, h.st.apart h.ar (by decide) g, Own2.keep ⟨vs, ho, hi⟩ h.ar (by decide) (own_apart ho h.ar (by decide)) g, o1⟩
/-- The pairs that are led to, apart from the pairs found. -/
structure LQ (W : World) (v13 v21 : Value) (L : List (Int × Int)) : Prop where
  own : Own2 W 0 v21 (prs L)
  ne : v21.ownBlock = none ∨ v21.ownBlock ≠ v13.ownBlock
theorem LQ.below {W W' : World} {v13 v21 : Value} {L : List (Int × Int)} (h : LQ W v13 v21 L) (hb : Below W.heap.size W W') : LQ W' v13 v21 L := ⟨h.own.below hb, h.ne⟩
theorem LQ.ps1 {W W1 : World} {B n : Nat} {v13 v13' v21 : Value} {L : List (Int × Int)} {vs : List Value} (h : LQ W v13 v21 L) (ho : W.ownsRow B 22 1 v13 n vs) (g : W.grownBy W1 v13.ownBlock) (hb : v13'.ownBlock = v13.ownBlock ∨ v13'.ownBlock = some W.heap.size) : LQ W1 v13' v21 L := by
  refine ⟨h.own.keep ho (by decide) h.ne g, ?_⟩
  rcases h.ne with h1 | h1
  · exact .inl h1
  · rcases hb with hb | hb
    · exact .inr (by rw [hb]; exact h1)
    · refine .inr fun e => ?_
      obtain ⟨ws, ho2, -⟩ := h.own
      have := (ho2.lt W.heap.size (e.trans hb)).2
      omega
theorem LQ.ar1 {W W1 : World} {B : Nat} {v13 v16 v21 : Value} {L : List (Int × Int)} {A : List Arr} (h : LQ W v13 v21 L) (ho : OwnA W B v16 A) (g : W.grownBy W1 v16.ownBlock) : LQ W1 v13 v21 L := by
  obtain ⟨ws, ho2, hi2⟩ := h.own
  exact ⟨Own2.keep ⟨ws, ho2, hi2⟩ ho (by decide) (own_apart ho2 ho (by decide)) g, h.ne⟩

end Go.Proofs.Ytdnglodemkeooaa
namespace Go.Proofs.Ytdnglodemkeooaa
open Go.RowKit
set_option linter.unusedVariables false

set_option maxRecDepth 100000 in
set_option maxHeartbeats 4000000 in
theorem leads_tt (a b : Mach) (la lb : ML) (g o c : Nat) (x0 y0 e : Int) (w : World) (ha : Hid (AtA w la.a2 a.arrows)) (hb : Hid (AtA w lb.a2 b.arrows)) (la4 : a.arrows.length ≤ 4096) (lb4 : b.arrows.length ≤ 4096) (c0 : w.cell? ⟨g, o, none⟩ = some (.int .i64 x0)) (c1 : w.cell? ⟨g, o + 1, none⟩ = some (.int .i64 y0)) (hg : g < w.heap.size) :
    Calls Try.prog 19 #[mval a la, mval b lb, .slice (some ⟨g, o, none⟩) 2 c, .int .i64 e, .bool true, .bool true] w fun r w' => Gives2 w (prs (crossP (stepL a.arrows [x0] e) (stepL b.arrows [y0] e))) r w' := by
  obtain ⟨i1, hi, hz0, hz1, hz2⟩ := info_parts Try.infoInts
  have B0 : Hid (Below w.heap.size w ((((w.alloc (.cells (mcells a la) 25)).alloc (.cells (mcells b lb) 25)).alloc (.cells #[.int .i64 x0] 3)).alloc (.cells #[.int .i64 y0] 3))) := ((((Below.refl _ _).alloc (Nat.le_refl _) _).alloc (by simp) _).alloc (by simp; omega) _).alloc (by simp; omega) _
  have S0 : Hid (At ((((w.alloc (.cells (mcells a la) 25)).alloc (.cells (mcells b lb) 25)).alloc (.cells #[.int .i64 x0] 3)).alloc (.cells #[.int .i64 y0] 3)) (some ⟨w.heap.size + 1 + 1, 0, none⟩) [x0]) := by
    have := at_one ((w.alloc (.cells (mcells a la) 25)).alloc (.cells (mcells b lb) 25)) x0
    rw [World.size_alloc, World.size_alloc] at this
    exact this.below ((Below.refl _ _).alloc (Nat.le_refl _) _) (Nat.le_refl _)
  have T0 : Hid (At ((((w.alloc (.cells (mcells a la) 25)).alloc (.cells (mcells b lb) 25)).alloc (.cells #[.int .i64 x0] 3)).alloc (.cells #[.int .i64 y0] 3)) (some ⟨w.heap.size + 1 + 1 + 1, 0, none⟩) [y0]) := by
    have := at_one (((w.alloc (.cells (mcells a la) 25)).alloc (.cells (mcells b lb) 25)).alloc (.cells #[.int .i64 x0] 3)) y0
    rw [World.size_alloc, World.size_alloc, World.size_alloc] at this
    exact this
  have K0 : Hid (Blk ((((w.alloc (.cells (mcells a la) 25)).alloc (.cells (mcells b lb) 25)).alloc (.cells #[.int .i64 x0] 3)).alloc (.cells #[.int .i64 y0] 3)) (w.heap.size + 1) 25 (mcells b lb)) := by
    have := ((Blk.new (w.alloc (.cells (mcells a la) 25)) 25 (mcells b lb)).alloc (.cells #[.int .i64 x0] 3)).alloc (.cells #[.int .i64 y0] 3)
    rwa [World.size_alloc] at this
  have c1' : (((w.alloc (.cells (mcells a la) 25)).alloc (.cells (mcells b lb) 25)).alloc (.cells #[.int .i64 x0] 3)).cell? ⟨g, o + 1, none⟩ = some (.int .i64 y0) := (Below.cell (p := ⟨g, o + 1, none⟩) ((((Below.refl w.heap.size w).alloc (Nat.le_refl _) _).alloc (by simp) _).alloc (by simp; omega) _) hg).trans c1
  go_enter Try.func19, Try.ntmps19
  go_wp2_with fail
  clear c1'
  revert B0 S0 T0 K0
  generalize (((w.alloc (.cells (mcells a la) 25)).alloc (.cells (mcells b lb) 25)).alloc (.cells #[.int .i64 x0] 3)).alloc (.cells #[.int .i64 y0] 3) = V
  intro B0 S0 T0 K0
  refine (refStep_any a la (some ⟨w.heap.size + 1 + 1, 0, none⟩) 1 [x0] e _ (ha.out.below B0.out (Nat.le_refl _)) (by omega) S0.out (show 1 ≤ maxLen by decide)).mono ?_
  rintro r w1 ⟨sa, sc, rfl, at1, ln1, hb1⟩
  have S1 := Hid.of at1
  have T1 := Hid.of (T0.out.below hb1 (Nat.le_refl _))
  have B1 := Hid.of (B0.out.trans (hb1.mono B0.out.size))
  have K1 := Hid.of (K0.out.below hb1 K0.out.lt)
  clear at1 ln1 hb1 S0 T0 B0 K0
  obtain ⟨k0, k1, k2, k3, k4⟩ := mcell_at2 K1.out
  go_wp2_with fail
  refine (refStep_any b lb (some ⟨w.heap.size + 1 + 1 + 1, 0, none⟩) 1 [y0] e _ (hb.out.below B1.out (Nat.le_refl _)) (by omega) T1.out (show 1 ≤ maxLen by decide)).mono ?_
  rintro r w2 ⟨ta, tc, rfl, at2, ln2, hb2⟩
  have T2 := Hid.of at2
  have S2 := Hid.of (S1.out.below hb2 (Nat.le_refl _))
  have B2 := Hid.of (B1.out.trans (hb2.mono B1.out.size))
  clear at2 ln2 hb2 S1 T1 B1 K1 k0 k1 k2 k3 k4
  go_wp2_with fail
  have hSl : Hid ((stepL a.arrows [x0] e).length ≤ 4096) := show _ ≤ _ by have := stepL_len a.arrows [x0] e; omega
  have hTl : Hid ((stepL b.arrows [y0] e).length ≤ 4096) := show _ ≤ _ by have := stepL_len b.arrows [y0] e; omega
  obtain ⟨S, HS⟩ : ∃ S, Hid (S = stepL a.arrows [x0] e) := ⟨_, rfl⟩
  rw [← HS.out] at S2 hSl ⊢
  obtain ⟨T, HT⟩ : ∃ T, Hid (T = stepL b.arrows [y0] e) := ⟨_, rfl⟩
  rw [← HT.out] at T2 hTl ⊢
  go_loopw [15, 16] (fun v i wr => ∃ k : Nat, k ≤ S.length ∧ i = .int .i64 k ∧ Hid (Own2 wr w2.heap.size v (prs (crossP (S.take k) T))) ∧ Hid (Below w2.heap.size w2 wr)) (fun _ i _ => S.length - (intOf i).toNat)
  case atStart => exact ⟨0, Nat.zero_le _, rfl, own2_nil _ _, Below.refl _ _⟩
  case round =>
    obtain ⟨k, hk, rfl, HO, HB⟩ := hrel
    by_cases hlt : k < S.length
    · obtain ⟨bs, os, hsa, hbs, hcs⟩ := S2.out.cells_of (k := k) hlt
      obtain ⟨x, HX, cx0⟩ := hcs.at (k := k) hlt
      subst hsa
      have HSC : Hid (∀ wr' : World, Below w2.heap.size w2 wr' → wr'.cell? ⟨bs, os + k, none⟩ = some (.int .i64 x)) := fun wr' hw => by
        have := (hw.cell hbs).trans cx0
        exact this
      have HBS := Hid.of hbs
      clear hcs cx0
      have hS4 := hSl.out
      have hT4 := hTl.out
      go_wp2_with fail
      go_loopw [15, 17] (fun v i wr' => ∃ q : Nat, q ≤ T.length ∧ i = .int .i64 q ∧ Hid (Own2 wr' w2.heap.size v (prs (crossP (S.take k) T ++ (T.take q).map fun z => (x, z)))) ∧ Hid (Below w2.heap.size w2 wr')) (fun _ i _ => T.length - (intOf i).toNat)
      case atStart => exact ⟨0, Nat.zero_le _, rfl, (by show Own2 _ _ _ _; rw [List.take_zero, List.map_nil, List.append_nil]; exact HO.out), HB⟩
      case round =>
        clear HO HB
        obtain ⟨q, hq, rfl, HO, HB⟩ := hrel
        by_cases hqt : q < T.length
        · obtain ⟨bt, ot, hta, hbt, hct⟩ := T2.out.cells_of (k := q) hqt
          obtain ⟨y, HY, cy0⟩ := hct.at (k := q) hqt
          subst hta
          have cx := HSC.out wr HB.out
          have cy : wr.cell? ⟨bt, ot + q, none⟩ = some (.int .i64 y) := by
            have := (HB.out.cell hbt).trans cy0
            exact this
          clear hct cy0
          have hlw : (prs (crossP (S.take k) T ++ (T.take q).map fun z => (x, z))).length ≤ 16777216 + 4096 := by
            rw [prs_len, List.length_append, List.length_map]
            have h1 := crossP_le (S := S) (T := T) hSl.out hTl.out k
            have h2 : (T.take q).length ≤ 4096 := Nat.le_trans (List.length_take_le' _ _) hTl.out
            omega
          have HN : Hid (prs (crossP (S.take k) T ++ (T.take (q + 1)).map fun z => (x, z)) = prs (crossP (S.take k) T ++ (T.take q).map fun z => (x, z)) ++ [[x, y]]) := by
            show _ = _
            rw [mapP_take hqt HY, ← List.append_assoc, prs_snoc]
          have hsz := HB.out.size
          generalize prs (crossP (S.take k) T ++ (T.take q).map fun z => (x, z)) = LL at *
          obtain ⟨vs, ho, hin⟩ := HO.out
          have HO1 := Hid.of ho
          have HI1 := Hid.of hin
          clear ho hin HO
          go_wp2_with fail
          go_region_held3 (fun w' => w'.cell? ⟨bs, os + k, none⟩ = some (.int .i64 x) ∧ w'.cell? ⟨bt, ot + q, none⟩ = some (.int .i64 y)) (go_keep) (first | (refine step_append_own rfl (.tmp 54) (.tmp 64) 27 rfl w2.heap.size 22 i1 (.slice none 0 0) 1 24 Try.underlying27 hi hz0 hz1 hz2 rfl (by decide) u15 LL.length vs rfl (ownsRow_lay2 HO1.out _ _) ⟨wr.heap.size + 1, 0, none⟩ 1 1 [.slice (some ⟨wr.heap.size, 0, none⟩) 2 2] rfl rfl (cell_lay2 wr _ _ _) (fun u hu => by simp at hu; subst hu; rfl) (by unfold maxLen; omega) (by omega) (by simp; omega) ?_; intro v1 w10 o10 g10; have E1 := Hid.of (cell_grown2 cx g10 HO1.out HBS.out); have E2 := Hid.of (cell_grown2 cy g10 HO1.out hbt); have ex := E1.out; have ey := E2.out))
          have hlay : Below wr.heap.size wr ((wr.alloc (.cells #[.int .i64 x, .int .i64 y] 3)).alloc (.cells #[.slice (some ⟨wr.heap.size, 0, none⟩) 2 2] 22)).drew := (((Below.refl _ _).alloc (Nat.le_refl _) _).alloc (by simp) _).drew
          have hx0 : InnB ((wr.alloc (.cells #[.int .i64 x, .int .i64 y] 3)).alloc (.cells #[.slice (some ⟨wr.heap.size, 0, none⟩) 2 2] 22)).drew (.slice (some ⟨wr.heap.size, 0, none⟩) 2 2) [x, y] := (innB_new wr x y).below (((Below.refl _ _).alloc (Nat.le_refl _) _).drew)
          have R1 := Hid.of (Own2.snoc (ownsRow_lay2 HO1.out _ _) (fun j z zs h1 h2 => (HI1.out j z zs h1 h2).below hlay) hx0 o10 g10)
          have R2 : Hid (Below w2.heap.size w2 w10) := (HB.out.trans (hlay.mono hsz)).grown g10 (by show w2.heap.size ≤ ((wr.alloc _).alloc _).heap.size; simp; omega) (fun j hj => (HO1.out.lt j hj).1)
          clear hlay hx0 o10 g10 cx cy E1 E2 ex ey
          go_wp2_with fail
          go_roundw
          case rel => exact ⟨q + 1, by omega, by go_num, by show Own2 _ _ _ _; rw [HN.out]; exact R1.out, R2⟩
          case measure => simp [intOf]; omega
        · rw [List.take_of_length_le (show T.length ≤ q by first | omega | (simp; omega))] at HO
          have HN : Hid (crossP (S.take (k + 1)) T = crossP (S.take k) T ++ T.map fun z => (x, z)) := crossP_take hlt HX
          go_wp2_with fail
          go_roundw
          case rel => exact ⟨k + 1, by omega, by go_num, by show Own2 _ _ _ _; rw [HN.out]; exact HO.out, HB⟩
          case measure => simp [intOf]; omega
    · rw [List.take_of_length_le (show S.length ≤ k by first | omega | (simp; omega))] at HO
      rw [HS.out] at HO
      rw [HT.out] at HO
      go_wp2_with fail
      go_ret
      exact ⟨u15, rfl, HO.out.lower B2.out.size, B2.out.trans (HB.out.mono B2.out.size)⟩

set_option maxRecDepth 100000 in
set_option maxHeartbeats 4000000 in
theorem leads_tf (a b : Mach) (la lb : ML) (g o c : Nat) (x0 y0 e : Int) (w : World) (ha : Hid (AtA w la.a2 a.arrows)) (hb : Hid (AtA w lb.a2 b.arrows)) (la4 : a.arrows.length ≤ 4096) (lb4 : b.arrows.length ≤ 4096) (c0 : w.cell? ⟨g, o, none⟩ = some (.int .i64 x0)) (c1 : w.cell? ⟨g, o + 1, none⟩ = some (.int .i64 y0)) (hg : g < w.heap.size) :
    Calls Try.prog 19 #[mval a la, mval b lb, .slice (some ⟨g, o, none⟩) 2 c, .int .i64 e, .bool true, .bool false] w fun r w' => Gives2 w (prs (crossP (stepL a.arrows [x0] e) ([y0]))) r w' := by
  obtain ⟨i1, hi, hz0, hz1, hz2⟩ := info_parts Try.infoInts
  have B0 : Hid (Below w.heap.size w ((((w.alloc (.cells (mcells a la) 25)).alloc (.cells (mcells b lb) 25)).alloc (.cells #[.int .i64 x0] 3)).alloc (.cells #[.int .i64 y0] 3))) := ((((Below.refl _ _).alloc (Nat.le_refl _) _).alloc (by simp) _).alloc (by simp; omega) _).alloc (by simp; omega) _
  have S0 : Hid (At ((((w.alloc (.cells (mcells a la) 25)).alloc (.cells (mcells b lb) 25)).alloc (.cells #[.int .i64 x0] 3)).alloc (.cells #[.int .i64 y0] 3)) (some ⟨w.heap.size + 1 + 1, 0, none⟩) [x0]) := by
    have := at_one ((w.alloc (.cells (mcells a la) 25)).alloc (.cells (mcells b lb) 25)) x0
    rw [World.size_alloc, World.size_alloc] at this
    exact this.below ((Below.refl _ _).alloc (Nat.le_refl _) _) (Nat.le_refl _)
  have T0 : Hid (At ((((w.alloc (.cells (mcells a la) 25)).alloc (.cells (mcells b lb) 25)).alloc (.cells #[.int .i64 x0] 3)).alloc (.cells #[.int .i64 y0] 3)) (some ⟨w.heap.size + 1 + 1 + 1, 0, none⟩) [y0]) := by
    have := at_one (((w.alloc (.cells (mcells a la) 25)).alloc (.cells (mcells b lb) 25)).alloc (.cells #[.int .i64 x0] 3)) y0
    rw [World.size_alloc, World.size_alloc, World.size_alloc] at this
    exact this
  have K0 : Hid (Blk ((((w.alloc (.cells (mcells a la) 25)).alloc (.cells (mcells b lb) 25)).alloc (.cells #[.int .i64 x0] 3)).alloc (.cells #[.int .i64 y0] 3)) (w.heap.size + 1) 25 (mcells b lb)) := by
    have := ((Blk.new (w.alloc (.cells (mcells a la) 25)) 25 (mcells b lb)).alloc (.cells #[.int .i64 x0] 3)).alloc (.cells #[.int .i64 y0] 3)
    rwa [World.size_alloc] at this
  have c1' : (((w.alloc (.cells (mcells a la) 25)).alloc (.cells (mcells b lb) 25)).alloc (.cells #[.int .i64 x0] 3)).cell? ⟨g, o + 1, none⟩ = some (.int .i64 y0) := (Below.cell (p := ⟨g, o + 1, none⟩) ((((Below.refl w.heap.size w).alloc (Nat.le_refl _) _).alloc (by simp) _).alloc (by simp; omega) _) hg).trans c1
  go_enter Try.func19, Try.ntmps19
  go_wp2_with fail
  clear c1'
  revert B0 S0 T0 K0
  generalize (((w.alloc (.cells (mcells a la) 25)).alloc (.cells (mcells b lb) 25)).alloc (.cells #[.int .i64 x0] 3)).alloc (.cells #[.int .i64 y0] 3) = V
  intro B0 S0 T0 K0
  refine (refStep_any a la (some ⟨w.heap.size + 1 + 1, 0, none⟩) 1 [x0] e _ (ha.out.below B0.out (Nat.le_refl _)) (by omega) S0.out (show 1 ≤ maxLen by decide)).mono ?_
  rintro r w1 ⟨sa, sc, rfl, at1, ln1, hb1⟩
  have S1 := Hid.of at1
  have T1 := Hid.of (T0.out.below hb1 (Nat.le_refl _))
  have B1 := Hid.of (B0.out.trans (hb1.mono B0.out.size))
  have K1 := Hid.of (K0.out.below hb1 K0.out.lt)
  clear at1 ln1 hb1 S0 T0 B0 K0
  obtain ⟨k0, k1, k2, k3, k4⟩ := mcell_at2 K1.out
  go_wp2_with fail
  clear k0 k1 k2 k3 k4 K1
  have hSl : Hid ((stepL a.arrows [x0] e).length ≤ 4096) := show _ ≤ _ by have := stepL_len a.arrows [x0] e; omega
  have hTl : Hid (([y0]).length ≤ 4096) := show _ ≤ _ by simp
  obtain ⟨S, HS⟩ : ∃ S, Hid (S = stepL a.arrows [x0] e) := ⟨_, rfl⟩
  rw [← HS.out] at S1 hSl ⊢
  go_loopw [15, 16] (fun v i wr => ∃ k : Nat, k ≤ S.length ∧ i = .int .i64 k ∧ Hid (Own2 wr w1.heap.size v (prs (crossP (S.take k) [y0]))) ∧ Hid (Below w1.heap.size w1 wr)) (fun _ i _ => S.length - (intOf i).toNat)
  case atStart => exact ⟨0, Nat.zero_le _, rfl, own2_nil _ _, Below.refl _ _⟩
  case round =>
    obtain ⟨k, hk, rfl, HO, HB⟩ := hrel
    by_cases hlt : k < S.length
    · obtain ⟨bs, os, hsa, hbs, hcs⟩ := S1.out.cells_of (k := k) hlt
      obtain ⟨x, HX, cx0⟩ := hcs.at (k := k) hlt
      subst hsa
      have HSC : Hid (∀ wr' : World, Below w1.heap.size w1 wr' → wr'.cell? ⟨bs, os + k, none⟩ = some (.int .i64 x)) := fun wr' hw => by
        have := (hw.cell hbs).trans cx0
        exact this
      have HBS := Hid.of hbs
      clear hcs cx0
      have hS4 := hSl.out
      have hT4 := hTl.out
      go_wp2_with fail
      go_loopw [15, 17] (fun v i wr' => ∃ q : Nat, q ≤ 1 ∧ i = .int .i64 q ∧ Hid (Own2 wr' w1.heap.size v (prs (crossP (S.take k) [y0] ++ ([y0].take q).map fun z => (x, z)))) ∧ Hid (Below w1.heap.size w1 wr')) (fun _ i _ => 1 - (intOf i).toNat)
      case atStart => exact ⟨0, Nat.zero_le _, rfl, (by show Own2 _ _ _ _; rw [List.take_zero, List.map_nil, List.append_nil]; exact HO.out), HB⟩
      case round =>
        clear HO HB
        obtain ⟨q, hq, rfl, HO, HB⟩ := hrel
        by_cases hqt : q < 1
        · obtain ⟨bt, ot, hta, hbt, hct⟩ := T1.out.cells_of (k := q) hqt
          obtain ⟨y, HY, cy0⟩ := hct.at (k := q) hqt
          cases hta
          have cx := HSC.out wr HB.out
          have cy : wr.cell? ⟨w.heap.size + 1 + 1 + 1, q, none⟩ = some (.int .i64 y) := by
            have := (HB.out.cell hbt).trans cy0
            rw [Nat.zero_add] at this; exact this
          clear hct cy0
          have hlw : (prs (crossP (S.take k) [y0] ++ ([y0].take q).map fun z => (x, z))).length ≤ 16777216 + 4096 := by
            rw [prs_len, List.length_append, List.length_map]
            have h1 := crossP_le (S := S) (T := [y0]) hSl.out hTl.out k
            have h2 : ([y0].take q).length ≤ 4096 := Nat.le_trans (List.length_take_le' _ _) hTl.out
            omega
          have HN : Hid (prs (crossP (S.take k) [y0] ++ ([y0].take (q + 1)).map fun z => (x, z)) = prs (crossP (S.take k) [y0] ++ ([y0].take q).map fun z => (x, z)) ++ [[x, y]]) := by
            show _ = _
            rw [mapP_take hqt HY, ← List.append_assoc, prs_snoc]
          have hsz := HB.out.size
          generalize prs (crossP (S.take k) [y0] ++ ([y0].take q).map fun z => (x, z)) = LL at *
          obtain ⟨vs, ho, hin⟩ := HO.out
          have HO1 := Hid.of ho
          have HI1 := Hid.of hin
          clear ho hin HO
          go_wp2_with fail
          go_region_held3 (fun w' => w'.cell? ⟨bs, os + k, none⟩ = some (.int .i64 x) ∧ w'.cell? ⟨w.heap.size + 1 + 1 + 1, q, none⟩ = some (.int .i64 y)) (go_keep) (first | (refine step_append_own rfl (.tmp 54) (.tmp 64) 27 rfl w1.heap.size 22 i1 (.slice none 0 0) 1 24 Try.underlying27 hi hz0 hz1 hz2 rfl (by decide) u15 LL.length vs rfl (ownsRow_lay2 HO1.out _ _) ⟨wr.heap.size + 1, 0, none⟩ 1 1 [.slice (some ⟨wr.heap.size, 0, none⟩) 2 2] rfl rfl (cell_lay2 wr _ _ _) (fun u hu => by simp at hu; subst hu; rfl) (by unfold maxLen; omega) (by omega) (by simp; omega) ?_; intro v1 w10 o10 g10; have E1 := Hid.of (cell_grown2 cx g10 HO1.out HBS.out); have E2 := Hid.of (cell_grown2 cy g10 HO1.out hbt); have ex := E1.out; have ey := E2.out))
          have hlay : Below wr.heap.size wr ((wr.alloc (.cells #[.int .i64 x, .int .i64 y] 3)).alloc (.cells #[.slice (some ⟨wr.heap.size, 0, none⟩) 2 2] 22)).drew := (((Below.refl _ _).alloc (Nat.le_refl _) _).alloc (by simp) _).drew
          have hx0 : InnB ((wr.alloc (.cells #[.int .i64 x, .int .i64 y] 3)).alloc (.cells #[.slice (some ⟨wr.heap.size, 0, none⟩) 2 2] 22)).drew (.slice (some ⟨wr.heap.size, 0, none⟩) 2 2) [x, y] := (innB_new wr x y).below (((Below.refl _ _).alloc (Nat.le_refl _) _).drew)
          have R1 := Hid.of (Own2.snoc (ownsRow_lay2 HO1.out _ _) (fun j z zs h1 h2 => (HI1.out j z zs h1 h2).below hlay) hx0 o10 g10)
          have R2 : Hid (Below w1.heap.size w1 w10) := (HB.out.trans (hlay.mono hsz)).grown g10 (by show w1.heap.size ≤ ((wr.alloc _).alloc _).heap.size; simp; omega) (fun j hj => (HO1.out.lt j hj).1)
          clear hlay hx0 o10 g10 cx cy E1 E2 ex ey
          go_wp2_with fail
          go_roundw
          case rel => exact ⟨q + 1, by omega, by go_num, by show Own2 _ _ _ _; rw [HN.out]; exact R1.out, R2⟩
          case measure => simp [intOf]; omega
        · rw [List.take_of_length_le (show [y0].length ≤ q by first | omega | (simp; omega))] at HO
          have HN : Hid (crossP (S.take (k + 1)) [y0] = crossP (S.take k) [y0] ++ [y0].map fun z => (x, z)) := crossP_take hlt HX
          go_wp2_with fail
          go_roundw
          case rel => exact ⟨k + 1, by omega, by go_num, by show Own2 _ _ _ _; rw [HN.out]; exact HO.out, HB⟩
          case measure => simp [intOf]; omega
    · rw [List.take_of_length_le (show S.length ≤ k by first | omega | (simp; omega))] at HO
      rw [HS.out] at HO
      go_wp2_with fail
      go_ret
      exact ⟨u15, rfl, HO.out.lower B1.out.size, B1.out.trans (HB.out.mono B1.out.size)⟩

set_option maxRecDepth 100000 in
set_option maxHeartbeats 4000000 in
theorem leads_ft (a b : Mach) (la lb : ML) (g o c : Nat) (x0 y0 e : Int) (w : World) (ha : Hid (AtA w la.a2 a.arrows)) (hb : Hid (AtA w lb.a2 b.arrows)) (la4 : a.arrows.length ≤ 4096) (lb4 : b.arrows.length ≤ 4096) (c0 : w.cell? ⟨g, o, none⟩ = some (.int .i64 x0)) (c1 : w.cell? ⟨g, o + 1, none⟩ = some (.int .i64 y0)) (hg : g < w.heap.size) :
    Calls Try.prog 19 #[mval a la, mval b lb, .slice (some ⟨g, o, none⟩) 2 c, .int .i64 e, .bool false, .bool true] w fun r w' => Gives2 w (prs (crossP ([x0]) (stepL b.arrows [y0] e))) r w' := by
  obtain ⟨i1, hi, hz0, hz1, hz2⟩ := info_parts Try.infoInts
  have B0 : Hid (Below w.heap.size w ((((w.alloc (.cells (mcells a la) 25)).alloc (.cells (mcells b lb) 25)).alloc (.cells #[.int .i64 x0] 3)).alloc (.cells #[.int .i64 y0] 3))) := ((((Below.refl _ _).alloc (Nat.le_refl _) _).alloc (by simp) _).alloc (by simp; omega) _).alloc (by simp; omega) _
  have S0 : Hid (At ((((w.alloc (.cells (mcells a la) 25)).alloc (.cells (mcells b lb) 25)).alloc (.cells #[.int .i64 x0] 3)).alloc (.cells #[.int .i64 y0] 3)) (some ⟨w.heap.size + 1 + 1, 0, none⟩) [x0]) := by
    have := at_one ((w.alloc (.cells (mcells a la) 25)).alloc (.cells (mcells b lb) 25)) x0
    rw [World.size_alloc, World.size_alloc] at this
    exact this.below ((Below.refl _ _).alloc (Nat.le_refl _) _) (Nat.le_refl _)
  have T0 : Hid (At ((((w.alloc (.cells (mcells a la) 25)).alloc (.cells (mcells b lb) 25)).alloc (.cells #[.int .i64 x0] 3)).alloc (.cells #[.int .i64 y0] 3)) (some ⟨w.heap.size + 1 + 1 + 1, 0, none⟩) [y0]) := by
    have := at_one (((w.alloc (.cells (mcells a la) 25)).alloc (.cells (mcells b lb) 25)).alloc (.cells #[.int .i64 x0] 3)) y0
    rw [World.size_alloc, World.size_alloc, World.size_alloc] at this
    exact this
  have K0 : Hid (Blk ((((w.alloc (.cells (mcells a la) 25)).alloc (.cells (mcells b lb) 25)).alloc (.cells #[.int .i64 x0] 3)).alloc (.cells #[.int .i64 y0] 3)) (w.heap.size + 1) 25 (mcells b lb)) := by
    have := ((Blk.new (w.alloc (.cells (mcells a la) 25)) 25 (mcells b lb)).alloc (.cells #[.int .i64 x0] 3)).alloc (.cells #[.int .i64 y0] 3)
    rwa [World.size_alloc] at this
  have c1' : (((w.alloc (.cells (mcells a la) 25)).alloc (.cells (mcells b lb) 25)).alloc (.cells #[.int .i64 x0] 3)).cell? ⟨g, o + 1, none⟩ = some (.int .i64 y0) := (Below.cell (p := ⟨g, o + 1, none⟩) ((((Below.refl w.heap.size w).alloc (Nat.le_refl _) _).alloc (by simp) _).alloc (by simp; omega) _) hg).trans c1
  go_enter Try.func19, Try.ntmps19
  go_wp2_with fail
  clear c1'
  revert B0 S0 T0 K0
  generalize (((w.alloc (.cells (mcells a la) 25)).alloc (.cells (mcells b lb) 25)).alloc (.cells #[.int .i64 x0] 3)).alloc (.cells #[.int .i64 y0] 3) = V
  intro B0 S0 T0 K0
  obtain ⟨k0, k1, k2, k3, k4⟩ := mcell_at2 K0.out
  go_wp2_with fail
  refine (refStep_any b lb (some ⟨w.heap.size + 1 + 1 + 1, 0, none⟩) 1 [y0] e _ (hb.out.below B0.out (Nat.le_refl _)) (by omega) T0.out (show 1 ≤ maxLen by decide)).mono ?_
  rintro r w2 ⟨ta, tc, rfl, at2, ln2, hb2⟩
  have T2 := Hid.of at2
  have S2 := Hid.of (S0.out.below hb2 (Nat.le_refl _))
  have B2 := Hid.of (B0.out.trans (hb2.mono B0.out.size))
  clear at2 ln2 hb2 S0 T0 B0 K0 k0 k1 k2 k3 k4
  go_wp2_with fail
  have hSl : Hid (([x0]).length ≤ 4096) := show _ ≤ _ by simp
  have hTl : Hid ((stepL b.arrows [y0] e).length ≤ 4096) := show _ ≤ _ by have := stepL_len b.arrows [y0] e; omega
  obtain ⟨T, HT⟩ : ∃ T, Hid (T = stepL b.arrows [y0] e) := ⟨_, rfl⟩
  rw [← HT.out] at T2 hTl ⊢
  go_loopw [15, 16] (fun v i wr => ∃ k : Nat, k ≤ 1 ∧ i = .int .i64 k ∧ Hid (Own2 wr w2.heap.size v (prs (crossP ([x0].take k) T))) ∧ Hid (Below w2.heap.size w2 wr)) (fun _ i _ => 1 - (intOf i).toNat)
  case atStart => exact ⟨0, Nat.zero_le _, rfl, own2_nil _ _, Below.refl _ _⟩
  case round =>
    obtain ⟨k, hk, rfl, HO, HB⟩ := hrel
    by_cases hlt : k < 1
    · obtain ⟨bs, os, hsa, hbs, hcs⟩ := S2.out.cells_of (k := k) hlt
      obtain ⟨x, HX, cx0⟩ := hcs.at (k := k) hlt
      cases hsa
      have HSC : Hid (∀ wr' : World, Below w2.heap.size w2 wr' → wr'.cell? ⟨w.heap.size + 1 + 1, k, none⟩ = some (.int .i64 x)) := fun wr' hw => by
        have := (hw.cell hbs).trans cx0
        rw [Nat.zero_add] at this; exact this
      have HBS := Hid.of hbs
      clear hcs cx0
      have hS4 := hSl.out
      have hT4 := hTl.out
      go_wp2_with fail
      go_loopw [15, 17] (fun v i wr' => ∃ q : Nat, q ≤ T.length ∧ i = .int .i64 q ∧ Hid (Own2 wr' w2.heap.size v (prs (crossP ([x0].take k) T ++ (T.take q).map fun z => (x, z)))) ∧ Hid (Below w2.heap.size w2 wr')) (fun _ i _ => T.length - (intOf i).toNat)
      case atStart => exact ⟨0, Nat.zero_le _, rfl, (by show Own2 _ _ _ _; rw [List.take_zero, List.map_nil, List.append_nil]; exact HO.out), HB⟩
      case round =>
        clear HO HB
        obtain ⟨q, hq, rfl, HO, HB⟩ := hrel
        by_cases hqt : q < T.length
        · obtain ⟨bt, ot, hta, hbt, hct⟩ := T2.out.cells_of (k := q) hqt
          obtain ⟨y, HY, cy0⟩ := hct.at (k := q) hqt
          subst hta
          have cx := HSC.out wr HB.out
          have cy : wr.cell? ⟨bt, ot + q, none⟩ = some (.int .i64 y) := by
            have := (HB.out.cell hbt).trans cy0
            exact this
          clear hct cy0
          have hlw : (prs (crossP ([x0].take k) T ++ (T.take q).map fun z => (x, z))).length ≤ 16777216 + 4096 := by
            rw [prs_len, List.length_append, List.length_map]
            have h1 := crossP_le (S := [x0]) (T := T) hSl.out hTl.out k
            have h2 : (T.take q).length ≤ 4096 := Nat.le_trans (List.length_take_le' _ _) hTl.out
            omega
          have HN : Hid (prs (crossP ([x0].take k) T ++ (T.take (q + 1)).map fun z => (x, z)) = prs (crossP ([x0].take k) T ++ (T.take q).map fun z => (x, z)) ++ [[x, y]]) := by
            show _ = _
            rw [mapP_take hqt HY, ← List.append_assoc, prs_snoc]
          have hsz := HB.out.size
          generalize prs (crossP ([x0].take k) T ++ (T.take q).map fun z => (x, z)) = LL at *
          obtain ⟨vs, ho, hin⟩ := HO.out
          have HO1 := Hid.of ho
          have HI1 := Hid.of hin
          clear ho hin HO
          go_wp2_with fail
          go_region_held3 (fun w' => w'.cell? ⟨w.heap.size + 1 + 1, k, none⟩ = some (.int .i64 x) ∧ w'.cell? ⟨bt, ot + q, none⟩ = some (.int .i64 y)) (go_keep) (first | (refine step_append_own rfl (.tmp 54) (.tmp 64) 27 rfl w2.heap.size 22 i1 (.slice none 0 0) 1 24 Try.underlying27 hi hz0 hz1 hz2 rfl (by decide) u15 LL.length vs rfl (ownsRow_lay2 HO1.out _ _) ⟨wr.heap.size + 1, 0, none⟩ 1 1 [.slice (some ⟨wr.heap.size, 0, none⟩) 2 2] rfl rfl (cell_lay2 wr _ _ _) (fun u hu => by simp at hu; subst hu; rfl) (by unfold maxLen; omega) (by omega) (by simp; omega) ?_; intro v1 w10 o10 g10; have E1 := Hid.of (cell_grown2 cx g10 HO1.out HBS.out); have E2 := Hid.of (cell_grown2 cy g10 HO1.out hbt); have ex := E1.out; have ey := E2.out))
          have hlay : Below wr.heap.size wr ((wr.alloc (.cells #[.int .i64 x, .int .i64 y] 3)).alloc (.cells #[.slice (some ⟨wr.heap.size, 0, none⟩) 2 2] 22)).drew := (((Below.refl _ _).alloc (Nat.le_refl _) _).alloc (by simp) _).drew
          have hx0 : InnB ((wr.alloc (.cells #[.int .i64 x, .int .i64 y] 3)).alloc (.cells #[.slice (some ⟨wr.heap.size, 0, none⟩) 2 2] 22)).drew (.slice (some ⟨wr.heap.size, 0, none⟩) 2 2) [x, y] := (innB_new wr x y).below (((Below.refl _ _).alloc (Nat.le_refl _) _).drew)
          have R1 := Hid.of (Own2.snoc (ownsRow_lay2 HO1.out _ _) (fun j z zs h1 h2 => (HI1.out j z zs h1 h2).below hlay) hx0 o10 g10)
          have R2 : Hid (Below w2.heap.size w2 w10) := (HB.out.trans (hlay.mono hsz)).grown g10 (by show w2.heap.size ≤ ((wr.alloc _).alloc _).heap.size; simp; omega) (fun j hj => (HO1.out.lt j hj).1)
          clear hlay hx0 o10 g10 cx cy E1 E2 ex ey
          go_wp2_with fail
          go_roundw
          case rel => exact ⟨q + 1, by omega, by go_num, by show Own2 _ _ _ _; rw [HN.out]; exact R1.out, R2⟩
          case measure => simp [intOf]; omega
        · rw [List.take_of_length_le (show T.length ≤ q by first | omega | (simp; omega))] at HO
          have HN : Hid (crossP ([x0].take (k + 1)) T = crossP ([x0].take k) T ++ T.map fun z => (x, z)) := crossP_take hlt HX
          go_wp2_with fail
          go_roundw
          case rel => exact ⟨k + 1, by omega, by go_num, by show Own2 _ _ _ _; rw [HN.out]; exact HO.out, HB⟩
          case measure => simp [intOf]; omega
    · rw [List.take_of_length_le (show [x0].length ≤ k by first | omega | (simp; omega))] at HO
      rw [HT.out] at HO
      go_wp2_with fail
      go_ret
      exact ⟨u15, rfl, HO.out.lower B2.out.size, B2.out.trans (HB.out.mono B2.out.size)⟩

end Go.Proofs.Ytdnglodemkeooaa
namespace Go.Proofs.Ytdnglodemkeooaa
open Go.RowKit
set_option linter.unusedVariables false

set_option maxRecDepth 100000 in
set_option maxHeartbeats 1000000 in
theorem leads_ff (a b : Mach) (la lb : ML) (g o c : Nat) (x0 y0 e : Int) (w : World) (c0 : w.cell? ⟨g, o, none⟩ = some (.int .i64 x0)) (c1 : w.cell? ⟨g, o + 1, none⟩ = some (.int .i64 y0)) (hg : g < w.heap.size) :
    Calls Try.prog 19 #[mval a la, mval b lb, .slice (some ⟨g, o, none⟩) 2 c, .int .i64 e, .bool false, .bool false] w fun r w' => Gives2 w (prs []) r w' := by
  have B0 : Hid (Below w.heap.size w ((((w.alloc (.cells (mcells a la) 25)).alloc (.cells (mcells b lb) 25)).alloc (.cells #[.int .i64 x0] 3)).alloc (.cells #[.int .i64 y0] 3))) := ((((Below.refl _ _).alloc (Nat.le_refl _) _).alloc (by simp) _).alloc (by simp; omega) _).alloc (by simp; omega) _
  have c1' : (((w.alloc (.cells (mcells a la) 25)).alloc (.cells (mcells b lb) 25)).alloc (.cells #[.int .i64 x0] 3)).cell? ⟨g, o + 1, none⟩ = some (.int .i64 y0) := (Below.cell (p := ⟨g, o + 1, none⟩) ((((Below.refl w.heap.size w).alloc (Nat.le_refl _) _).alloc (by simp) _).alloc (by simp; omega) _) hg).trans c1
  go_enter Try.func19, Try.ntmps19
  go_wp2_with fail
  clear c1'
  refine wp_loop_rounds 1 ?_
  rw [rounds_succ]
  go_wp2_with fail
  go_ret
  exact ⟨_, rfl, own2_nil _ _, B0.out⟩

theorem leads_any (a b : Mach) (la lb : ML) (g o c : Nat) (p : Int × Int) (e : Int) (inA inB : Bool) (w : World) (ha : AtA w la.a2 a.arrows) (hb : AtA w lb.a2 b.arrows) (la4 : a.arrows.length ≤ 4096) (lb4 : b.arrows.length ≤ 4096) (c0 : w.cell? ⟨g, o, none⟩ = some (.int .i64 p.1)) (c1 : w.cell? ⟨g, o + 1, none⟩ = some (.int .i64 p.2)) (hg : g < w.heap.size) :
    Calls Try.prog 19 #[mval a la, mval b lb, .slice (some ⟨g, o, none⟩) 2 c, .int .i64 e, .bool inA, .bool inB] w fun r w' => Gives2 w (prs (leadsP a.arrows b.arrows p e inA inB)) r w' := by
  cases inA with
  | true =>
    cases inB with
    | true => exact leads_tt a b la lb g o c p.1 p.2 e w ha hb la4 lb4 c0 c1 hg
    | false => exact leads_tf a b la lb g o c p.1 p.2 e w ha hb la4 lb4 c0 c1 hg
  | false =>
    cases inB with
    | true => exact leads_ft a b la lb g o c p.1 p.2 e w ha hb la4 lb4 c0 c1 hg
    | false => exact leads_ff a b la lb g o c p.1 p.2 e w c0 c1 hg

end Go.Proofs.Ytdnglodemkeooaa
namespace Go.Proofs.Ytdnglodemkeooaa
open Go.RowKit
set_option linter.unusedVariables false

set_option maxHeartbeats 1000000 in
theorem join_stays (w : World) (B : Nat) (a1 : Option Addr) (c1 : Nat) (xs : List Int) (a2 : Option Addr) (c2 : Nat) (ys : List Int) (n : Int) (hi : Hid (Inc xs)) (hj : Hid (Inc ys)) (h : PI w B a1 c1 xs a2 c2 ys n) :
    Calls Try.prog 28 #[.int .i64 n, .pointer (some ⟨B + 4, 0, none⟩), .pointer (some ⟨B + 5, 0, none⟩)] w fun e w' => e = .returned (.bool (hasB xs n || hasB ys n)) ∧ PI w' B a1 c1 xs a2 c2 ys n ∧ Kept (fun k => k ≠ B + 1 ∧ k ≠ B + 3) w w' := by
  have hqa := h.qa
  obtain ⟨k1, f1⟩ := h.f1
  by_cases hx : hasB xs n = false
  · have HX : Hid (hasB xs n = false) := hx
    go_enter Try.func28, Try.ntmps28
    go_wp2_with fail
    refine (rowFind_any _ _ _ _ _ _ xs n k1 hi f1).mono ?_
    rintro e w1 ⟨rfl, h1, hk1⟩
    have p1 := h.first h1 hk1
    have hqb := p1.qb
    obtain ⟨k2, f2⟩ := p1.f2
    clear hqa h1
    go_wp2_with fail
    refine (rowFind_any _ _ _ _ _ _ ys n k2 hj f2).mono ?_
    rintro e w2 ⟨rfl, h2, hk2⟩
    have p2 := p1.second h2 hk2
    clear hqb h2
    go_wp2
    go_ret
    exact ⟨ret_bool (by rw [HX.out]; simp), p2, (hk1.mono (fun k h => h.1)).trans (hk2.mono (fun k h => h.2))⟩
  · have hx : hasB xs n = true := by simpa using hx
    have HX : Hid (hasB xs n = true) := hx
    go_enter Try.func28, Try.ntmps28
    go_wp2_with fail
    refine (rowFind_any _ _ _ _ _ _ xs n k1 hi f1).mono ?_
    rintro e w1 ⟨rfl, h1, hk1⟩
    have p1 := h.first h1 hk1
    clear hqa h1
    go_wp2
    go_ret
    exact ⟨ret_bool (by rw [HX.out]; simp), p1, hk1.mono (fun k h => h.1)⟩

end Go.Proofs.Ytdnglodemkeooaa
namespace Go.Proofs.Ytdnglodemkeooaa
open Go.RowKit
set_option linter.unusedVariables false

/-- The world in which pick is called: two lists, their places, the two closures. -/
abbrev jw (w : World) (a1 : Option Addr) (n1 c1 : Nat) (a2 : Option Addr) (n2 c2 : Nat) : World :=
  (((((w.alloc (.cells #[.slice a1 n1 c1] 22)).alloc (.cells #[.int .i64 0] 3)).alloc (.cells #[.slice a2 n2 c2] 22)).alloc (.cells #[.int .i64 0] 3)).alloc (.cells #[.func (.func 36) #[] #[.pointer (some ⟨w.heap.size + 1, 0, none⟩), .pointer (some ⟨w.heap.size, 0, none⟩)]] 52)).alloc
    (.cells #[.func (.func 36) #[] #[.pointer (some ⟨w.heap.size + 1 + 1 + 1, 0, none⟩), .pointer (some ⟨w.heap.size + 1 + 1, 0, none⟩)]] 52)

theorem jw_below (w : World) (a1 : Option Addr) (n1 c1 : Nat) (a2 : Option Addr) (n2 c2 : Nat) : Below w.heap.size w (jw w a1 n1 c1 a2 n2 c2) :=
  ((((((Below.refl _ _).alloc (Nat.le_refl _) _).alloc (by simp) _).alloc (by simp; omega) _).alloc (by simp; omega) _).alloc (by simp; omega) _).alloc (by simp; omega) _

theorem jw_size (w : World) (a1 : Option Addr) (n1 c1 : Nat) (a2 : Option Addr) (n2 c2 : Nat) : (jw w a1 n1 c1 a2 n2 c2).heap.size = w.heap.size + 6 := by simp [jw]

theorem pi_new (w : World) (a1 : Option Addr) (c1 : Nat) (xs : List Int) (a2 : Option Addr) (c2 : Nat) (ys : List Int) (n : Int) (h1 : At w a1 xs) (h2 : At w a2 ys) (l1 : xs.length ≤ maxLen) (l2 : ys.length ≤ maxLen) : PI (jw w a1 xs.length c1 a2 ys.length c2) w.heap.size a1 c1 xs a2 c2 ys n := by
  have f1 := fi_new w w.heap.size a1 c1 xs n h1.atB (Nat.le_refl _) l1
  have kw : Kept (fun k => k < w.heap.size) w ((w.alloc (.cells #[.slice a1 xs.length c1] 22)).alloc (.cells #[.int .i64 0] 3)) := (kept_alloc w _ (fun _ h => h)).trans (kept_alloc _ _ (fun k h => by simp; omega))
  have f2 := fi_new _ w.heap.size a2 c2 ys n (h2.atB.kept kw (fun _ h => h)) (by simp; omega) l2
  refine ⟨⟨0, f1.kept (K := fun k => k < w.heap.size + 2) ?_ (by omega) (by omega) (fun k h => by omega)⟩, ⟨0, ?_⟩, ?_, ?_⟩
  · exact (((kept_alloc _ _ (fun k h => by simp; omega)).trans (kept_alloc _ _ (fun k h => by simp; omega))).trans (kept_alloc _ _ (fun k h => by simp; omega))).trans (kept_alloc _ _ (fun k h => by simp; omega))
  · have f2' := f2.kept (K := fun k => k < w.heap.size + 4) ((kept_alloc _ (.cells #[.func (.func 36) #[] #[.pointer (some ⟨w.heap.size + 1, 0, none⟩), .pointer (some ⟨w.heap.size, 0, none⟩)]] 52) (fun k h => by simp; omega)).trans (kept_alloc _ (.cells #[.func (.func 36) #[] #[.pointer (some ⟨w.heap.size + 1 + 1 + 1, 0, none⟩), .pointer (some ⟨w.heap.size + 1 + 1, 0, none⟩)]] 52) (fun k h => by simp; omega))) (by simp) (by simp) (fun k h => by omega)
    simpa using f2'
  · rw [World.cell?_alloc_past _ _ _ (by simp), World.cell?_alloc_at _ _ _ _ (by simp)]; rfl
  · rw [World.cell?_alloc_at _ _ _ _ (by simp)]; rfl

theorem join_at (w : World) (a1 : Option Addr) (c1 : Nat) (xs : List Int) (a2 : Option Addr) (c2 : Nat) (ys : List Int) (h1 : At w a1 xs) (h2 : At w a2 ys) (k1 : xs.length ≤ c1) (k2 : ys.length ≤ c2) (m1 : c1 ≤ maxLen) (m2 : c2 ≤ maxLen) (hx : Hid (rowB 2147483648 xs = true)) (hy : Hid (rowB 2147483648 ys = true)) :
    Calls Try.prog 27 #[.slice a1 xs.length c1, .slice a2 ys.length c2, .func (.func 28) #[] #[.pointer (some ⟨w.heap.size + 1 + 1 + 1 + 1, 0, none⟩), .pointer (some ⟨w.heap.size + 1 + 1 + 1 + 1 + 1, 0, none⟩)]] (jw w a1 xs.length c1 a2 ys.length c2) fun e w' => ∃ v, e = .returned (.tuple #[v, .int .i64 0]) ∧ Own w' (w.heap.size + 6) v ((uni xs ys).filter fun n => hasB xs n || hasB ys n) ∧ Below w.heap.size (jw w a1 xs.length c1 a2 ys.length c2) w' :=
  join_pick (jw w a1 xs.length c1 a2 ys.length c2) w.heap.size a1 c1 xs a2 c2 ys (fun n => hasB xs n || hasB ys n) (fun w n h => join_stays w _ a1 c1 xs a2 c2 ys n (rowB_inc hx.out) (rowB_inc hy.out) h) (pi_new w a1 c1 xs a2 c2 ys (-1) h1 h2 (by omega) (by omega))
    (h1.atB.kept (K := fun k => k < w.heap.size) ⟨(jw_below w a1 xs.length c1 a2 ys.length c2).os, (jw_below w a1 xs.length c1 a2 ys.length c2).tape, (jw_below w a1 xs.length c1 a2 ys.length c2).output, (jw_below w a1 xs.length c1 a2 ys.length c2).size, (jw_below w a1 xs.length c1 a2 ys.length c2).block⟩ (fun _ h => h))
    (h2.atB.kept (K := fun k => k < w.heap.size) ⟨(jw_below w a1 xs.length c1 a2 ys.length c2).os, (jw_below w a1 xs.length c1 a2 ys.length c2).tape, (jw_below w a1 xs.length c1 a2 ys.length c2).output, (jw_below w a1 xs.length c1 a2 ys.length c2).size, (jw_below w a1 xs.length c1 a2 ys.length c2).block⟩ (fun _ h => h))
    k1 k2 m1 m2 (by rw [jw_size]; exact Nat.le_refl _) hx hy

set_option maxHeartbeats 400000 in
theorem join_yes (w : World) (a1 : Option Addr) (c1 : Nat) (xs : List Int) (a2 : Option Addr) (c2 : Nat) (ys : List Int) (h1 : At w a1 xs) (h2 : At w a2 ys) (k1 : xs.length ≤ c1) (k2 : ys.length ≤ c2) (m1 : c1 ≤ maxLen) (m2 : c2 ≤ maxLen) (hx : Hid (rowB 2147483648 xs = true)) (hy : Hid (rowB 2147483648 ys = true)) :
    Calls Try.prog 10 #[.slice a1 xs.length c1, .slice a2 ys.length c2] w fun e w' => ∃ v, e = .returned (.tuple #[v, .int .i64 0]) ∧ Own w' (w.heap.size + 6) v ((uni xs ys).filter fun n => hasB xs n || hasB ys n) ∧ Below w.heap.size w w' := by
  have hmf : ∀ (fn : Fn) (first cap : Array Value) (w : World), (Instr.makeFunc fn first cap).run Try.prog w = .ok (.func fn first cap) w := fun _ _ _ _ => rfl
  go_enter Try.func10, Try.ntmps10
  go_wp2_with fail
  refine (finder_any a1 c1 xs _).mono ?_
  rintro e w1 ⟨rfl, rfl⟩
  go_wp2_with fail
  refine (finder_any a2 c2 ys _).mono ?_
  rintro e w1 ⟨rfl, rfl⟩
  go_wp2_with fail
  refine (join_at w a1 c1 xs a2 c2 ys h1 h2 k1 k2 m1 m2 hx hy).mono ?_
  rintro e w1 ⟨v, rfl, hown, hbel⟩
  go_wp2
  go_ret2
  exact ⟨v, rfl, hown, (jw_below w a1 xs.length c1 a2 ys.length c2).trans hbel⟩

end Go.Proofs.Ytdnglodemkeooaa
namespace Go.Proofs.Ytdnglodemkeooaa
open Go.RowKit
set_option linter.unusedVariables false

/-! Places. -/
/-! Rows and arrows in order. -/
theorem rowB_iff (n : Int) (hn : n ≤ 2147483648) (l : List Int) : rowB n l = true ↔ Inc l ∧ ∀ x ∈ l, 0 ≤ x ∧ x < n := by
  unfold rowB
  rw [goIs_iff]
  constructor
  · rintro ⟨h1, h2⟩; exact ⟨h1, fun x hx => by have := h2 x hx; omega⟩
  · rintro ⟨h1, h2⟩; exact ⟨h1, fun x hx => by have := h2 x hx; omega⟩
abbrev IncA (l : List Arr) : Prop := l.Pairwise (fun a b => aheadB a b = true)
theorem aheadB_iff (a b : Arr) : aheadB a b = true ↔ a.f < b.f ∨ (a.f = b.f ∧ (a.e < b.e ∨ (a.e = b.e ∧ a.t < b.t))) := by
  unfold aheadB
  split
  · split
    · simp only [decide_eq_true_eq]; omega
    · simp only [decide_eq_true_eq]; omega
  · simp only [decide_eq_true_eq]; omega
theorem aheadB_trans {a b c : Arr} (h : aheadB a b = true) (k : aheadB b c = true) : aheadB a c = true := by
  rw [aheadB_iff] at *; omega
theorem arrsFrom_iff (st ev : Int) : ∀ (ars : List Arr) (p : Option Arr), arrsFrom st ev p ars = true ↔ (∀ a ∈ ars, arrIn st ev a) ∧ IncA ars ∧ ∀ a ∈ ars, behindB p a = true
  | [], p => by simp [arrsFrom]
  | b :: r, p => by
    unfold arrsFrom
    by_cases hc : arrIn st ev b ∧ behindB p b = true
    · rw [if_pos hc, arrsFrom_iff st ev r (some b)]
      constructor
      · rintro ⟨h1, h2, h3⟩
        refine ⟨?_, List.pairwise_cons.2 ⟨fun a ha => h3 a ha, h2⟩, ?_⟩
        · intro a ha
          rcases List.mem_cons.1 ha with rfl | ha
          · exact hc.1
          · exact h1 a ha
        · intro a ha
          rcases List.mem_cons.1 ha with rfl | ha
          · exact hc.2
          · cases p with
            | none => rfl
            | some q => exact aheadB_trans (b := b) hc.2 (h3 a ha)
      · rintro ⟨h1, h2, h3⟩
        obtain ⟨k1, k2⟩ := List.pairwise_cons.1 h2
        exact ⟨fun a ha => h1 a (by simp [ha]), k2, k1⟩
    · rw [if_neg hc]
      constructor
      · intro h; cases h
      · rintro ⟨h1, h2, h3⟩
        exact absurd ⟨h1 b (by simp), h3 b (by simp)⟩ hc
/-! What is come to, of a machine that may be. -/
theorem may_arrs {m : Mach} (hm : mayB m = true) : ∀ a ∈ m.arrows, arrIn m.st m.ev a := ((arrsFrom_iff _ _ _ _).1 (mayB_arrs hm)).1
theorem may_inc {m : Mach} (hm : mayB m = true) : IncA m.arrows := ((arrsFrom_iff _ _ _ _).1 (mayB_arrs hm)).2.1
theorem may_starts {m : Mach} (hm : mayB m = true) : Inc m.starts ∧ ∀ x ∈ m.starts, 0 ≤ x ∧ x < m.st := (rowB_iff _ (by have := mayB_size hm; unfold sizeOk at this; omega) _).1 (mayB_starts hm)
/-! The trimmed machine may be. -/
/-! The trimmed machine accepts the same words. -/
end Go.Proofs.Ytdnglodemkeooaa
namespace Go.Proofs.Ytdnglodemkeooaa
open Go.RowKit
set_option linter.unusedVariables false

/-! Places of pairs. -/
theorem findP_nth : ∀ {L : List (Int × Int)} {q : Int × Int}, q ∈ L → L[findP L q.1 q.2]? = some q
  | [], q, h => by simp at h
  | p :: r, q, h => by
    unfold findP
    by_cases hc : p.1 = q.1 ∧ p.2 = q.2
    · rw [if_pos hc]
      have : p = q := Prod.ext hc.1 hc.2
      simp [this]
    · rw [if_neg hc]
      have hq : q ∈ r := by
        rcases List.mem_cons.1 h with rfl | h
        · exact absurd ⟨rfl, rfl⟩ hc
        · exact h
      simpa using findP_nth hq
theorem findP_lt {L : List (Int × Int)} {q : Int × Int} (h : q ∈ L) : findP L q.1 q.2 < L.length := (List.getElem?_eq_some_iff.1 (findP_nth h)).1
theorem findP_new : ∀ {L : List (Int × Int)} {q : Int × Int}, findP L q.1 q.2 = L.length ↔ q ∉ L := by
  intro L q
  constructor
  · intro h hq
    have := findP_lt hq
    omega
  · intro h
    induction L with
    | nil => rfl
    | cons p r ih =>
      unfold findP
      have hc : ¬ (p.1 = q.1 ∧ p.2 = q.2) := fun hc => h (by have : p = q := Prod.ext hc.1 hc.2; simp [this])
      rw [if_neg hc, ih (fun hq => h (by simp [hq]))]; rfl
theorem findP_at : ∀ {L : List (Int × Int)} {q : Int × Int} {i : Nat}, L.Nodup → L[i]? = some q → findP L q.1 q.2 = i := by
  intro L q i hn hi
  have hm : q ∈ L := List.mem_of_getElem? hi
  have h1 := findP_nth hm
  obtain ⟨l1, e1⟩ := List.getElem?_eq_some_iff.1 h1
  obtain ⟨l2, e2⟩ := List.getElem?_eq_some_iff.1 hi
  exact (List.getElem_inj hn).1 (e1.trans e2.symm)
theorem mem_crossP (S T : List Int) (q : Int × Int) : q ∈ crossP S T ↔ q.1 ∈ S ∧ q.2 ∈ T := by
  unfold crossP
  rw [List.mem_flatMap]
  constructor
  · rintro ⟨x, hx, h⟩
    obtain ⟨y, hy, rfl⟩ := List.mem_map.1 h
    exact ⟨hx, hy⟩
  · rintro ⟨h1, h2⟩
    exact ⟨q.1, h1, List.mem_map.2 ⟨q.2, h2, rfl⟩⟩
theorem nodup_crossP : ∀ {S T : List Int}, S.Nodup → T.Nodup → (crossP S T).Nodup
  | [], T, _, _ => by simp [crossP]
  | x :: r, T, hS, hT => by
    obtain ⟨h1, h2⟩ := List.nodup_cons.1 hS
    have ih := nodup_crossP h2 hT
    show ((T.map fun y => (x, y)) ++ crossP r T).Nodup
    rw [List.nodup_append]
    refine ⟨?_, ih, ?_⟩
    · rw [List.Nodup, List.pairwise_map]
      exact hT.imp (fun h e => h (Prod.mk.inj e).2)
    · intro p hp q hq e
      subst e
      obtain ⟨y, hy, rfl⟩ := List.mem_map.1 hp
      exact h1 ((mem_crossP _ _ _).1 hq).1

/-! What has been found: the invariant. -/
theorem bEv_ps (a b : Mach) (ofA ofB : List Int) (k : Nat) (p : Int × Int) (s : BS) (e : Int) : ∃ t, (bEv a b ofA ofB k p s e).ps = s.ps ++ t := by
  obtain ⟨t, h, -⟩ := bFold_ps k e (leadsP a.arrows b.arrows p e (hasB ofA e) (hasB ofB e)) s
  exact ⟨t, h⟩
theorem bEvs_ps (a b : Mach) (ofA ofB : List Int) (k : Nat) (p : Int × Int) (s : BS) : ∀ n, ∃ t, (bEvs a b ofA ofB k p s n).ps = s.ps ++ t
  | 0 => ⟨[], by simp [bEvs]⟩
  | n + 1 => by
    obtain ⟨t, h⟩ := bEvs_ps a b ofA ofB k p s n
    obtain ⟨u, h'⟩ := bEv_ps a b ofA ofB k p (bEvs a b ofA ofB k p s n) (n : Int)
    exact ⟨t ++ u, by rw [bEvs_succ, h', h, List.append_assoc]⟩
/-! Arrows in order. -/
theorem arr_ext {x y : Arr} (h : arrEq x y) : x = y := by
  cases x; cases y; obtain ⟨h1, h2, h3⟩ := h; dsimp only at h1 h2 h3; subst h1; subst h2; subst h3; rfl
theorem mem_insA (z x : Arr) : ∀ L, z ∈ insA x L ↔ z = x ∨ z ∈ L
  | [] => by simp [insA]
  | y :: r => by
    unfold insA
    split
    · rw [List.mem_cons, mem_insA z x r, List.mem_cons]
      constructor
      · rintro (h | h | h)
        · exact .inr (.inl h)
        · exact .inl h
        · exact .inr (.inr h)
      · rintro (h | h | h)
        · exact .inr (.inl h)
        · exact .inl h
        · exact .inr (.inr h)
    · split
      · rename_i h
        have := arr_ext h
        subst this
        simp
      · simp
theorem inc_insA (x : Arr) : ∀ {L : List Arr}, IncA L → IncA (insA x L)
  | [], _ => by simp [insA, IncA]
  | y :: r, h => by
    obtain ⟨h1, h2⟩ := List.pairwise_cons.1 h
    unfold insA
    split
    · rename_i hy
      refine List.pairwise_cons.2 ⟨fun z hz => ?_, inc_insA x h2⟩
      rcases (mem_insA z x r).1 hz with rfl | hz
      · exact hy
      · exact h1 z hz
    · rename_i hy
      split
      · exact h
      · rename_i he
        have hx : aheadB x y = true := by
          rw [aheadB_iff] at hy ⊢
          unfold arrEq at he
          omega
        refine List.pairwise_cons.2 ⟨fun z hz => ?_, h⟩
        rcases List.mem_cons.1 hz with rfl | hz
        · exact hx
        · exact aheadB_trans hx (h1 z hz)
theorem srtA_both : ∀ (l o : List Arr), IncA o → IncA (l.foldl (fun out x => insA x out) o) ∧ ∀ z, z ∈ l.foldl (fun out x => insA x out) o ↔ z ∈ o ∨ z ∈ l
  | [], o, h => ⟨h, fun z => by simp⟩
  | x :: r, o, h => by
    obtain ⟨k1, k2⟩ := srtA_both r (insA x o) (inc_insA x h)
    refine ⟨k1, fun z => ?_⟩
    rw [List.foldl_cons, k2 z, mem_insA, List.mem_cons]
    constructor
    · rintro ((h | h) | h)
      · exact .inr (.inl h)
      · exact .inl h
      · exact .inr (.inr h)
    · rintro (h | h | h)
      · exact .inl (.inr h)
      · exact .inl (.inl h)
      · exact .inr h
theorem inc_srtA (l : List Arr) : IncA (srtA l) := (srtA_both l [] (by simp [IncA])).1
theorem mem_srtA (l : List Arr) (z : Arr) : z ∈ srtA l ↔ z ∈ l := by rw [show (z ∈ srtA l ↔ _) from (srtA_both l [] (by simp [IncA])).2 z]; simp

/-! The machine of both may be. -/
theorem mem_rngI (n : Nat) (x : Int) : x ∈ rngI n ↔ 0 ≤ x ∧ x < n := by
  unfold rngI
  rw [List.mem_map]
  constructor
  · rintro ⟨k, hk, rfl⟩
    have := List.mem_range.1 hk
    omega
  · rintro ⟨h1, h2⟩
    exact ⟨x.toNat, List.mem_range.2 (by omega), by omega⟩
theorem inc_rngI : ∀ n, Inc (rngI n)
  | 0 => by simp [rngI, Inc]
  | n + 1 => by
    rw [rngI_succ]
    refine List.pairwise_append.2 ⟨inc_rngI n, by simp, fun x hx y hy => ?_⟩
    have h1 := (mem_rngI n x).1 hx
    have h2 : y = n := by simpa using hy
    omega
/-! Words. -/
end Go.Proofs.Ytdnglodemkeooaa
