/-
  The walk of jalousieref2.Sort: arrows put in order: it answers 'srtA'.
-/
import Derived.Test.YtialjbdfkhfcoabG06
import Derived.Test.YtialjbdfkhfcoabG02
import Derived.Test.YtialjbdfkhfcoabG15
import Derived.BigQuiet
import Derived.Deep.RegionHeld3
import Derived.Deep.RegionLaw
namespace Go.Proofs.Ytialjbdfkhfcoab
open Go.RowKit
set_option linter.unusedVariables false

/-- Three cells hold an arrow. -/
structure CA (w : World) (b off : Nat) (a : Arr) : Prop where
  f : w.cell? ⟨b, off, none⟩ = some (.int .i64 a.f)
  e : w.cell? ⟨b, off + 1, none⟩ = some (.int .i64 a.e)
  t : w.cell? ⟨b, off + 2, none⟩ = some (.int .i64 a.t)

theorem CA.below {w w' : World} {b off B : Nat} {a : Arr} (h : CA w b off a) (hb : Below B w w') (hB : b < B) : CA w' b off a :=
  ⟨(hb.cell (p := ⟨b, off, none⟩) hB).trans h.f, (hb.cell (p := ⟨b, off + 1, none⟩) hB).trans h.e, (hb.cell (p := ⟨b, off + 2, none⟩) hB).trans h.t⟩

theorem CA.after {wr w1 : World} {b off : Nat} {a : Arr} (h : CA wr b off a) (hb : Below wr.drew.heap.size wr.drew w1) (hlt : b < wr.heap.size) : CA w1 b off a :=
  CA.below (w := wr.drew) (B := wr.drew.heap.size) ⟨h.f, h.e, h.t⟩ hb hlt

theorem CA.grown {w w' : World} {b off : Nat} {a : Arr} {row : Option Nat} (h : CA w b off a) (hg : w.grownBy w' row) (hne : some b ≠ row) : CA w' b off a :=
  ⟨hg.cell h.f hne, hg.cell h.e hne, hg.cell h.t hne⟩

theorem CellsA.ca {w : World} {b off k : Nat} {ars : List Arr} (hc : CellsA w b off ars) (h : k < ars.length) : ∃ a, Hid (a = ars[k]?.getD arr0) ∧ CA w b (off + k * 3) a :=
  ⟨_, rfl, (hc k h).1, (hc k h).2.1, (hc k h).2.2⟩

theorem cellsA_drop {w : World} {b : Nat} {L : List Arr} (h : CellsA w b 0 L) (p : Nat) : CellsA w b (p * 3) (L.drop p) := fun j hj => by
  rw [List.length_drop] at hj
  have := h (p + j) (by omega)
  rw [List.getElem?_drop]
  rw [show 0 + (p + j) * 3 = p * 3 + j * 3 by omega] at this
  exact this

theorem own_take {w : World} {B g cap p : Nat} {L : List Arr} (h : OwnA w B (.slice (some ⟨g, 0, none⟩) L.length cap) L) (hp : p ≤ L.length) : w.ownsRow B 50 3 (.slice (some ⟨g, 0, none⟩) p cap) p (aflat (L.take p)) := by
  have := h.take hp
  unfold OwnA at this
  rwa [show (L.take p).length = p by rw [List.length_take]; omega] at this
theorem ownsRow_lay {w : World} {B n : Nat} {T : TypeId} {v : Value} {xs : List Value} (h : w.ownsRow B T 3 v n xs) (o : Obj) : (w.alloc o).drew.ownsRow B T 3 v n xs := World.ownsRow.alloc h o
theorem cells_lay (w : World) (a b c : Value) (T : TypeId) : ∀ j u, [a, b, c][j]? = some u → (w.alloc (.cells #[a, b, c] T)).drew.cell? ((⟨w.heap.size, 0, none⟩ : Addr).add j) = some u := cell_three_new w a b c T

theorem CA.laid {w w' : World} {b off g n c : Nat} {a : Arr} {o : Obj} (h : CA w b off a) (hb : b < w.heap.size) (hg : (w.alloc o).drew.grownBy w' (Value.slice (some ⟨g, 0, none⟩) n c).ownBlock) (hne : ¬ b = g) : CA w' b off a :=
  CA.grown (w := (w.alloc o).drew) ⟨(World.cell?_alloc_past _ _ _ hb).trans h.f, (World.cell?_alloc_past _ _ _ hb).trans h.e, (World.cell?_alloc_past _ _ _ hb).trans h.t⟩ hg (by simpa [Value.ownBlock] using hne)
theorem CA.laid2 {w w' : World} {b off B n : Nat} {T : TypeId} {v : Value} {xs : List Value} {a : Arr} (h : CA w b off a) (ho : w.ownsRow B T 3 v n xs) (hg : w.grownBy w' v.ownBlock) (hb : b < B) : CA w' b off a :=
  h.grown hg (fun e => by have := (ho.lt b e.symm).1; omega)
theorem news_laid {w w' : World} {b g n c : Nat} {M : List Arr} {o : Obj} (h : CellsA w b 0 M) (hb : b < w.heap.size) (hg : (w.alloc o).drew.grownBy w' (Value.slice (some ⟨g, 0, none⟩) n c).ownBlock) (hne : ¬ b = g) : ∀ j u, (aflat M)[j]? = some u → w'.cell? ((⟨b, 0, none⟩ : Addr).add j) = some u := by
  intro j u hu
  have h1 := cells_news h j u hu
  rw [addr0_add] at h1 ⊢
  exact hg.cell (a := ⟨b, 0 + j, none⟩) ((World.cell?_alloc_past _ _ _ hb).trans h1) (by simpa [Value.ownBlock] using hne)

theorem below_laid {B : Nat} {w w9 w10 : World} {g n c : Nat} {o : Obj} (h : Below B w w9) (hB : B ≤ w9.heap.size) (hg : (w9.alloc o).drew.grownBy w10 (Value.slice (some ⟨g, 0, none⟩) n c).ownBlock) (hgB : B ≤ g) : Below B w w10 :=
  (h.alloc hB o).drew.grown hg (by show B ≤ (w9.alloc o).heap.size; simp; omega) (fun k hk => by simp [Value.ownBlock] at hk; omega)
theorem own_ins {w : World} {B p : Nat} {v : Value} {L : List Arr} {x : Arr} (hp : p ≤ L.length) (h : w.ownsRow B 50 3 v (p + 1 + (L.length - p)) (aflat (L.take p) ++ [.int .i64 x.f, .int .i64 x.e, .int .i64 x.t] ++ aflat (L.drop p))) (e : insA x L = L.take p ++ x :: L.drop p) : OwnA w B v (insA x L) := by
  unfold OwnA
  rw [e, aflat_append]
  have hl : (L.take p ++ x :: L.drop p).length = p + 1 + (L.length - p) := by simp; omega
  rw [hl]
  simpa [aflat] using h

theorem own_ins2 {w : World} {B : Nat} {v : Value} {L : List Arr} {x : Arr} (h : w.ownsRow B 50 3 v (L.length + 1 + 0) (aflat L ++ [.int .i64 x.f, .int .i64 x.e, .int .i64 x.t] ++ [])) (e : insA x L = L ++ [x]) : OwnA w B v (insA x L) := by
  unfold OwnA
  rw [e, aflat_append, List.length_append]
  simpa [aflat] using h
theorem own_ins0 {w : World} {B : Nat} {v : Value} {x : Arr} (h : w.ownsRow B 50 3 v (1 + 0) ([.int .i64 x.f, .int .i64 x.e, .int .i64 x.t] ++ [])) : OwnA w B v (insA x []) := h
theorem insA_end {x : Arr} {L : List Arr} (h : ∀ j, j < L.length → aheadB (L[j]?.getD arr0) x = true) : insA x L = L ++ [x] := by
  have := insA_put (Nat.le_refl _) h (.inl rfl)
  simpa using this
theorem CA.laidN {w w' : World} {b off : Nat} {a : Arr} {o : Obj} (h : CA w b off a) (hb : b < w.heap.size) (hg : (w.alloc o).drew.grownBy w' (Value.slice none 0 0).ownBlock) : CA w' b off a :=
  CA.grown (w := (w.alloc o).drew) ⟨(World.cell?_alloc_past _ _ _ hb).trans h.f, (World.cell?_alloc_past _ _ _ hb).trans h.e, (World.cell?_alloc_past _ _ _ hb).trans h.t⟩ hg (by simp [Value.ownBlock])
theorem below_laidN {B : Nat} {w w9 w10 : World} {o : Obj} (h : Below B w w9) (hB : B ≤ w9.heap.size) (hg : (w9.alloc o).drew.grownBy w10 (Value.slice none 0 0).ownBlock) : Below B w w10 :=
  (h.alloc hB o).drew.grown hg (by show B ≤ (w9.alloc o).heap.size; simp; omega) (fun k hk => by simp [Value.ownBlock] at hk)

theorem bcell {W w1 : World} (hb : Below W.heap.size W w1) : (∀ b o, b < W.heap.size → w1.cell? ⟨b, o, none⟩ = W.cell? ⟨b, o, none⟩) :=
  fun b o h => hb.cell (p := ⟨b, o, none⟩) h

set_option maxHeartbeats 1000000 in
set_option maxRecDepth 100000 in
theorem refSort_some (bx ox cx : Nat) (ars : List Arr) (w : World) (hl : ars.length ≤ 1073741824) (hbx : bx < w.heap.size) (hc : CellsA w bx ox ars) :
    Calls Try.prog 21 #[.slice (some ⟨bx, ox, none⟩) ars.length cx] w fun e w' => ∃ v, e = .returned v ∧ OwnA w' w.heap.size v (srtA ars) ∧ Below w.heap.size w w' := by
  obtain ⟨i0, hi, hz0, hz1, hz2⟩ := info_parts Try.infoArrow
  go_enter Try.func21, Try.ntmps21
  go_wp2
  go_loopw [3, 4] (fun v i wr => ∃ k : Nat, k ≤ ars.length ∧ i = .int .i64 k ∧ OwnA wr w.heap.size v (srtA (ars.take k)) ∧ Below w.heap.size w wr) (fun _ i _ => ars.length - (intOf i).toNat)
  case atStart => exact ⟨0, Nat.zero_le _, rfl, ownA_nil _ _, Below.refl _ _⟩
  case round =>
    obtain ⟨k, hk, rfl, hown, hbel⟩ := hrel
    by_cases hlt : k < ars.length
    · obtain ⟨x, HX, hx0⟩ := hc.ca hlt
      obtain ⟨wo, hwo⟩ : ∃ wo : World, wo = wr := ⟨_, rfl⟩
      subst hwo
      have hnext : Hid (srtA (ars.take (k + 1)) = insA x (srtA (ars.take k))) := srtA_take hlt HX
      have hll : (srtA (ars.take k)).length ≤ k := Nat.le_trans (srtA_len _) (List.length_take_le _ _)
      generalize srtA (ars.take k) = L at *
      rcases hown.forms with ⟨rfl, rfl⟩ | ⟨g, cap, rfl, hg1, hg2, hcL, hcap, hcm⟩
      · go_wp2
        refine wp_loop_rounds 1 ?_
        rw [rounds_succ]
        go_wp2
        go_quiet (fail)
        go_wp2
        obtain ⟨wz, hwz⟩ : ∃ wz : World, wz = wo.drewN nq := ⟨_, rfl⟩
        have hbz : Below wo.heap.size wo wz := by rw [hwz]; exact below_drewN (Below.refl _ _) _
        rw [← hwz]
        clear hwz
        go_quiet (fail)
        obtain ⟨wq, hwq⟩ : ∃ wq : World, wq = wz.drewN nq := ⟨_, rfl⟩
        have hbelq : Below w.heap.size w wq := by rw [hwq]; exact below_drewN (hbel.trans (hbz.mono hbel.size)) _
        rw [← hwq]
        clear hwq
        have kxq : CA wq bx (ox + k * 3) x := hx0.below hbelq hbx
        have hszq2 := hbelq.size
        have o0 : OwnA (wq.alloc (.cells #[] 50)) wq.heap.size (.slice (some ⟨wq.heap.size, 0, none⟩) 0 0) [] := ownA_empty wq _ (Nat.le_refl _)
        have ba : Below wq.heap.size wq (wq.alloc (.cells #[] 50)) := (Below.refl _ _).alloc (Nat.le_refl _) _
        go_wp2_with (at_builtin; refine wpList_append_arrs _ rfl (.tmp 45) (.tmp 48) 23 rfl wq.heap.size i0 Try.underlying23 hi hz0 hz1 hz2 _ [] rfl o0 none 0 [] rfl (.inl rfl) (fun _ => rfl) (by simp) (by simp) ?_)
        intro rest w9 o9 g9 n9
        have bel9 : Below wq.heap.size wq w9 := ba.grown g9 (by simp) (fun k hk => by simp [Value.ownBlock] at hk; omega)
        obtain ⟨g', c', e9, hg1', hg2', hc9, -, -⟩ := (o9.forms).resolve_left (fun h => n9 h.1)
        subst e9
        clear o9 g9 n9 o0 ba
        have own9 : w9.ownsRow w.heap.size 50 3 (.slice none 0 0) 0 [] := World.ownsRow_nil _ _ _ _
        have kx9 : CA w9 bx (ox + k * 3) x := kxq.below bel9 (by omega)
        have kx9f := kx9.f
        have kx9e := kx9.e
        have kx9t := kx9.t
        have hsz9 : wq.heap.size ≤ w9.heap.size := bel9.size
        have hbx9 : bx < w9.heap.size := by omega
        go_wp2
        go_region_held3 (fun w' => w'.cell? ⟨bx, ox + k * 3, none⟩ = some (.int .i64 x.f) ∧ w'.cell? ⟨bx, ox + k * 3 + 1, none⟩ = some (.int .i64 x.e) ∧ w'.cell? ⟨bx, ox + k * 3 + 2, none⟩ = some (.int .i64 x.t)) (go_keep) (first | (refine step_append_own rfl (.tmp 52) (.tmp 57) 23 rfl w.heap.size 50 i0 (aval arr0) 3 24 Try.underlying23 hi hz0 hz1 hz2 rfl (by decide) (.slice none 0 0) 0 [] rfl (ownsRow_lay own9 _) ⟨w9.heap.size, 0, none⟩ 1 1 [.int .i64 x.f, .int .i64 x.e, .int .i64 x.t] rfl rfl (cells_lay w9 _ _ _ _) (aflat_one [x]) (by unfold maxLen; omega) (by omega) (by simp; omega) ?_; intro v1 w10 o10 g10; obtain ⟨kt1, kt2, kt3⟩ := CA.laidN kx9 hbx9 g10) | (refine step_append_own rfl (.tmp 58) (.tmp 59) 23 rfl w.heap.size 50 i0 (aval arr0) 3 24 Try.underlying23 hi hz0 hz1 hz2 rfl (by decide) v1 1 ([.int .i64 x.f, .int .i64 x.e, .int .i64 x.t]) rfl o10 ⟨g', 0, none⟩ 0 c' [] rfl rfl (fun j u hu => by simp at hu) (fun u hu => by simp at hu) (by unfold maxLen; omega) (by omega) (by have := g10.size; simp at this; omega) ?_; intro v2 w11 o11 g11; obtain ⟨ku1, ku2, ku3⟩ := CA.laid2 ⟨kt1, kt2, kt3⟩ o10 g11 hbx))
        have b10 : Below w.heap.size w w10 := below_laidN (hbelq.trans (bel9.mono hszq2)) (by omega) g10
        have b11 : Below w.heap.size w w11 := b10.grown g11 (by have := b10.size; omega) (fun j hj => (o10.lt j hj).1)
        have r1 : OwnA w11 w.heap.size v2 (srtA (ars.take (k + 1))) := by rw [hnext.out]; exact own_ins0 o11
        clear o10 o11 g10 g11
        go_wp2
        go_roundw
        case rel => exact ⟨k + 1, by omega, by go_num, r1, b11⟩
        case measure => simp [intOf]; omega
      · go_wp2
        go_loopw [5] (fun i wr' => ∃ p : Nat, p ≤ L.length ∧ i = .int .i64 p ∧ Below wo.heap.size wo wr' ∧ Hid (∀ j, j < p → aheadB (L[j]?.getD arr0) x = true)) (fun i _ => L.length - (intOf i).toNat)
        case atStart => exact ⟨0, Nat.zero_le _, rfl, Below.refl _ _, fun j hj => by omega⟩
        case round =>
          obtain ⟨p, hp, rfl, hbq, hlow⟩ := hrel
          have hszq := hbq.size
          have hxr := (hx0.below hbel hbx).below hbq (by have := hbel.size; omega)
          have x1 := hxr.f
          have x2 := hxr.e
          have x3 := hxr.t
          by_cases hpl : p < L.length
          · obtain ⟨y, HY, hy0⟩ := hcL.ca hpl
            have hyr := hy0.below hbq hg2
            rw [Nat.zero_add] at hyr
            have y1 := hyr.f
            have y2 := hyr.e
            have y3 := hyr.t
            by_cases c1 : aheadB y x = true
            · have hgq : g < wr.heap.size := by omega
              have hbq2 : bx < wr.heap.size := by have := hbel.size; omega
              go_wp2
              go_region_held3 (fun w' => w'.cell? ⟨g, p * 3, none⟩ = some (.int .i64 y.f) ∧ w'.cell? ⟨g, p * 3 + 1, none⟩ = some (.int .i64 y.e) ∧ w'.cell? ⟨g, p * 3 + 2, none⟩ = some (.int .i64 y.t) ∧ w'.cell? ⟨bx, ox + k * 3, none⟩ = some (.int .i64 x.f) ∧ w'.cell? ⟨bx, ox + k * 3 + 1, none⟩ = some (.int .i64 x.e) ∧ w'.cell? ⟨bx, ox + k * 3 + 2, none⟩ = some (.int .i64 x.t)) (go_keep) (first | (go_at_call 33; refine (refAhead_any y x _).mono ?_; rintro e w1 ⟨rfl, hb1⟩; obtain ⟨ky1, ky2, ky3⟩ := CA.after hyr hb1 hgq; obtain ⟨kx1, kx2, kx3⟩ := CA.after hxr hb1 hbq2))
              go_wp2
              go_roundw
              case rel => exact ⟨p + 1, by omega, by go_num, hbq.drew.trans (hb1.mono hszq), fun j hj => by
                by_cases e : j = p
                · subst e; rw [← HY.out]; exact c1
                · exact hlow.out j (by omega)⟩
              case measure => simp [intOf]; omega
            · have c1' : aheadB y x = false := by simpa using c1
              have C1 : Hid (aheadB y x = false) := c1'
              clear c1
              have hgq : g < wr.heap.size := by omega
              have hbq2 : bx < wr.heap.size := by have := hbel.size; omega
              have heq : ∀ w : World, (Op.equalIn 10000 50 (.agg #[.int .i64 y.f, .int .i64 y.e, .int .i64 y.t]) (.agg #[.int .i64 x.f, .int .i64 x.e, .int .i64 x.t])).run Try.prog w = .ok (arrEqB y x) w := run_equalIn_arrow y x
              have hgd := run_guard_arrow
              go_wp2
              go_region_held3 (fun w' => w'.cell? ⟨g, p * 3, none⟩ = some (.int .i64 y.f) ∧ w'.cell? ⟨g, p * 3 + 1, none⟩ = some (.int .i64 y.e) ∧ w'.cell? ⟨g, p * 3 + 2, none⟩ = some (.int .i64 y.t) ∧ w'.cell? ⟨bx, ox + k * 3, none⟩ = some (.int .i64 x.f) ∧ w'.cell? ⟨bx, ox + k * 3 + 1, none⟩ = some (.int .i64 x.e) ∧ w'.cell? ⟨bx, ox + k * 3 + 2, none⟩ = some (.int .i64 x.t)) (go_keep) (first | (go_at_call 33; refine (refAhead_any y x _).mono ?_; rintro e w1 ⟨rfl, hb1⟩; obtain ⟨ky1, ky2, ky3⟩ := CA.after hyr hb1 hgq; obtain ⟨kx1, kx2, kx3⟩ := CA.after hxr hb1 hbq2))
              have hbo : Below wo.heap.size wo w1 := hbq.drew.trans (hb1.mono hszq)
              clear hb1 hbq hxr hyr x1 x2 x3 y1 y2 y3
              by_cases hq : arrEq y x
              · have HQ : Hid (arrEq y x) := hq
                have fq : arrEqB y x = true := by simp [arrEqB, hq]
                clear hq
                have E2 : Hid (srtA (ars.take (k + 1)) = L) := by show _ = _; rw [hnext.out]; exact insA_same hpl hlow.out (by rw [← HY.out]; exact C1.out) (by rw [← HY.out]; exact HQ.out)
                go_wp2
                go_quiet (fail)
                go_wp2
                go_roundw
                case rel => exact ⟨k + 1, by omega, by go_num, by rw [E2.out]; exact (hown.kept hbo (Nat.le_refl _)).kept (below_drewN (Below.refl _ _) _) (Nat.le_refl _), below_drewN (hbel.trans (hbo.mono hbel.size)) _⟩
                case measure => simp [intOf]; omega
              · have HQ : Hid (¬ arrEq y x) := hq
                have fq : arrEqB y x = false := by simp [arrEqB, hq]
                clear hq
                go_wp2
                go_quiet (fail)
                obtain ⟨wq, hwq⟩ : ∃ wq : World, wq = w1.drewN nq := ⟨_, rfl⟩
                have hownq : OwnA wq w.heap.size (.slice (some ⟨g, 0, none⟩) L.length cap) L := by rw [hwq]; exact (hown.kept hbo (Nat.le_refl _)).kept (below_drewN (Below.refl _ _) _) (Nat.le_refl _)
                have hbelq : Below w.heap.size w wq := by rw [hwq]; exact below_drewN (hbel.trans (hbo.mono hbel.size)) _
                rw [← hwq]
                clear hwq
                have HE : Hid (p = L.length ∨ (aheadB (L[p]?.getD arr0) x = false ∧ ¬ arrEq (L[p]?.getD arr0) x)) := .inr (by rw [← HY.out]; exact ⟨C1.out, HQ.out⟩)
                have kxq : CA wq bx (ox + k * 3) x := hx0.below hbelq hbx
                obtain ⟨g0, cap0, e0, hg1q, hgq2, hcLq, hcap0, hcm0⟩ := (hownq.forms).resolve_left (by rintro ⟨h, _⟩; cases h)
                simp only [Value.slice.injEq, Option.some.injEq, Addr.mk.injEq, and_true, true_and] at e0
                obtain ⟨rfl, rfl⟩ := e0
                have hszq2 := hbelq.size
                have o0 : OwnA (wq.alloc (.cells #[] 50)) wq.heap.size (.slice (some ⟨wq.heap.size, 0, none⟩) 0 0) [] := ownA_empty wq _ (Nat.le_refl _)
                have ba : Below wq.heap.size wq (wq.alloc (.cells #[] 50)) := (Below.refl _ _).alloc (Nat.le_refl _) _
                have hne : ¬ cap = p := by omega
                have a0 : AtA (wq.alloc (.cells #[] 50)) (some ⟨g, p * 3, none⟩) (L.drop p) := AtA.below (.inr ⟨g, p * 3, rfl, hgq2, cellsA_drop hcLq p⟩) ba (Nat.le_refl _)
                have dl : (L.drop p).length = L.length - p := List.length_drop ..
                have DL : Hid ((L.drop p).length = L.length - p) := dl
                clear dl
                go_wp2_with (at_builtin; refine wpList_append_arrs _ rfl (.tmp 45) (.tmp 48) 23 rfl wq.heap.size i0 Try.underlying23 hi hz0 hz1 hz2 _ [] rfl o0 (some ⟨g, p * 3, none⟩) (cap - p) (L.drop p) (by rw [DL.out]; rfl) a0 (by intro h; cases h) (by rw [DL.out]; simp only [List.length_nil]; omega) (by simp) ?_)
                intro rest w9 o9 g9 n9
                have bel9 : Below wq.heap.size wq w9 := ba.grown g9 (by simp) (fun k hk => by simp [Value.ownBlock] at hk; omega)
                obtain ⟨g', c', e9, hg1', hg2', hc9, -, -⟩ := (o9.forms).resolve_left (fun h => n9 h.1)
                subst e9
                clear o9 g9 n9 o0 ba a0
                have own9 := hownq.kept bel9 (Nat.le_refl _)
                have hT9 : w9.ownsRow w.heap.size 50 3 (.slice (some ⟨g, 0, none⟩) p cap) p (aflat (L.take p)) := own_take own9 hp
                have kx9 : CA w9 bx (ox + k * 3) x := kxq.below bel9 (by omega)
                have kx9f := kx9.f
                have kx9e := kx9.e
                have kx9t := kx9.t
                have hsz9 : wq.heap.size ≤ w9.heap.size := bel9.size
                have hbx9 : bx < w9.heap.size := by omega
                have hg9 : g < w9.heap.size := by omega
                have hgg : ¬ g' = g := by omega
                have hbg : ¬ bx = g := by omega
                have sp1 : (p : Int) ≤ (cap : Int) := by omega
                have sp2 : p ≤ cap := by omega
                have sp3 : p ≤ L.length := hp
                rw [DL.out]
                go_wp2
                go_region_held3 (fun w' => w'.cell? ⟨bx, ox + k * 3, none⟩ = some (.int .i64 x.f) ∧ w'.cell? ⟨bx, ox + k * 3 + 1, none⟩ = some (.int .i64 x.e) ∧ w'.cell? ⟨bx, ox + k * 3 + 2, none⟩ = some (.int .i64 x.t)) (go_keep) (first | (refine step_append_own rfl (.tmp 52) (.tmp 57) 23 rfl w.heap.size 50 i0 (aval arr0) 3 24 Try.underlying23 hi hz0 hz1 hz2 rfl (by decide) (.slice (some ⟨g, 0, none⟩) p cap) p (aflat (L.take p)) rfl (ownsRow_lay hT9 _) ⟨w9.heap.size, 0, none⟩ 1 1 [.int .i64 x.f, .int .i64 x.e, .int .i64 x.t] rfl rfl (cells_lay w9 _ _ _ _) (aflat_one [x]) (by unfold maxLen; omega) (by omega) (by simp; omega) ?_; intro v1 w10 o10 g10; obtain ⟨kt1, kt2, kt3⟩ := CA.laid kx9 hbx9 g10 hbg; have hn10 := news_laid hc9 hg2' g10 hgg) | (refine step_append_own rfl (.tmp 58) (.tmp 59) 23 rfl w.heap.size 50 i0 (aval arr0) 3 24 Try.underlying23 hi hz0 hz1 hz2 rfl (by decide) v1 (p + 1) (aflat (L.take p) ++ [.int .i64 x.f, .int .i64 x.e, .int .i64 x.t]) rfl o10 ⟨g', 0, none⟩ (L.length - p) c' (aflat (L.drop p)) rfl (by rw [aflat_len, List.length_drop]) hn10 (aflat_one _) (by unfold maxLen; omega) (by omega) (by have := g10.size; simp at this; omega) ?_; intro v2 w11 o11 g11; obtain ⟨ku1, ku2, ku3⟩ := CA.laid2 ⟨kt1, kt2, kt3⟩ o10 g11 hbx))
                have b10 : Below w.heap.size w w10 := below_laid (hbelq.trans (bel9.mono hszq2)) (by omega) g10 hg1q
                have b11 : Below w.heap.size w w11 := b10.grown g11 (by have := b10.size; omega) (fun j hj => (o10.lt j hj).1)
                have r1 : OwnA w11 w.heap.size v2 (srtA (ars.take (k + 1))) := by rw [hnext.out]; exact own_ins hp o11 (insA_put hp hlow.out HE.out)
                clear o10 o11 g10 g11 hT9 own9 hc9
                go_wp2
                go_roundw
                case rel => exact ⟨k + 1, by omega, by go_num, r1, b11⟩
                case measure => simp [intOf]; omega
          · obtain rfl : p = L.length := by omega
            go_wp2
            go_quiet (fail)
            go_wp2
            obtain ⟨wz, hwz⟩ : ∃ wz : World, wz = wr.drewN nq := ⟨_, rfl⟩
            have hbz : Below wo.heap.size wo wz := by rw [hwz]; exact below_drewN hbq _
            rw [← hwz]
            clear hwz hbq hxr x1 x2 x3
            go_quiet (fail)
            obtain ⟨wq, hwq⟩ : ∃ wq : World, wq = wz.drewN nq := ⟨_, rfl⟩
            have hownq : OwnA wq w.heap.size (.slice (some ⟨g, 0, none⟩) L.length cap) L := by rw [hwq]; exact (hown.kept hbz (Nat.le_refl _)).kept (below_drewN (Below.refl _ _) _) (Nat.le_refl _)
            have hbelq : Below w.heap.size w wq := by rw [hwq]; exact below_drewN (hbel.trans (hbz.mono hbel.size)) _
            rw [← hwq]
            clear hwq
            have kxq : CA wq bx (ox + k * 3) x := hx0.below hbelq hbx
            have hgq2 : g < wq.heap.size := (hownq.lt g rfl).2
            have hszq2 := hbelq.size
            have o0 : OwnA (wq.alloc (.cells #[] 50)) wq.heap.size (.slice (some ⟨wq.heap.size, 0, none⟩) 0 0) [] := ownA_empty wq _ (Nat.le_refl _)
            have ba : Below wq.heap.size wq (wq.alloc (.cells #[] 50)) := (Below.refl _ _).alloc (Nat.le_refl _) _
            by_cases hcp : cap = L.length
            · subst hcp
              go_wp2_with (at_builtin; refine wpList_append_arrs _ rfl (.tmp 45) (.tmp 48) 23 rfl wq.heap.size i0 Try.underlying23 hi hz0 hz1 hz2 _ [] rfl o0 (some ⟨g, 0, none⟩) 0 [] rfl (.inl rfl) (by intro h; cases h) (by simp) (by simp) ?_)
              intro rest w9 o9 g9 n9
              have bel9 : Below wq.heap.size wq w9 := ba.grown g9 (by simp) (fun k hk => by simp [Value.ownBlock] at hk; omega)
              obtain ⟨g', c', e9, hg1', hg2', hc9, -, -⟩ := (o9.forms).resolve_left (fun h => n9 h.1)
              subst e9
              clear o9 g9 n9 o0 ba
              have own9 := hownq.kept bel9 (Nat.le_refl _)
              have kx9 : CA w9 bx (ox + k * 3) x := kxq.below bel9 (by omega)
              have kx9f := kx9.f
              have kx9e := kx9.e
              have kx9t := kx9.t
              have hsz9 : wq.heap.size ≤ w9.heap.size := bel9.size
              have hbx9 : bx < w9.heap.size := by omega
              have hg9 : g < w9.heap.size := by omega
              have hbg : ¬ bx = g := by omega
              have sp1 : (L.length : Int) ≤ (L.length : Int) := by omega
              go_wp2
              go_region_held3 (fun w' => w'.cell? ⟨bx, ox + k * 3, none⟩ = some (.int .i64 x.f) ∧ w'.cell? ⟨bx, ox + k * 3 + 1, none⟩ = some (.int .i64 x.e) ∧ w'.cell? ⟨bx, ox + k * 3 + 2, none⟩ = some (.int .i64 x.t)) (go_keep) (first | (refine step_append_own rfl (.tmp 52) (.tmp 57) 23 rfl w.heap.size 50 i0 (aval arr0) 3 24 Try.underlying23 hi hz0 hz1 hz2 rfl (by decide) (.slice (some ⟨g, 0, none⟩) L.length L.length) L.length (aflat L) rfl (ownsRow_lay own9 _) ⟨w9.heap.size, 0, none⟩ 1 1 [.int .i64 x.f, .int .i64 x.e, .int .i64 x.t] rfl rfl (cells_lay w9 _ _ _ _) (aflat_one [x]) (by unfold maxLen; omega) (by omega) (by simp; omega) ?_; intro v1 w10 o10 g10; obtain ⟨kt1, kt2, kt3⟩ := CA.laid kx9 hbx9 g10 hbg) | (refine step_append_own rfl (.tmp 58) (.tmp 59) 23 rfl w.heap.size 50 i0 (aval arr0) 3 24 Try.underlying23 hi hz0 hz1 hz2 rfl (by decide) v1 (L.length + 1) ((aflat L) ++ [.int .i64 x.f, .int .i64 x.e, .int .i64 x.t]) rfl o10 ⟨g', 0, none⟩ 0 c' [] rfl rfl (fun j u hu => by simp at hu) (fun u hu => by simp at hu) (by unfold maxLen; omega) (by omega) (by have := g10.size; simp at this; omega) ?_; intro v2 w11 o11 g11; obtain ⟨ku1, ku2, ku3⟩ := CA.laid2 ⟨kt1, kt2, kt3⟩ o10 g11 hbx))
              have b10 : Below w.heap.size w w10 := below_laid (hbelq.trans (bel9.mono hszq2)) (by omega) g10 hg1
              have b11 : Below w.heap.size w w11 := b10.grown g11 (by have := b10.size; omega) (fun j hj => (o10.lt j hj).1)
              have r1 : OwnA w11 w.heap.size v2 (srtA (ars.take (k + 1))) := by rw [hnext.out]; exact own_ins2 o11 (insA_end hlow.out)
              clear o10 o11 g10 g11
              go_wp2
              go_roundw
              case rel => exact ⟨k + 1, by omega, by go_num, r1, b11⟩
              case measure => simp [intOf]; omega
            · go_wp2_with (at_builtin; refine wpList_append_arrs _ rfl (.tmp 45) (.tmp 48) 23 rfl wq.heap.size i0 Try.underlying23 hi hz0 hz1 hz2 _ [] rfl o0 (some ⟨g, L.length * 3, none⟩) (cap - L.length) [] rfl (.inl rfl) (by intro h; cases h) (by simp) (by simp) ?_)
              intro rest w9 o9 g9 n9
              have bel9 : Below wq.heap.size wq w9 := ba.grown g9 (by simp) (fun k hk => by simp [Value.ownBlock] at hk; omega)
              obtain ⟨g', c', e9, hg1', hg2', hc9, -, -⟩ := (o9.forms).resolve_left (fun h => n9 h.1)
              subst e9
              clear o9 g9 n9 o0 ba
              have own9 := hownq.kept bel9 (Nat.le_refl _)
              have kx9 : CA w9 bx (ox + k * 3) x := kxq.below bel9 (by omega)
              have kx9f := kx9.f
              have kx9e := kx9.e
              have kx9t := kx9.t
              have hsz9 : wq.heap.size ≤ w9.heap.size := bel9.size
              have hbx9 : bx < w9.heap.size := by omega
              have hg9 : g < w9.heap.size := by omega
              have hbg : ¬ bx = g := by omega
              have sp1 : (L.length : Int) ≤ (cap : Int) := by omega
              go_wp2
              go_region_held3 (fun w' => w'.cell? ⟨bx, ox + k * 3, none⟩ = some (.int .i64 x.f) ∧ w'.cell? ⟨bx, ox + k * 3 + 1, none⟩ = some (.int .i64 x.e) ∧ w'.cell? ⟨bx, ox + k * 3 + 2, none⟩ = some (.int .i64 x.t)) (go_keep) (first | (refine step_append_own rfl (.tmp 52) (.tmp 57) 23 rfl w.heap.size 50 i0 (aval arr0) 3 24 Try.underlying23 hi hz0 hz1 hz2 rfl (by decide) (.slice (some ⟨g, 0, none⟩) L.length cap) L.length (aflat L) rfl (ownsRow_lay own9 _) ⟨w9.heap.size, 0, none⟩ 1 1 [.int .i64 x.f, .int .i64 x.e, .int .i64 x.t] rfl rfl (cells_lay w9 _ _ _ _) (aflat_one [x]) (by unfold maxLen; omega) (by omega) (by simp; omega) ?_; intro v1 w10 o10 g10; obtain ⟨kt1, kt2, kt3⟩ := CA.laid kx9 hbx9 g10 hbg) | (refine step_append_own rfl (.tmp 58) (.tmp 59) 23 rfl w.heap.size 50 i0 (aval arr0) 3 24 Try.underlying23 hi hz0 hz1 hz2 rfl (by decide) v1 (L.length + 1) ((aflat L) ++ [.int .i64 x.f, .int .i64 x.e, .int .i64 x.t]) rfl o10 ⟨g', 0, none⟩ 0 c' [] rfl rfl (fun j u hu => by simp at hu) (fun u hu => by simp at hu) (by unfold maxLen; omega) (by omega) (by have := g10.size; simp at this; omega) ?_; intro v2 w11 o11 g11; obtain ⟨ku1, ku2, ku3⟩ := CA.laid2 ⟨kt1, kt2, kt3⟩ o10 g11 hbx))
              have b10 : Below w.heap.size w w10 := below_laid (hbelq.trans (bel9.mono hszq2)) (by omega) g10 hg1
              have b11 : Below w.heap.size w w11 := b10.grown g11 (by have := b10.size; omega) (fun j hj => (o10.lt j hj).1)
              have r1 : OwnA w11 w.heap.size v2 (srtA (ars.take (k + 1))) := by rw [hnext.out]; exact own_ins2 o11 (insA_end hlow.out)
              clear o10 o11 g10 g11
              go_wp2
              go_roundw
              case rel => exact ⟨k + 1, by omega, by go_num, r1, b11⟩
              case measure => simp [intOf]; omega
    · rw [List.take_of_length_le (by omega)] at hown
      go_wp2
      go_ret
      exact ⟨_, rfl, hown, hbel⟩

/-- What a call that hands back a slice of arrows leaves. -/
def GivesA (w : World) (L : List Arr) (e : Ending) (w' : World) : Prop := ∃ a cap, e = .returned (.slice a L.length cap) ∧ AtA w' a L ∧ L.length ≤ cap ∧ cap ≤ maxLen ∧ (a = none → cap = 0) ∧ Below w.heap.size w w'

set_option maxHeartbeats 400000 in
theorem refSort_nil (a : Option Addr) (cx : Nat) (w : World) :
    Calls Try.prog 21 #[.slice a 0 cx] w fun e w' => e = .returned (.slice none 0 0) ∧ w' = w := by
  go_enter Try.func21, Try.ntmps21
  go_wp2
  refine wp_loop_rounds 1 ?_
  rw [rounds_succ]
  go_wp2
  go_ret
  exact ⟨rfl, rfl⟩

theorem refSort_any (a : Option Addr) (cx : Nat) (ars : List Arr) (w : World) (hs : AtA w a ars) (hl : ars.length ≤ 1073741824) :
    Calls Try.prog 21 #[.slice a ars.length cx] w fun e w' => GivesA w (srtA ars) e w' := by
  rcases hs with rfl | ⟨b, off, rfl, hb, hc⟩
  · refine (refSort_nil a cx w).mono ?_
    rintro e w' ⟨rfl, rfl⟩
    exact ⟨none, 0, rfl, .inl rfl, Nat.le_refl _, Nat.zero_le _, fun _ => rfl, Below.refl _ _⟩
  · refine (refSort_some b off cx ars w hl hb hc).mono ?_
    rintro e w' ⟨v, rfl, h1, h2⟩
    obtain ⟨a, cap, rfl, r1, r2, r3, r4⟩ := h1.at
    exact ⟨a, cap, rfl, r1, r2, r3, r4, h2⟩

end Go.Proofs.Ytialjbdfkhfcoab
