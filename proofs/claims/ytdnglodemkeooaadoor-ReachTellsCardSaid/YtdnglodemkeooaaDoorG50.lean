/-
  The walk of jalousieref2.Sort: arrows put in order: it answers 'srtA'.
  The walk of jalousieref3.Trim.
-/
import Derived.BigQuiet
import Derived.Deep.RegionHeld3
import Derived.Deep.RegionLaw
import Derived.Test.YtdnglodemkeooaaDoorG05
import Derived.Test.YtdnglodemkeooaaDoorG11
import Derived.Test.YtdnglodemkeooaaDoorG18
import Derived.Laws.ResultCell
import Derived.Test.YtdnglodemkeooaaDoorG49
import Derived.Test.YtdnglodemkeooaaDoorG03
import Derived.Test.YtdnglodemkeooaaDoorCTrimBase
namespace Go.Proofs.YtdnglodemkeooaaDoor
open Go.RowKit
set_option linter.unusedVariables false

/-- Three cells hold an arrow. -/
structure CA (w : World) (b off : Nat) (a : Arr) : Prop where
  f : w.cell? ⟨b, off, none⟩ = some (.int .i64 a.f)
  e : w.cell? ⟨b, off + 1, none⟩ = some (.int .i64 a.e)
  t : w.cell? ⟨b, off + 2, none⟩ = some (.int .i64 a.t)

theorem CA.below {w w' : World} {b off B : Nat} {a : Arr} (h : CA w b off a) (hb : Below B w w') (hB : b < B) : CA w' b off a :=
  ⟨(hb.cell (p := ⟨b, off, none⟩) hB).trans h.f, (hb.cell (p := ⟨b, off + 1, none⟩) hB).trans h.e, (hb.cell (p := ⟨b, off + 2, none⟩) hB).trans h.t⟩

theorem CA.after {wr w1 : World} {b off : Nat} {a : Arr} (h : CA wr b off a) (hb : Below wr.drew.heap.size wr.drew w1) (hlt : b < wr.heap.size) : CA w1 b off a :=
  CA.below (w := wr.drew) (B := wr.drew.heap.size) ⟨h.f, h.e, h.t⟩ hb hlt

theorem CA.grown {w w' : World} {b off : Nat} {a : Arr} {row : Option Nat} (h : CA w b off a) (hg : w.grownBy w' row) (hne : some b ≠ row) : CA w' b off a :=
  ⟨hg.cell h.f hne, hg.cell h.e hne, hg.cell h.t hne⟩

theorem CellsA.ca {w : World} {b off k : Nat} {ars : List Arr} (hc : CellsA w b off ars) (h : k < ars.length) : ∃ a, Hid (a = ars[k]?.getD arr0) ∧ CA w b (off + k * 3) a :=
  ⟨_, rfl, (hc k h).1, (hc k h).2.1, (hc k h).2.2⟩

theorem cellsA_drop {w : World} {b : Nat} {L : List Arr} (h : CellsA w b 0 L) (p : Nat) : CellsA w b (p * 3) (L.drop p) := fun j hj => by
  rw [List.length_drop] at hj
  have := h (p + j) (by omega)
  rw [List.getElem?_drop]
  rw [show 0 + (p + j) * 3 = p * 3 + j * 3 by omega] at this
  exact this

theorem own_take {w : World} {B g cap p : Nat} {L : List Arr} (h : OwnA w B (.slice (some ⟨g, 0, none⟩) L.length cap) L) (hp : p ≤ L.length) : w.ownsRow B 58 3 (.slice (some ⟨g, 0, none⟩) p cap) p (aflat (L.take p)) := by
  have := h.take hp
  unfold OwnA at this
  rwa [show (L.take p).length = p by rw [List.length_take]; omega] at this
theorem ownsRow_lay {w : World} {B n : Nat} {T : TypeId} {v : Value} {xs : List Value} (h : w.ownsRow B T 3 v n xs) (o : Obj) : (w.alloc o).drew.ownsRow B T 3 v n xs := World.ownsRow.alloc h o
theorem cells_lay (w : World) (a b c : Value) (T : TypeId) : ∀ j u, [a, b, c][j]? = some u → (w.alloc (.cells #[a, b, c] T)).drew.cell? ((⟨w.heap.size, 0, none⟩ : Addr).add j) = some u := cell_three_new w a b c T

theorem CA.laid {w w' : World} {b off g n c : Nat} {a : Arr} {o : Obj} (h : CA w b off a) (hb : b < w.heap.size) (hg : (w.alloc o).drew.grownBy w' (Value.slice (some ⟨g, 0, none⟩) n c).ownBlock) (hne : ¬ b = g) : CA w' b off a :=
  CA.grown (w := (w.alloc o).drew) ⟨(World.cell?_alloc_past _ _ _ hb).trans h.f, (World.cell?_alloc_past _ _ _ hb).trans h.e, (World.cell?_alloc_past _ _ _ hb).trans h.t⟩ hg (by simpa [Value.ownBlock] using hne)
theorem CA.laid2 {w w' : World} {b off B n : Nat} {T : TypeId} {v : Value} {xs : List Value} {a : Arr} (h : CA w b off a) (ho : w.ownsRow B T 3 v n xs) (hg : w.grownBy w' v.ownBlock) (hb : b < B) : CA w' b off a :=
  h.grown hg (fun e => by have := (ho.lt b e.symm).1; omega)
theorem news_laid {w w' : World} {b g n c : Nat} {M : List Arr} {o : Obj} (h : CellsA w b 0 M) (hb : b < w.heap.size) (hg : (w.alloc o).drew.grownBy w' (Value.slice (some ⟨g, 0, none⟩) n c).ownBlock) (hne : ¬ b = g) : ∀ j u, (aflat M)[j]? = some u → w'.cell? ((⟨b, 0, none⟩ : Addr).add j) = some u := by
  intro j u hu
  have h1 := cells_news h j u hu
  rw [addr0_add] at h1 ⊢
  exact hg.cell (a := ⟨b, 0 + j, none⟩) ((World.cell?_alloc_past _ _ _ hb).trans h1) (by simpa [Value.ownBlock] using hne)

theorem below_laid {B : Nat} {w w9 w10 : World} {g n c : Nat} {o : Obj} (h : Below B w w9) (hB : B ≤ w9.heap.size) (hg : (w9.alloc o).drew.grownBy w10 (Value.slice (some ⟨g, 0, none⟩) n c).ownBlock) (hgB : B ≤ g) : Below B w w10 :=
  (h.alloc hB o).drew.grown hg (by show B ≤ (w9.alloc o).heap.size; simp; omega) (fun k hk => by simp [Value.ownBlock] at hk; omega)
theorem own_ins {w : World} {B p : Nat} {v : Value} {L : List Arr} {x : Arr} (hp : p ≤ L.length) (h : w.ownsRow B 58 3 v (p + 1 + (L.length - p)) (aflat (L.take p) ++ [.int .i64 x.f, .int .i64 x.e, .int .i64 x.t] ++ aflat (L.drop p))) (e : insA x L = L.take p ++ x :: L.drop p) : OwnA w B v (insA x L) := by
  unfold OwnA
  rw [e, aflat_append]
  have hl : (L.take p ++ x :: L.drop p).length = p + 1 + (L.length - p) := by simp; omega
  rw [hl]
  simpa [aflat] using h

theorem own_ins2 {w : World} {B : Nat} {v : Value} {L : List Arr} {x : Arr} (h : w.ownsRow B 58 3 v (L.length + 1 + 0) (aflat L ++ [.int .i64 x.f, .int .i64 x.e, .int .i64 x.t] ++ [])) (e : insA x L = L ++ [x]) : OwnA w B v (insA x L) := by
  unfold OwnA
  rw [e, aflat_append, List.length_append]
  simpa [aflat] using h
theorem own_ins0 {w : World} {B : Nat} {v : Value} {x : Arr} (h : w.ownsRow B 58 3 v (1 + 0) ([.int .i64 x.f, .int .i64 x.e, .int .i64 x.t] ++ [])) : OwnA w B v (insA x []) := h
theorem insA_end {x : Arr} {L : List Arr} (h : ∀ j, j < L.length → aheadB (L[j]?.getD arr0) x = true) : insA x L = L ++ [x] := by
  have := insA_put (Nat.le_refl _) h (.inl rfl)
  simpa using this
theorem CA.laidN {w w' : World} {b off : Nat} {a : Arr} {o : Obj} (h : CA w b off a) (hb : b < w.heap.size) (hg : (w.alloc o).drew.grownBy w' (Value.slice none 0 0).ownBlock) : CA w' b off a :=
  CA.grown (w := (w.alloc o).drew) ⟨(World.cell?_alloc_past _ _ _ hb).trans h.f, (World.cell?_alloc_past _ _ _ hb).trans h.e, (World.cell?_alloc_past _ _ _ hb).trans h.t⟩ hg (by simp [Value.ownBlock])
theorem below_laidN {B : Nat} {w w9 w10 : World} {o : Obj} (h : Below B w w9) (hB : B ≤ w9.heap.size) (hg : (w9.alloc o).drew.grownBy w10 (Value.slice none 0 0).ownBlock) : Below B w w10 :=
  (h.alloc hB o).drew.grown hg (by show B ≤ (w9.alloc o).heap.size; simp; omega) (fun k hk => by simp [Value.ownBlock] at hk)

set_option maxHeartbeats 1000000 in
set_option maxRecDepth 100000 in
theorem refSort_some (bx ox cx : Nat) (ars : List Arr) (w : World) (hl : ars.length ≤ 1073741824) (hbx : bx < w.heap.size) (hc : CellsA w bx ox ars) :
    Calls Tryd.prog 64 #[.slice (some ⟨bx, ox, none⟩) ars.length cx] w fun e w' => ∃ v, e = .returned v ∧ OwnA w' w.heap.size v (srtA ars) ∧ Below w.heap.size w w' := by
  obtain ⟨i0, hi, hz0, hz1, hz2⟩ := info_parts Tryd.infoArrow
  go_enter Tryd.func64, Tryd.ntmps64
  go_wp2
  go_loopw [3, 4] (fun v i wr => ∃ k : Nat, k ≤ ars.length ∧ i = .int .i64 k ∧ OwnA wr w.heap.size v (srtA (ars.take k)) ∧ Below w.heap.size w wr) (fun _ i _ => ars.length - (intOf i).toNat)
  case atStart => exact ⟨0, Nat.zero_le _, rfl, ownA_nil _ _, Below.refl _ _⟩
  case round =>
    obtain ⟨k, hk, rfl, hown, hbel⟩ := hrel
    by_cases hlt : k < ars.length
    · obtain ⟨x, HX, hx0⟩ := hc.ca hlt
      obtain ⟨wo, hwo⟩ : ∃ wo : World, wo = wr := ⟨_, rfl⟩
      subst hwo
      have hnext : Hid (srtA (ars.take (k + 1)) = insA x (srtA (ars.take k))) := srtA_take hlt HX
      have hll : (srtA (ars.take k)).length ≤ k := Nat.le_trans (srtA_len _) (List.length_take_le _ _)
      generalize srtA (ars.take k) = L at *
      rcases hown.forms with ⟨rfl, rfl⟩ | ⟨g, cap, rfl, hg1, hg2, hcL, hcap, hcm⟩
      · go_wp2
        refine wp_loop_rounds 1 ?_
        rw [rounds_succ]
        go_wp2
        go_quiet (fail)
        go_wp2
        obtain ⟨wz, hwz⟩ : ∃ wz : World, wz = wo.drewN nq := ⟨_, rfl⟩
        have hbz : Below wo.heap.size wo wz := by rw [hwz]; exact below_drewN (Below.refl _ _) _
        rw [← hwz]
        clear hwz
        go_quiet (fail)
        obtain ⟨wq, hwq⟩ : ∃ wq : World, wq = wz.drewN nq := ⟨_, rfl⟩
        have hbelq : Below w.heap.size w wq := by rw [hwq]; exact below_drewN (hbel.trans (hbz.mono hbel.size)) _
        rw [← hwq]
        clear hwq
        have kxq : CA wq bx (ox + k * 3) x := hx0.below hbelq hbx
        have hszq2 := hbelq.size
        have o0 : OwnA (wq.alloc (.cells #[] 58)) wq.heap.size (.slice (some ⟨wq.heap.size, 0, none⟩) 0 0) [] := ownA_empty wq _ (Nat.le_refl _)
        have ba : Below wq.heap.size wq (wq.alloc (.cells #[] 58)) := (Below.refl _ _).alloc (Nat.le_refl _) _
        go_wp2_with (at_builtin; refine wpList_append_arrs _ rfl (.tmp 45) (.tmp 48) 23 rfl wq.heap.size i0 Tryd.underlying23 hi hz0 hz1 hz2 _ [] rfl o0 none 0 [] rfl (.inl rfl) (fun _ => rfl) (by simp) (by simp) ?_)
        intro rest w9 o9 g9 n9
        have bel9 : Below wq.heap.size wq w9 := ba.grown g9 (by simp) (fun k hk => by simp [Value.ownBlock] at hk; omega)
        obtain ⟨g', c', e9, hg1', hg2', hc9, -, -⟩ := (o9.forms).resolve_left (fun h => n9 h.1)
        subst e9
        clear o9 g9 n9 o0 ba
        have own9 : w9.ownsRow w.heap.size 58 3 (.slice none 0 0) 0 [] := World.ownsRow_nil _ _ _ _
        have kx9 : CA w9 bx (ox + k * 3) x := kxq.below bel9 (by omega)
        have kx9f := kx9.f
        have kx9e := kx9.e
        have kx9t := kx9.t
        have hsz9 : wq.heap.size ≤ w9.heap.size := bel9.size
        have hbx9 : bx < w9.heap.size := by omega
        go_wp2
        go_region_held3 (fun w' => w'.cell? ⟨bx, ox + k * 3, none⟩ = some (.int .i64 x.f) ∧ w'.cell? ⟨bx, ox + k * 3 + 1, none⟩ = some (.int .i64 x.e) ∧ w'.cell? ⟨bx, ox + k * 3 + 2, none⟩ = some (.int .i64 x.t)) (go_keep) (first | (refine step_append_own rfl (.tmp 52) (.tmp 57) 23 rfl w.heap.size 58 i0 (aval arr0) 3 24 Tryd.underlying23 hi hz0 hz1 hz2 rfl (by decide) (.slice none 0 0) 0 [] rfl (ownsRow_lay own9 _) ⟨w9.heap.size, 0, none⟩ 1 1 [.int .i64 x.f, .int .i64 x.e, .int .i64 x.t] rfl rfl (cells_lay w9 _ _ _ _) (aflat_one [x]) (by unfold maxLen; omega) (by omega) (by simp; omega) ?_; intro v1 w10 o10 g10; obtain ⟨kt1, kt2, kt3⟩ := CA.laidN kx9 hbx9 g10) | (refine step_append_own rfl (.tmp 58) (.tmp 59) 23 rfl w.heap.size 58 i0 (aval arr0) 3 24 Tryd.underlying23 hi hz0 hz1 hz2 rfl (by decide) v1 1 ([.int .i64 x.f, .int .i64 x.e, .int .i64 x.t]) rfl o10 ⟨g', 0, none⟩ 0 c' [] rfl rfl (fun j u hu => by simp at hu) (fun u hu => by simp at hu) (by unfold maxLen; omega) (by omega) (by have := g10.size; simp at this; omega) ?_; intro v2 w11 o11 g11; obtain ⟨ku1, ku2, ku3⟩ := CA.laid2 ⟨kt1, kt2, kt3⟩ o10 g11 hbx))
        have b10 : Below w.heap.size w w10 := below_laidN (hbelq.trans (bel9.mono hszq2)) (by omega) g10
        have b11 : Below w.heap.size w w11 := b10.grown g11 (by have := b10.size; omega) (fun j hj => (o10.lt j hj).1)
        have r1 : OwnA w11 w.heap.size v2 (srtA (ars.take (k + 1))) := by rw [hnext.out]; exact own_ins0 o11
        clear o10 o11 g10 g11
        go_wp2
        go_roundw
        case rel => exact ⟨k + 1, by omega, by go_num, r1, b11⟩
        case measure => simp [intOf]; omega
      · go_wp2
        go_loopw [5] (fun i wr' => ∃ p : Nat, p ≤ L.length ∧ i = .int .i64 p ∧ Below wo.heap.size wo wr' ∧ Hid (∀ j, j < p → aheadB (L[j]?.getD arr0) x = true)) (fun i _ => L.length - (intOf i).toNat)
        case atStart => exact ⟨0, Nat.zero_le _, rfl, Below.refl _ _, fun j hj => by omega⟩
        case round =>
          obtain ⟨p, hp, rfl, hbq, hlow⟩ := hrel
          have hszq := hbq.size
          have hxr := (hx0.below hbel hbx).below hbq (by have := hbel.size; omega)
          have x1 := hxr.f
          have x2 := hxr.e
          have x3 := hxr.t
          by_cases hpl : p < L.length
          · obtain ⟨y, HY, hy0⟩ := hcL.ca hpl
            have hyr := hy0.below hbq hg2
            rw [Nat.zero_add] at hyr
            have y1 := hyr.f
            have y2 := hyr.e
            have y3 := hyr.t
            by_cases c1 : aheadB y x = true
            · have hgq : g < wr.heap.size := by omega
              have hbq2 : bx < wr.heap.size := by have := hbel.size; omega
              go_wp2
              go_region_held3 (fun w' => w'.cell? ⟨g, p * 3, none⟩ = some (.int .i64 y.f) ∧ w'.cell? ⟨g, p * 3 + 1, none⟩ = some (.int .i64 y.e) ∧ w'.cell? ⟨g, p * 3 + 2, none⟩ = some (.int .i64 y.t) ∧ w'.cell? ⟨bx, ox + k * 3, none⟩ = some (.int .i64 x.f) ∧ w'.cell? ⟨bx, ox + k * 3 + 1, none⟩ = some (.int .i64 x.e) ∧ w'.cell? ⟨bx, ox + k * 3 + 2, none⟩ = some (.int .i64 x.t)) (go_keep) (first | (go_at_call 48; refine (refAhead_any y x _).mono ?_; rintro e w1 ⟨rfl, hb1⟩; obtain ⟨ky1, ky2, ky3⟩ := CA.after hyr hb1 hgq; obtain ⟨kx1, kx2, kx3⟩ := CA.after hxr hb1 hbq2))
              go_wp2
              go_roundw
              case rel => exact ⟨p + 1, by omega, by go_num, hbq.drew.trans (hb1.mono hszq), fun j hj => by
                by_cases e : j = p
                · subst e; rw [← HY.out]; exact c1
                · exact hlow.out j (by omega)⟩
              case measure => simp [intOf]; omega
            · have c1' : aheadB y x = false := by simpa using c1
              have C1 : Hid (aheadB y x = false) := c1'
              clear c1
              have hgq : g < wr.heap.size := by omega
              have hbq2 : bx < wr.heap.size := by have := hbel.size; omega
              have heq : ∀ w : World, (Op.equalIn 10000 58 (.agg #[.int .i64 y.f, .int .i64 y.e, .int .i64 y.t]) (.agg #[.int .i64 x.f, .int .i64 x.e, .int .i64 x.t])).run Tryd.prog w = .ok (arrEqB y x) w := run_equalIn_arrow y x
              have hgd := run_guard_arrow
              go_wp2
              go_region_held3 (fun w' => w'.cell? ⟨g, p * 3, none⟩ = some (.int .i64 y.f) ∧ w'.cell? ⟨g, p * 3 + 1, none⟩ = some (.int .i64 y.e) ∧ w'.cell? ⟨g, p * 3 + 2, none⟩ = some (.int .i64 y.t) ∧ w'.cell? ⟨bx, ox + k * 3, none⟩ = some (.int .i64 x.f) ∧ w'.cell? ⟨bx, ox + k * 3 + 1, none⟩ = some (.int .i64 x.e) ∧ w'.cell? ⟨bx, ox + k * 3 + 2, none⟩ = some (.int .i64 x.t)) (go_keep) (first | (go_at_call 48; refine (refAhead_any y x _).mono ?_; rintro e w1 ⟨rfl, hb1⟩; obtain ⟨ky1, ky2, ky3⟩ := CA.after hyr hb1 hgq; obtain ⟨kx1, kx2, kx3⟩ := CA.after hxr hb1 hbq2))
              have hbo : Below wo.heap.size wo w1 := hbq.drew.trans (hb1.mono hszq)
              clear hb1 hbq hxr hyr x1 x2 x3 y1 y2 y3
              by_cases hq : arrEq y x
              · have HQ : Hid (arrEq y x) := hq
                have fq : arrEqB y x = true := by simp [arrEqB, hq]
                clear hq
                have E2 : Hid (srtA (ars.take (k + 1)) = L) := by show _ = _; rw [hnext.out]; exact insA_same hpl hlow.out (by rw [← HY.out]; exact C1.out) (by rw [← HY.out]; exact HQ.out)
                go_wp2
                go_quiet (fail)
                go_wp2
                go_roundw
                case rel => exact ⟨k + 1, by omega, by go_num, by rw [E2.out]; exact (hown.kept hbo (Nat.le_refl _)).kept (below_drewN (Below.refl _ _) _) (Nat.le_refl _), below_drewN (hbel.trans (hbo.mono hbel.size)) _⟩
                case measure => simp [intOf]; omega
              · have HQ : Hid (¬ arrEq y x) := hq
                have fq : arrEqB y x = false := by simp [arrEqB, hq]
                clear hq
                go_wp2
                go_quiet (fail)
                obtain ⟨wq, hwq⟩ : ∃ wq : World, wq = w1.drewN nq := ⟨_, rfl⟩
                have hownq : OwnA wq w.heap.size (.slice (some ⟨g, 0, none⟩) L.length cap) L := by rw [hwq]; exact (hown.kept hbo (Nat.le_refl _)).kept (below_drewN (Below.refl _ _) _) (Nat.le_refl _)
                have hbelq : Below w.heap.size w wq := by rw [hwq]; exact below_drewN (hbel.trans (hbo.mono hbel.size)) _
                rw [← hwq]
                clear hwq
                have HE : Hid (p = L.length ∨ (aheadB (L[p]?.getD arr0) x = false ∧ ¬ arrEq (L[p]?.getD arr0) x)) := .inr (by rw [← HY.out]; exact ⟨C1.out, HQ.out⟩)
                have kxq : CA wq bx (ox + k * 3) x := hx0.below hbelq hbx
                obtain ⟨g0, cap0, e0, hg1q, hgq2, hcLq, hcap0, hcm0⟩ := (hownq.forms).resolve_left (by rintro ⟨h, _⟩; cases h)
                simp only [Value.slice.injEq, Option.some.injEq, Addr.mk.injEq, and_true, true_and] at e0
                obtain ⟨rfl, rfl⟩ := e0
                have hszq2 := hbelq.size
                have o0 : OwnA (wq.alloc (.cells #[] 58)) wq.heap.size (.slice (some ⟨wq.heap.size, 0, none⟩) 0 0) [] := ownA_empty wq _ (Nat.le_refl _)
                have ba : Below wq.heap.size wq (wq.alloc (.cells #[] 58)) := (Below.refl _ _).alloc (Nat.le_refl _) _
                have hne : ¬ cap = p := by omega
                have a0 : AtA (wq.alloc (.cells #[] 58)) (some ⟨g, p * 3, none⟩) (L.drop p) := AtA.below (.inr ⟨g, p * 3, rfl, hgq2, cellsA_drop hcLq p⟩) ba (Nat.le_refl _)
                have dl : (L.drop p).length = L.length - p := List.length_drop ..
                have DL : Hid ((L.drop p).length = L.length - p) := dl
                clear dl
                go_wp2_with (at_builtin; refine wpList_append_arrs _ rfl (.tmp 45) (.tmp 48) 23 rfl wq.heap.size i0 Tryd.underlying23 hi hz0 hz1 hz2 _ [] rfl o0 (some ⟨g, p * 3, none⟩) (cap - p) (L.drop p) (by rw [DL.out]; rfl) a0 (by intro h; cases h) (by rw [DL.out]; simp only [List.length_nil]; omega) (by simp) ?_)
                intro rest w9 o9 g9 n9
                have bel9 : Below wq.heap.size wq w9 := ba.grown g9 (by simp) (fun k hk => by simp [Value.ownBlock] at hk; omega)
                obtain ⟨g', c', e9, hg1', hg2', hc9, -, -⟩ := (o9.forms).resolve_left (fun h => n9 h.1)
                subst e9
                clear o9 g9 n9 o0 ba a0
                have own9 := hownq.kept bel9 (Nat.le_refl _)
                have hT9 : w9.ownsRow w.heap.size 58 3 (.slice (some ⟨g, 0, none⟩) p cap) p (aflat (L.take p)) := own_take own9 hp
                have kx9 : CA w9 bx (ox + k * 3) x := kxq.below bel9 (by omega)
                have kx9f := kx9.f
                have kx9e := kx9.e
                have kx9t := kx9.t
                have hsz9 : wq.heap.size ≤ w9.heap.size := bel9.size
                have hbx9 : bx < w9.heap.size := by omega
                have hg9 : g < w9.heap.size := by omega
                have hgg : ¬ g' = g := by omega
                have hbg : ¬ bx = g := by omega
                have sp1 : (p : Int) ≤ (cap : Int) := by omega
                have sp2 : p ≤ cap := by omega
                have sp3 : p ≤ L.length := hp
                rw [DL.out]
                go_wp2
                go_region_held3 (fun w' => w'.cell? ⟨bx, ox + k * 3, none⟩ = some (.int .i64 x.f) ∧ w'.cell? ⟨bx, ox + k * 3 + 1, none⟩ = some (.int .i64 x.e) ∧ w'.cell? ⟨bx, ox + k * 3 + 2, none⟩ = some (.int .i64 x.t)) (go_keep) (first | (refine step_append_own rfl (.tmp 52) (.tmp 57) 23 rfl w.heap.size 58 i0 (aval arr0) 3 24 Tryd.underlying23 hi hz0 hz1 hz2 rfl (by decide) (.slice (some ⟨g, 0, none⟩) p cap) p (aflat (L.take p)) rfl (ownsRow_lay hT9 _) ⟨w9.heap.size, 0, none⟩ 1 1 [.int .i64 x.f, .int .i64 x.e, .int .i64 x.t] rfl rfl (cells_lay w9 _ _ _ _) (aflat_one [x]) (by unfold maxLen; omega) (by omega) (by simp; omega) ?_; intro v1 w10 o10 g10; obtain ⟨kt1, kt2, kt3⟩ := CA.laid kx9 hbx9 g10 hbg; have hn10 := news_laid hc9 hg2' g10 hgg) | (refine step_append_own rfl (.tmp 58) (.tmp 59) 23 rfl w.heap.size 58 i0 (aval arr0) 3 24 Tryd.underlying23 hi hz0 hz1 hz2 rfl (by decide) v1 (p + 1) (aflat (L.take p) ++ [.int .i64 x.f, .int .i64 x.e, .int .i64 x.t]) rfl o10 ⟨g', 0, none⟩ (L.length - p) c' (aflat (L.drop p)) rfl (by rw [aflat_len, List.length_drop]) hn10 (aflat_one _) (by unfold maxLen; omega) (by omega) (by have := g10.size; simp at this; omega) ?_; intro v2 w11 o11 g11; obtain ⟨ku1, ku2, ku3⟩ := CA.laid2 ⟨kt1, kt2, kt3⟩ o10 g11 hbx))
                have b10 : Below w.heap.size w w10 := below_laid (hbelq.trans (bel9.mono hszq2)) (by omega) g10 hg1q
                have b11 : Below w.heap.size w w11 := b10.grown g11 (by have := b10.size; omega) (fun j hj => (o10.lt j hj).1)
                have r1 : OwnA w11 w.heap.size v2 (srtA (ars.take (k + 1))) := by rw [hnext.out]; exact own_ins hp o11 (insA_put hp hlow.out HE.out)
                clear o10 o11 g10 g11 hT9 own9 hc9
                go_wp2
                go_roundw
                case rel => exact ⟨k + 1, by omega, by go_num, r1, b11⟩
                case measure => simp [intOf]; omega
          · obtain rfl : p = L.length := by omega
            go_wp2
            go_quiet (fail)
            go_wp2
            obtain ⟨wz, hwz⟩ : ∃ wz : World, wz = wr.drewN nq := ⟨_, rfl⟩
            have hbz : Below wo.heap.size wo wz := by rw [hwz]; exact below_drewN hbq _
            rw [← hwz]
            clear hwz hbq hxr x1 x2 x3
            go_quiet (fail)
            obtain ⟨wq, hwq⟩ : ∃ wq : World, wq = wz.drewN nq := ⟨_, rfl⟩
            have hownq : OwnA wq w.heap.size (.slice (some ⟨g, 0, none⟩) L.length cap) L := by rw [hwq]; exact (hown.kept hbz (Nat.le_refl _)).kept (below_drewN (Below.refl _ _) _) (Nat.le_refl _)
            have hbelq : Below w.heap.size w wq := by rw [hwq]; exact below_drewN (hbel.trans (hbz.mono hbel.size)) _
            rw [← hwq]
            clear hwq
            have kxq : CA wq bx (ox + k * 3) x := hx0.below hbelq hbx
            have hgq2 : g < wq.heap.size := (hownq.lt g rfl).2
            have hszq2 := hbelq.size
            have o0 : OwnA (wq.alloc (.cells #[] 58)) wq.heap.size (.slice (some ⟨wq.heap.size, 0, none⟩) 0 0) [] := ownA_empty wq _ (Nat.le_refl _)
            have ba : Below wq.heap.size wq (wq.alloc (.cells #[] 58)) := (Below.refl _ _).alloc (Nat.le_refl _) _
            by_cases hcp : cap = L.length
            · subst hcp
              go_wp2_with (at_builtin; refine wpList_append_arrs _ rfl (.tmp 45) (.tmp 48) 23 rfl wq.heap.size i0 Tryd.underlying23 hi hz0 hz1 hz2 _ [] rfl o0 (some ⟨g, 0, none⟩) 0 [] rfl (.inl rfl) (by intro h; cases h) (by simp) (by simp) ?_)
              intro rest w9 o9 g9 n9
              have bel9 : Below wq.heap.size wq w9 := ba.grown g9 (by simp) (fun k hk => by simp [Value.ownBlock] at hk; omega)
              obtain ⟨g', c', e9, hg1', hg2', hc9, -, -⟩ := (o9.forms).resolve_left (fun h => n9 h.1)
              subst e9
              clear o9 g9 n9 o0 ba
              have own9 := hownq.kept bel9 (Nat.le_refl _)
              have kx9 : CA w9 bx (ox + k * 3) x := kxq.below bel9 (by omega)
              have kx9f := kx9.f
              have kx9e := kx9.e
              have kx9t := kx9.t
              have hsz9 : wq.heap.size ≤ w9.heap.size := bel9.size
              have hbx9 : bx < w9.heap.size := by omega
              have hg9 : g < w9.heap.size := by omega
              have hbg : ¬ bx = g := by omega
              have sp1 : (L.length : Int) ≤ (L.length : Int) := by omega
              go_wp2
              go_region_held3 (fun w' => w'.cell? ⟨bx, ox + k * 3, none⟩ = some (.int .i64 x.f) ∧ w'.cell? ⟨bx, ox + k * 3 + 1, none⟩ = some (.int .i64 x.e) ∧ w'.cell? ⟨bx, ox + k * 3 + 2, none⟩ = some (.int .i64 x.t)) (go_keep) (first | (refine step_append_own rfl (.tmp 52) (.tmp 57) 23 rfl w.heap.size 58 i0 (aval arr0) 3 24 Tryd.underlying23 hi hz0 hz1 hz2 rfl (by decide) (.slice (some ⟨g, 0, none⟩) L.length L.length) L.length (aflat L) rfl (ownsRow_lay own9 _) ⟨w9.heap.size, 0, none⟩ 1 1 [.int .i64 x.f, .int .i64 x.e, .int .i64 x.t] rfl rfl (cells_lay w9 _ _ _ _) (aflat_one [x]) (by unfold maxLen; omega) (by omega) (by simp; omega) ?_; intro v1 w10 o10 g10; obtain ⟨kt1, kt2, kt3⟩ := CA.laid kx9 hbx9 g10 hbg) | (refine step_append_own rfl (.tmp 58) (.tmp 59) 23 rfl w.heap.size 58 i0 (aval arr0) 3 24 Tryd.underlying23 hi hz0 hz1 hz2 rfl (by decide) v1 (L.length + 1) ((aflat L) ++ [.int .i64 x.f, .int .i64 x.e, .int .i64 x.t]) rfl o10 ⟨g', 0, none⟩ 0 c' [] rfl rfl (fun j u hu => by simp at hu) (fun u hu => by simp at hu) (by unfold maxLen; omega) (by omega) (by have := g10.size; simp at this; omega) ?_; intro v2 w11 o11 g11; obtain ⟨ku1, ku2, ku3⟩ := CA.laid2 ⟨kt1, kt2, kt3⟩ o10 g11 hbx))
              have b10 : Below w.heap.size w w10 := below_laid (hbelq.trans (bel9.mono hszq2)) (by omega) g10 hg1
              have b11 : Below w.heap.size w w11 := b10.grown g11 (by have := b10.size; omega) (fun j hj => (o10.lt j hj).1)
              have r1 : OwnA w11 w.heap.size v2 (srtA (ars.take (k + 1))) := by rw [hnext.out]; exact own_ins2 o11 (insA_end hlow.out)
              clear o10 o11 g10 g11
              go_wp2
              go_roundw
              case rel => exact ⟨k + 1, by omega, by go_num, r1, b11⟩
              case measure => simp [intOf]; omega
            · go_wp2_with (at_builtin; refine wpList_append_arrs _ rfl (.tmp 45) (.tmp 48) 23 rfl wq.heap.size i0 Tryd.underlying23 hi hz0 hz1 hz2 _ [] rfl o0 (some ⟨g, L.length * 3, none⟩) (cap - L.length) [] rfl (.inl rfl) (by intro h; cases h) (by simp) (by simp) ?_)
              intro rest w9 o9 g9 n9
              have bel9 : Below wq.heap.size wq w9 := ba.grown g9 (by simp) (fun k hk => by simp [Value.ownBlock] at hk; omega)
              obtain ⟨g', c', e9, hg1', hg2', hc9, -, -⟩ := (o9.forms).resolve_left (fun h => n9 h.1)
              subst e9
              clear o9 g9 n9 o0 ba
              have own9 := hownq.kept bel9 (Nat.le_refl _)
              have kx9 : CA w9 bx (ox + k * 3) x := kxq.below bel9 (by omega)
              have kx9f := kx9.f
              have kx9e := kx9.e
              have kx9t := kx9.t
              have hsz9 : wq.heap.size ≤ w9.heap.size := bel9.size
              have hbx9 : bx < w9.heap.size := by omega
              have hg9 : g < w9.heap.size := by omega
              have hbg : ¬ bx = g := by omega
              have sp1 : (L.length : Int) ≤ (cap : Int) := by omega
              go_wp2
              go_region_held3 (fun w' => w'.cell? ⟨bx, ox + k * 3, none⟩ = some (.int .i64 x.f) ∧ w'.cell? ⟨bx, ox + k * 3 + 1, none⟩ = some (.int .i64 x.e) ∧ w'.cell? ⟨bx, ox + k * 3 + 2, none⟩ = some (.int .i64 x.t)) (go_keep) (first | (refine step_append_own rfl (.tmp 52) (.tmp 57) 23 rfl w.heap.size 58 i0 (aval arr0) 3 24 Tryd.underlying23 hi hz0 hz1 hz2 rfl (by decide) (.slice (some ⟨g, 0, none⟩) L.length cap) L.length (aflat L) rfl (ownsRow_lay own9 _) ⟨w9.heap.size, 0, none⟩ 1 1 [.int .i64 x.f, .int .i64 x.e, .int .i64 x.t] rfl rfl (cells_lay w9 _ _ _ _) (aflat_one [x]) (by unfold maxLen; omega) (by omega) (by simp; omega) ?_; intro v1 w10 o10 g10; obtain ⟨kt1, kt2, kt3⟩ := CA.laid kx9 hbx9 g10 hbg) | (refine step_append_own rfl (.tmp 58) (.tmp 59) 23 rfl w.heap.size 58 i0 (aval arr0) 3 24 Tryd.underlying23 hi hz0 hz1 hz2 rfl (by decide) v1 (L.length + 1) ((aflat L) ++ [.int .i64 x.f, .int .i64 x.e, .int .i64 x.t]) rfl o10 ⟨g', 0, none⟩ 0 c' [] rfl rfl (fun j u hu => by simp at hu) (fun u hu => by simp at hu) (by unfold maxLen; omega) (by omega) (by have := g10.size; simp at this; omega) ?_; intro v2 w11 o11 g11; obtain ⟨ku1, ku2, ku3⟩ := CA.laid2 ⟨kt1, kt2, kt3⟩ o10 g11 hbx))
              have b10 : Below w.heap.size w w10 := below_laid (hbelq.trans (bel9.mono hszq2)) (by omega) g10 hg1
              have b11 : Below w.heap.size w w11 := b10.grown g11 (by have := b10.size; omega) (fun j hj => (o10.lt j hj).1)
              have r1 : OwnA w11 w.heap.size v2 (srtA (ars.take (k + 1))) := by rw [hnext.out]; exact own_ins2 o11 (insA_end hlow.out)
              clear o10 o11 g10 g11
              go_wp2
              go_roundw
              case rel => exact ⟨k + 1, by omega, by go_num, r1, b11⟩
              case measure => simp [intOf]; omega
    · rw [List.take_of_length_le (by omega)] at hown
      go_wp2
      go_ret
      exact ⟨_, rfl, hown, hbel⟩

/-- What a call that hands back a slice of arrows leaves. -/
def GivesA (w : World) (L : List Arr) (e : Ending) (w' : World) : Prop := ∃ a cap, e = .returned (.slice a L.length cap) ∧ AtA w' a L ∧ L.length ≤ cap ∧ cap ≤ maxLen ∧ (a = none → cap = 0) ∧ Below w.heap.size w w'

set_option maxHeartbeats 400000 in
theorem refSort_nil (a : Option Addr) (cx : Nat) (w : World) :
    Calls Tryd.prog 64 #[.slice a 0 cx] w fun e w' => e = .returned (.slice none 0 0) ∧ w' = w := by
  go_enter Tryd.func64, Tryd.ntmps64
  go_wp2
  refine wp_loop_rounds 1 ?_
  rw [rounds_succ]
  go_wp2
  go_ret
  exact ⟨rfl, rfl⟩

theorem refSort_any (a : Option Addr) (cx : Nat) (ars : List Arr) (w : World) (hs : AtA w a ars) (hl : ars.length ≤ 1073741824) :
    Calls Tryd.prog 64 #[.slice a ars.length cx] w fun e w' => GivesA w (srtA ars) e w' := by
  rcases hs with rfl | ⟨b, off, rfl, hb, hc⟩
  · refine (refSort_nil a cx w).mono ?_
    rintro e w' ⟨rfl, rfl⟩
    exact ⟨none, 0, rfl, .inl rfl, Nat.le_refl _, Nat.zero_le _, fun _ => rfl, Below.refl _ _⟩
  · refine (refSort_some b off cx ars w hl hb hc).mono ?_
    rintro e w' ⟨v, rfl, h1, h2⟩
    obtain ⟨a, cap, rfl, r1, r2, r3, r4⟩ := h1.at
    exact ⟨a, cap, rfl, r1, r2, r3, r4, h2⟩

end Go.Proofs.YtdnglodemkeooaaDoor
namespace Go.Proofs.YtdnglodemkeooaaDoor
open Go.RowKit
set_option linter.unusedVariables false

theorem reach_len {m : Mach} (hm : mayB m = true) : (reachL m).length ≤ 2000000 := by
  have hz := mayB_size hm
  have hr := mayB_starts hm
  unfold sizeOk at hz
  unfold rowB at hr
  have h1 := goIs_len _ _ _ (by omega) hr
  have h2 := srt_len (closeN (·.f) (·.t) m.arrows m.st.toNat m.starts)
  have h3 := closeN_len (fr := (·.f)) (to := (·.t)) hz.2.2.2.2 m.st.toNat m.starts
  unfold reachL
  omega
theorem trim_len {m : Mach} (hm : mayB m = true) : (trimL m).length ≤ 2000000 := Nat.le_trans (List.length_filter_le _ _) (reach_len hm)
theorem onlyO_any (a ay : Option Addr) (cx cy : Nat) (xs ys : List Int) (bb : Bool) (w : World) (hs : At w a xs) (hl : xs.length ≤ 17592186044416) (ht : At w ay ys) (hm : ys.length ≤ maxLen) :
    Calls Tryd.prog 54 #[.slice a xs.length cx, .slice ay ys.length cy, .bool bb] w fun e w' => GivesO w (xs.filter (fun n => hasB ys n == bb)) e w' := by
  rcases hs with rfl | ⟨b, off, rfl, hb, hc⟩
  · refine (only_nil a ay cx cy ys bb w).mono ?_
    rintro e w' ⟨rfl, rfl⟩
    exact ⟨_, rfl, own_nil _ _, Below.refl _ _⟩
  · refine (only_some b off cx cy ay xs ys bb w hl hb hc ht hm).mono ?_
    rintro e w' ⟨v, rfl, h1, h2⟩
    exact ⟨v, rfl, h1, h2⟩
theorem results_mach {fn : Func} {p u : Tmp} (h : fn.results = #[.cell p 25, .tmp u]) (tmps : Array Value) (w : World) (g : Nat) (m : Mach) (l : ML) (v : Value) (hp : tmps.getD p undef = .pointer (some ⟨g, 0, none⟩)) (hu : tmps.getD u undef = v) (hB : Blk w g 25 (mcells m l)) :
    (results fn tmps).run Tryd.prog w = .ok (.tuple #[mval m l, v]) w := by
  obtain ⟨x0, x1, x2, x3, x4⟩ := mcell_at hB
  rw [results_cell_tmp h, hp, hu]
  go_simp

/-- What Trim leaves. -/
def TrimGives (w : World) (m : Mach) (e : Ending) (w' : World) : Prop := ∃ (L : ML) (ba : Option Addr) (bc : Nat), e = .returned (.tuple #[mval (trimM m) L, .slice ba (trimL m).length bc]) ∧ MAt w' (trimM m) L ∧ At w' ba (trimL m) ∧ (trimL m).length ≤ maxLen ∧ Below w.heap.size w w'
set_option maxHeartbeats 4000000 in
set_option maxRecDepth 100000 in
theorem refTrim_nz (m : Mach) (l : ML) (w : World) (hm : Hid (mayB m = true)) (h : Hid (MAt w m l)) (hz : ¬ (trimL m).length = 0) :
    Calls Tryd.prog 32 #[mval m l] w fun e w' => TrimGives w m e w' := by
  have B0 : Hid (Below w.heap.size w ((w.alloc (.cells (mcells m l) 25)).alloc (.cells zcells 25))) := ((Below.refl _ _).alloc (Nat.le_refl _) _).alloc (by simp) _
  have K0 := Hid.of ((Blk.new w 25 (mcells m l)).alloc (.cells zcells 25))
  have R0 : Hid (Blk ((w.alloc (.cells (mcells m l) 25)).alloc (.cells zcells 25)) (w.heap.size + 1) 25 zcells) := by
    have := Blk.new (w.alloc (.cells (mcells m l) 25)) 25 zcells
    rwa [World.size_alloc] at this
  obtain ⟨i0, hi, hz0, hz1, hz2⟩ := info_parts Tryd.infoArrow
  have hsz0 : Hid (m.arrows.length ≤ 1000000) := by have := mayB_size hm.out; unfold sizeOk at this; show _ ≤ _; omega
  go_enter Tryd.func32, Tryd.ntmps32
  go_wp2_with fail
  refine (refReach_any m l _ hm.out (h.out.below B0.out (Nat.le_refl _))).mono ?_
  rintro e w1 ⟨ra, rc, rfl, at1, ln1, hb⟩
  have B1 := Hid.of (B0.out.trans (hb.mono B0.out.size))
  have K1 := Hid.of (K0.out.below hb K0.out.lt)
  have R1 := Hid.of (R0.out.below hb R0.out.lt)
  have A1 := Hid.of at1
  obtain ⟨x0, x1, x2, x3, x4⟩ := mcell_at K1.out
  clear hb at1
  go_wp2_with fail
  refine (refLive_any m l _ hm.out (h.out.below B1.out (Nat.le_refl _))).mono ?_
  rintro e w2 ⟨va, vc, rfl, at2, ln2, hb⟩
  have B2 := Hid.of (B1.out.trans (hb.mono B1.out.size))
  have K2 := Hid.of (K1.out.below hb K1.out.lt)
  have R2 := Hid.of (R1.out.below hb R1.out.lt)
  have A1 := Hid.of (A1.out.below hb (Nat.le_refl _))
  have A2 := Hid.of at2
  clear hb at2 x0 x1 x2 x3 x4
  obtain ⟨x0, x1, x2, x3, x4⟩ := mcell_at K2.out
  have r2 := R2.out.lt
  go_wp2_with fail
  refine (onlyO_any ra va rc vc (reachL m) (liveL m) true _ A1.out (by have := reach_len hm.out; omega) A2.out ln2).mono ?_
  rintro e w3 ⟨v3, rfl, o3, hb⟩
  obtain ⟨T, hT⟩ : ∃ T, T = trimL m := ⟨_, rfl⟩
  have HT := Hid.of hT
  have hTl := trim_len hm.out
  rw [← hT] at hz hTl
  unfold trimL at hT
  rw [← hT] at o3
  clear hT
  obtain ⟨ba, bc, rfl, at3, cb1, cb2, cb3⟩ := own_atX o3 (w.heap.size + 1) w3.heap.size r2 (.inr (Nat.le_refl _))
  have B3 := Hid.of (B2.out.trans (hb.mono B2.out.size))
  have K3 := Hid.of (K2.out.below hb K2.out.lt)
  have R3 := Hid.of (R2.out.below hb R2.out.lt)
  have A3 := Hid.of at3
  have CB := Hid.of (And.intro cb1 (And.intro cb2 cb3))
  have r3 : w2.heap.size ≤ w3.heap.size := hb.size
  clear hb at3 A1 A2 ln1 ln2 B1 K1 R1 B2 K2 R2 B0 K0 R0 o3 cb1 cb2 cb3
  clear x0 x1 x2 x3 x4
  obtain ⟨x0, x1, x2, x3, x4⟩ := mcell_at K3.out
  have hzd : ((T.length : Int) == 0) = false := by rw [beq_eq_false_iff_ne]; omega
  have l3 := K3.out.lt
  go_wp2_with fail
  have hb : Below w3.heap.size w3 (w3.alloc (.cells #[.int .i64 (T.length : Int), .int .i64 m.ev, .slice none 0 0, .slice none 0 0, .slice none 0 0] 25)) := (Below.refl _ _).alloc (Nat.le_refl _) _
  have B4 := Hid.of (B3.out.trans (hb.mono B3.out.size))
  have K4 := Hid.of (K3.out.below hb K3.out.lt)
  have R4 := Hid.of (R3.out.below hb R3.out.lt)
  have A4 := Hid.of (A3.out.below hb)
  have N4 := Hid.of (Blk.new w3 25 #[.int .i64 (T.length : Int), .int .i64 m.ev, .slice none 0 0, .slice none 0 0, .slice none 0 0])
  have Z4 : Hid ((w3.alloc (.cells #[.int .i64 (T.length : Int), .int .i64 m.ev, .slice none 0 0, .slice none 0 0, .slice none 0 0] 25)).heap.size = w3.heap.size + 1) := World.size_alloc _ _
  clear hb K3 R3 A3 x0 x1 x2 x3 x4
  revert B4 K4 R4 A4 N4 Z4
  generalize w3.alloc (.cells #[.int .i64 (T.length : Int), .int .i64 m.ev, .slice none 0 0, .slice none 0 0, .slice none 0 0] 25) = w4
  intro B4 K4 R4 A4 N4 Z4
  refine (places_any ba l.a1 bc l.c1 T m.starts _ A4.out.at (Nat.le_trans CB.out.1 CB.out.2.1) (h.out.below B4.out (Nat.le_refl _)).s (by have := startsLen hm.out; omega)).mono ?_
  rintro e w5 ⟨v5, rfl, o5, hb⟩
  obtain ⟨sa, sc, rfl, at5, cs1, cs2, cs3⟩ := own_atX o5 (w.heap.size + 1) w3.heap.size (by have := Z4.out; omega) (.inl (by have := Z4.out; omega))
  have B5 := Hid.of (B4.out.trans (hb.mono B4.out.size))
  have K5 := Hid.of (K4.out.below hb K4.out.lt)
  have R5 := Hid.of (R4.out.below hb R4.out.lt)
  have A5 := Hid.of (A4.out.below hb)
  have N5 := Hid.of (N4.out.below hb N4.out.lt)
  have S5 := Hid.of at5
  have CS := Hid.of (And.intro cs1 (And.intro cs2 cs3))
  have z5 := hb.size
  obtain ⟨x0, x1, x2, x3, x4⟩ := mcell_at K5.out
  have f5 := N5.out.frozen
  have g5 : w5.cell? ⟨w3.heap.size, 2, none⟩ = some (.slice none 0 0) := N5.out.cell 2 rfl
  have z4 := Z4.out
  clear hb at5 o5 cs1 cs2 cs3
  have hne1 : ¬ w.heap.size = w3.heap.size := by omega
  have hne2 : ¬ w3.heap.size = w.heap.size := by omega
  go_wp2_with fail
  have B6 := Hid.of (B5.out.setCell (p := ⟨w3.heap.size, 2, none⟩) (by show w.heap.size ≤ w3.heap.size; omega) (.slice sa (placesL T m.starts).length sc))
  have K6 := Hid.of (K5.out.other (j := 2) hne1 (.slice sa (placesL T m.starts).length sc))
  have R6 := Hid.of (R5.out.other (j := 2) (b' := w3.heap.size) (by omega) (.slice sa (placesL T m.starts).length sc))
  have A6 := Hid.of (A5.out.set (j := 2) (.slice sa (placesL T m.starts).length sc))
  have S6 := Hid.of (S5.out.set (j := 2) (.slice sa (placesL T m.starts).length sc))
  have N6 : Hid (Blk (w5.setCell ⟨w3.heap.size, 2, none⟩ (.slice sa (placesL T m.starts).length sc)) w3.heap.size 25 #[.int .i64 (T.length : Int), .int .i64 m.ev, .slice sa (placesL T m.starts).length sc, .slice none 0 0, .slice none 0 0]) := N5.out.set 2 _
  have z6 : (w5.setCell ⟨w3.heap.size, 2, none⟩ (.slice sa (placesL T m.starts).length sc)).heap.size = w5.heap.size := size_set _ _ _
  clear x0 x1 x2 x3 x4 f5 g5 A5 B5 K5 R5 N5 S5 A4 B4 K4 R4 N4 Z4
  revert B6 K6 R6 A6 S6 N6 z6
  generalize w5.setCell ⟨w3.heap.size, 2, none⟩ (.slice sa (placesL T m.starts).length sc) = w6
  intro B6 K6 R6 A6 S6 N6 z6
  refine (places_any ba l.a3 bc l.c3 T m.ends _ A6.out.at (Nat.le_trans CB.out.1 CB.out.2.1) (h.out.below B6.out (Nat.le_refl _)).e (by have := endsLen hm.out; omega)).mono ?_
  rintro e w7 ⟨v7, rfl, o7, hb⟩
  obtain ⟨ea, ec, rfl, at7, ce1, ce2, ce3⟩ := own_atX o7 (w.heap.size + 1) w3.heap.size (by omega) (.inl (by omega))
  have B7 := Hid.of (B6.out.trans (hb.mono B6.out.size))
  have K7 := Hid.of (K6.out.below hb K6.out.lt)
  have R7 := Hid.of (R6.out.below hb R6.out.lt)
  have A7 := Hid.of (A6.out.below hb)
  have S7 := Hid.of (S6.out.below hb)
  have N7 := Hid.of (N6.out.below hb N6.out.lt)
  have E7 := Hid.of at7
  have CE := Hid.of (And.intro ce1 (And.intro ce2 ce3))
  have z7 := hb.size
  have f7 := N7.out.frozen
  have g7 : w7.cell? ⟨w3.heap.size, 4, none⟩ = some (.slice none 0 0) := N7.out.cell 4 rfl
  clear hb at7 o7 ce1 ce2 ce3 B6 K6 R6 A6 S6 N6
  go_wp2_with fail
  have B8 := Hid.of (B7.out.setCell (p := ⟨w3.heap.size, 4, none⟩) (by show w.heap.size ≤ w3.heap.size; omega) (.slice ea (placesL T m.ends).length ec))
  have K8 := Hid.of (K7.out.other (j := 4) hne1 (.slice ea (placesL T m.ends).length ec))
  have R8 := Hid.of (R7.out.other (j := 4) (b' := w3.heap.size) (by omega) (.slice ea (placesL T m.ends).length ec))
  have A8 := Hid.of (A7.out.set (j := 4) (.slice ea (placesL T m.ends).length ec))
  have S8 := Hid.of (S7.out.set (j := 4) (.slice ea (placesL T m.ends).length ec))
  have E8 := Hid.of (E7.out.set (j := 4) (.slice ea (placesL T m.ends).length ec))
  have N8 : Hid (Blk (w7.setCell ⟨w3.heap.size, 4, none⟩ (.slice ea (placesL T m.ends).length ec)) w3.heap.size 25 #[.int .i64 (T.length : Int), .int .i64 m.ev, .slice sa (placesL T m.starts).length sc, .slice none 0 0, .slice ea (placesL T m.ends).length ec]) := N7.out.set 4 _
  have z8 : Hid ((w7.setCell ⟨w3.heap.size, 4, none⟩ (.slice ea (placesL T m.ends).length ec)).heap.size = w7.heap.size) := size_set _ _ _
  clear f7 g7 A7 B7 K7 R7 N7 S7 E7
  revert B8 K8 R8 A8 S8 N8 E8 z8
  generalize w7.setCell ⟨w3.heap.size, 4, none⟩ (.slice ea (placesL T m.ends).length ec) = w8
  intro B8 K8 R8 A8 S8 E8 N8 z8
  go_loopw [8, 9] (fun v i wr => ∃ k : Nat, k ≤ m.arrows.length ∧ i = .int .i64 k ∧ Hid (OwnA wr w8.heap.size v (trimA T (m.arrows.take k))) ∧ Hid (Below w8.heap.size w8 wr)) (fun _ i _ => m.arrows.length - (intOf i).toNat)
  case atStart => exact ⟨0, Nat.zero_le _, rfl, ownA_nil _ _, Below.refl _ _⟩
  case round =>
    obtain ⟨k, hk, rfl, hown, hbel⟩ := hrel
    have hsz := hbel.out.size
    have x3 : wr.cell? ⟨w.heap.size, 3, none⟩ = some (.slice l.a2 m.arrows.length l.c2) := (K8.out.below hbel.out K8.out.lt).cell 3 rfl
    by_cases hlt : k < m.arrows.length
    · have hat : AtA wr l.a2 m.arrows := (h.out.below B8.out (Nat.le_refl _)).a.below hbel.out (Nat.le_refl _)
      rcases hat with hat | ⟨b, off, ha2, hb, hca⟩
      · rw [hat] at hlt; simp at hlt
      obtain ⟨a, HA, y0, y1, y2⟩ := hca.at hlt
      rw [ha2] at x3
      have HN := Hid.of (trimA_take (T := T) hlt HA)
      have hal := hsz0.out
      have hll : (trimA T (m.arrows.take k)).length ≤ k := Nat.le_trans (trimA_len _ _) (List.length_take_le _ _)
      have HAT : Hid (At (wr.alloc (.cells #[.int .i64 a.f, .int .i64 a.e, .int .i64 a.t] 58)) ba T) := (A8.out.below (hbel.out.alloc hsz _)).at
      clear ha2 hca
      go_wp2_with fail
      refine (place_any ba bc T a.f _ HAT.out (Nat.le_trans CB.out.1 CB.out.2.1)).mono ?_
      rintro e w9 ⟨rfl, rfl⟩
      go_wp2_with fail
      refine (place_any ba bc T a.t _ HAT.out (Nat.le_trans CB.out.1 CB.out.2.1)).mono ?_
      rintro e w9 ⟨rfl, rfl⟩
      by_cases d1 : 0 ≤ placeI T a.f
      · have dd1 : decide (0 ≤ placeI T a.f) = true := by simpa using d1
        by_cases d2 : 0 ≤ placeI T a.t
        · have dd2 : decide (0 ≤ placeI T a.t) = true := by simpa using d2
          have HR : Hid (trimA T (m.arrows.take (k + 1)) = trimA T (m.arrows.take k) ++ [⟨placeI T a.f, a.e, placeI T a.t⟩]) := by show _ = _; rw [HN.out, dd1, dd2]; rfl
          clear HN
          generalize placeI T a.f = p at *
          generalize placeI T a.t = q at *
          generalize trimA T (m.arrows.take k) = L at *
          go_wp2_with (at_builtin; refine wpList_append_arrs _ rfl (.tmp 65) (.tmp 71) 23 rfl w8.heap.size i0 Tryd.underlying23 hi hz0 hz1 hz2 _ L rfl (World.ownsRow.alloc (World.ownsRow.alloc hown.out _) _) (some ⟨wr.heap.size + 1, 0, none⟩) 1 [⟨p, a.e, q⟩] rfl (atA_new _ _ ⟨p, a.e, q⟩ _ (World.size_alloc _ _).symm) (fun h => by cases h) (by simp; omega) (by simp; omega) ?_)
          intro v9 w9 o9 g9 n9
          have b9 := Hid.of (ownA_snoc2 hown.out hbel.out hsz g9)
          have O9 := Hid.of o9
          clear o9 g9 n9 hown
          go_wp2_with fail
          go_roundw
          case rel => exact ⟨k + 1, by omega, by go_num, by rw [HR.out]; exact O9, b9⟩
          case measure => simp [intOf]; omega
        · have dd2 : decide (0 ≤ placeI T a.t) = false := by simpa using d2
          have HR : Hid (trimA T (m.arrows.take (k + 1)) = trimA T (m.arrows.take k)) := by show _ = _; rw [HN.out, dd1, dd2]; rfl
          clear HN
          generalize placeI T a.f = p at *
          generalize placeI T a.t = q at *
          go_wp2_with fail
          go_roundw
          case rel => exact ⟨k + 1, by omega, by go_num, by rw [HR.out]; exact World.ownsRow.alloc hown.out _, hbel.out.alloc hsz _⟩
          case measure => simp [intOf]; omega
      · have dd1 : decide (0 ≤ placeI T a.f) = false := by simpa using d1
        have HR : Hid (trimA T (m.arrows.take (k + 1)) = trimA T (m.arrows.take k)) := by show _ = _; rw [HN.out, dd1]; rfl
        clear HN
        generalize placeI T a.f = p at *
        generalize placeI T a.t = q at *
        go_wp2_with fail
        go_roundw
        case rel => exact ⟨k + 1, by omega, by go_num, by rw [HR.out]; exact World.ownsRow.alloc hown.out _, hbel.out.alloc hsz _⟩
        case measure => simp [intOf]; omega
    · rw [List.take_of_length_le (by omega)] at hown
      obtain ⟨la, lc, rfl, atl, -, -, -⟩ := hown.out.at
      have AL := Hid.of atl
      have hll := trimA_len T m.arrows
      have hal := hsz0.out
      clear atl hown
      go_wp2_with fail
      refine (refSort_any la lc (trimA T m.arrows) _ AL.out (by omega)).mono ?_
      rintro e w9 ⟨aa, ac, rfl, at9, ca1, ca2, ca3, hb⟩
      have b9 := hbel.out.trans (hb.mono hsz)
      have B9 := Hid.of (B8.out.trans (b9.mono B8.out.size))
      have R9 := Hid.of (R8.out.below b9 R8.out.lt)
      have N9 := Hid.of (N8.out.below b9 N8.out.lt)
      have A9 := Hid.of (A8.out.below b9)
      have S9 := Hid.of (S8.out.below b9)
      have E9 := Hid.of (E8.out.below b9)
      have L9 := Hid.of at9
      have CA := Hid.of (And.intro ca1 (And.intro ca2 ca3))
      have f9 := N9.out.frozen
      have g9 : w9.cell? ⟨w3.heap.size, 3, none⟩ = some (.slice none 0 0) := N9.out.cell 3 rfl
      have g0 := N9.out.cell 0 rfl
      have g1 := N9.out.cell 1 rfl
      have g2 := N9.out.cell 2 rfl
      have g4 := N9.out.cell 4 rfl
      have fr := R9.out.frozen
      have r0 := R9.out.cell 0 rfl
      have r1 := R9.out.cell 1 rfl
      have r2' := R9.out.cell 2 rfl
      have r3' := R9.out.cell 3 rfl
      have r4 := R9.out.cell 4 rfl
      clear hb at9 ca1 ca2 ca3 b9 x3
      have hne3 : ¬ w3.heap.size = w.heap.size + 1 := by omega
      have hne4 : ¬ w.heap.size + 1 = w3.heap.size := by omega
      go_wp2_with fail
      obtain ⟨M, hM⟩ : ∃ M : Mach, M = ⟨(T.length : Int), m.ev, placesL T m.starts, srtA (trimA T m.arrows), placesL T m.ends⟩ := ⟨_, rfl⟩
      have HM : M = trimM m := by rw [hM]; unfold trimM; rw [← HT.out, if_neg hz]
      have R10 := R9.out.other (j := 3) hne4 (.slice aa (srtA (trimA T m.arrows)).length ac)
      have L10 := (L9.out.apart N9.out).set (j := 3) (.slice aa (srtA (trimA T m.arrows)).length ac)
      have L11 := (((((L10.at.apart R10).set (j := 0) (.int .i64 (T.length : Int))).set (j := 1) (.int .i64 m.ev)).set (j := 2) (.slice sa (placesL T m.starts).length sc)).set (j := 3) (.slice aa (srtA (trimA T m.arrows)).length ac)).set (j := 4) (.slice ea (placesL T m.ends).length ec)
      have R11 : Blk _ (w.heap.size + 1) 25 (mcells ⟨(T.length : Int), m.ev, placesL T m.starts, srtA (trimA T m.arrows), placesL T m.ends⟩ ⟨sa, sc, aa, ac, ea, ec⟩) := (((((R10.set 0 (.int .i64 (T.length : Int))).set 1 (.int .i64 m.ev)).set 2 (.slice sa (placesL T m.starts).length sc)).set 3 (.slice aa (srtA (trimA T m.arrows)).length ac)).set 4 (.slice ea (placesL T m.ends).length ec))
      have up : ∀ {a : Option Addr} {xs : List Int}, AtX w9 (w.heap.size + 1) w3.heap.size a xs → At ((((((w9.setCell ⟨w3.heap.size, 3, none⟩ (.slice aa (srtA (trimA T m.arrows)).length ac)).setCell ⟨w.heap.size + 1, 0, none⟩ (.int .i64 (T.length : Int))).setCell ⟨w.heap.size + 1, 1, none⟩ (.int .i64 m.ev)).setCell ⟨w.heap.size + 1, 2, none⟩ (.slice sa (placesL T m.starts).length sc)).setCell ⟨w.heap.size + 1, 3, none⟩ (.slice aa (srtA (trimA T m.arrows)).length ac)).setCell ⟨w.heap.size + 1, 4, none⟩ (.slice ea (placesL T m.ends).length ec)) a xs := fun h => ((((((h.set (j := 3) _).setr (j := 0) _).setr (j := 1) _).setr (j := 2) _).setr (j := 3) _).setr (j := 4) _).at
      have B11 := (((((B9.out.setCell (p := ⟨w3.heap.size, 3, none⟩) (by show w.heap.size ≤ w3.heap.size; omega) (.slice aa (srtA (trimA T m.arrows)).length ac)).setCell (p := ⟨w.heap.size + 1, 0, none⟩) (by show w.heap.size ≤ w.heap.size + 1; omega) (.int .i64 (T.length : Int))).setCell (p := ⟨w.heap.size + 1, 1, none⟩) (by show w.heap.size ≤ w.heap.size + 1; omega) (.int .i64 m.ev)).setCell (p := ⟨w.heap.size + 1, 2, none⟩) (by show w.heap.size ≤ w.heap.size + 1; omega) (.slice sa (placesL T m.starts).length sc)).setCell (p := ⟨w.heap.size + 1, 3, none⟩) (by show w.heap.size ≤ w.heap.size + 1; omega) (.slice aa (srtA (trimA T m.arrows)).length ac)).setCell (p := ⟨w.heap.size + 1, 4, none⟩) (by show w.heap.size ≤ w.heap.size + 1; omega) (.slice ea (placesL T m.ends).length ec)
      refine bodyPost_ret (v := .tuple #[mval ⟨(T.length : Int), m.ev, placesL T m.starts, srtA (trimA T m.arrows), placesL T m.ends⟩ ⟨sa, sc, aa, ac, ea, ec⟩, .slice ba T.length bc]) ?_ rfl ?_
      · exact results_mach (p := 2) (u := 3) rfl _ _ (w.heap.size + 1) _ ⟨sa, sc, aa, ac, ea, ec⟩ _ rfl rfl R11
      · refine ⟨⟨sa, sc, aa, ac, ea, ec⟩, ba, bc, ?_, ?_, ?_, ?_, B11⟩
        · rw [← HM, hM, ← HT.out]
        · rw [← HM, hM]
          exact ⟨up S9.out, L11.at, up E9.out, CS.out.1, CS.out.2.1, CS.out.2.2, CA.out.1, CA.out.2.1, CA.out.2.2, CE.out.1, CE.out.2.1, CE.out.2.2⟩
        · rw [← HT.out]; exact up A9.out
        · rw [← HT.out]; exact Nat.le_trans CB.out.1 CB.out.2.1

set_option maxHeartbeats 4000000 in
set_option maxRecDepth 100000 in
theorem refTrim_z (m : Mach) (l : ML) (w : World) (hm : Hid (mayB m = true)) (h : Hid (MAt w m l)) (hz : (trimL m).length = 0) :
    Calls Tryd.prog 32 #[mval m l] w fun e w' => TrimGives w m e w' := by
  have B0 : Hid (Below w.heap.size w ((w.alloc (.cells (mcells m l) 25)).alloc (.cells zcells 25))) := ((Below.refl _ _).alloc (Nat.le_refl _) _).alloc (by simp) _
  have K0 := Hid.of ((Blk.new w 25 (mcells m l)).alloc (.cells zcells 25))
  have R0 : Hid (Blk ((w.alloc (.cells (mcells m l) 25)).alloc (.cells zcells 25)) (w.heap.size + 1) 25 zcells) := by
    have := Blk.new (w.alloc (.cells (mcells m l) 25)) 25 zcells
    rwa [World.size_alloc] at this
  obtain ⟨i0, hi, hz0, hz1, hz2⟩ := info_parts Tryd.infoArrow
  have hsz0 : Hid (m.arrows.length ≤ 1000000) := by have := mayB_size hm.out; unfold sizeOk at this; show _ ≤ _; omega
  go_enter Tryd.func32, Tryd.ntmps32
  go_wp2_with fail
  refine (refReach_any m l _ hm.out (h.out.below B0.out (Nat.le_refl _))).mono ?_
  rintro e w1 ⟨ra, rc, rfl, at1, ln1, hb⟩
  have B1 := Hid.of (B0.out.trans (hb.mono B0.out.size))
  have K1 := Hid.of (K0.out.below hb K0.out.lt)
  have R1 := Hid.of (R0.out.below hb R0.out.lt)
  have A1 := Hid.of at1
  obtain ⟨x0, x1, x2, x3, x4⟩ := mcell_at K1.out
  clear hb at1
  go_wp2_with fail
  refine (refLive_any m l _ hm.out (h.out.below B1.out (Nat.le_refl _))).mono ?_
  rintro e w2 ⟨va, vc, rfl, at2, ln2, hb⟩
  have B2 := Hid.of (B1.out.trans (hb.mono B1.out.size))
  have K2 := Hid.of (K1.out.below hb K1.out.lt)
  have R2 := Hid.of (R1.out.below hb R1.out.lt)
  have A1 := Hid.of (A1.out.below hb (Nat.le_refl _))
  have A2 := Hid.of at2
  clear hb at2 x0 x1 x2 x3 x4
  obtain ⟨x0, x1, x2, x3, x4⟩ := mcell_at K2.out
  have r2 := R2.out.lt
  go_wp2_with fail
  refine (onlyO_any ra va rc vc (reachL m) (liveL m) true _ A1.out (by have := reach_len hm.out; omega) A2.out ln2).mono ?_
  rintro e w3 ⟨v3, rfl, o3, hb⟩
  obtain ⟨T, hT⟩ : ∃ T, T = trimL m := ⟨_, rfl⟩
  have HT := Hid.of hT
  have hTl := trim_len hm.out
  rw [← hT] at hz hTl
  unfold trimL at hT
  rw [← hT] at o3
  clear hT
  have hTn : T = [] := List.eq_nil_of_length_eq_zero hz
  subst hTn
  obtain ⟨ba, bc, rfl, at3, cb1, cb2, cb3⟩ := own_atX o3 (w.heap.size + 1) w3.heap.size r2 (.inr (Nat.le_refl _))
  have B3 := Hid.of (B2.out.trans (hb.mono B2.out.size))
  have K3 := Hid.of (K2.out.below hb K2.out.lt)
  have R3 := Hid.of (R2.out.below hb R2.out.lt)
  have A3 := Hid.of at3
  have CB := Hid.of (And.intro cb1 (And.intro cb2 cb3))
  have r3 : w2.heap.size ≤ w3.heap.size := hb.size
  clear hb at3 A1 A2 ln1 ln2 B1 K1 R1 B2 K2 R2 B0 K0 R0 o3 cb1 cb2 cb3
  clear x0 x1 x2 x3 x4
  obtain ⟨x0, x1, x2, x3, x4⟩ := mcell_at K3.out
  have hzd : ((([] : List Int).length : Int) == 0) = true := by rw [hz]; rfl
  have l3 := K3.out.lt
  go_wp2_with fail
  have hb : Below w3.heap.size w3 (w3.alloc (.cells #[.int .i64 1, .int .i64 m.ev, .slice none 0 0, .slice none 0 0, .slice none 0 0] 25)) := (Below.refl _ _).alloc (Nat.le_refl _) _
  have B4 := Hid.of (B3.out.trans (hb.mono B3.out.size))
  have K4 := Hid.of (K3.out.below hb K3.out.lt)
  have R4 := Hid.of (R3.out.below hb R3.out.lt)
  have A4 := Hid.of (A3.out.below hb)
  have N4 := Hid.of (Blk.new w3 25 #[.int .i64 1, .int .i64 m.ev, .slice none 0 0, .slice none 0 0, .slice none 0 0])
  have Z4 : Hid ((w3.alloc (.cells #[.int .i64 1, .int .i64 m.ev, .slice none 0 0, .slice none 0 0, .slice none 0 0] 25)).heap.size = w3.heap.size + 1) := World.size_alloc _ _
  clear hb K3 R3 A3 x0 x1 x2 x3 x4
  revert B4 K4 R4 A4 N4 Z4
  generalize w3.alloc (.cells #[.int .i64 1, .int .i64 m.ev, .slice none 0 0, .slice none 0 0, .slice none 0 0] 25) = w4
  intro B4 K4 R4 A4 N4 Z4
  refine (places_any ba l.a1 bc l.c1 ([] : List Int) m.starts _ A4.out.at (Nat.le_trans CB.out.1 CB.out.2.1) (h.out.below B4.out (Nat.le_refl _)).s (by have := startsLen hm.out; omega)).mono ?_
  rintro e w5 ⟨v5, rfl, o5, hb⟩
  obtain ⟨sa, sc, rfl, at5, cs1, cs2, cs3⟩ := own_atX o5 (w.heap.size + 1) w3.heap.size (by have := Z4.out; omega) (.inl (by have := Z4.out; omega))
  have B5 := Hid.of (B4.out.trans (hb.mono B4.out.size))
  have K5 := Hid.of (K4.out.below hb K4.out.lt)
  have R5 := Hid.of (R4.out.below hb R4.out.lt)
  have A5 := Hid.of (A4.out.below hb)
  have N5 := Hid.of (N4.out.below hb N4.out.lt)
  have S5 := Hid.of at5
  have CS := Hid.of (And.intro cs1 (And.intro cs2 cs3))
  have z5 := hb.size
  obtain ⟨x0, x1, x2, x3, x4⟩ := mcell_at K5.out
  have f5 := N5.out.frozen
  have g5 : w5.cell? ⟨w3.heap.size, 2, none⟩ = some (.slice none 0 0) := N5.out.cell 2 rfl
  have z4 := Z4.out
  clear hb at5 o5 cs1 cs2 cs3
  have hne1 : ¬ w.heap.size = w3.heap.size := by omega
  have hne2 : ¬ w3.heap.size = w.heap.size := by omega
  go_wp2_with fail
  have B6 := Hid.of (B5.out.setCell (p := ⟨w3.heap.size, 2, none⟩) (by show w.heap.size ≤ w3.heap.size; omega) (.slice sa (placesL ([] : List Int) m.starts).length sc))
  have K6 := Hid.of (K5.out.other (j := 2) hne1 (.slice sa (placesL ([] : List Int) m.starts).length sc))
  have R6 := Hid.of (R5.out.other (j := 2) (b' := w3.heap.size) (by omega) (.slice sa (placesL ([] : List Int) m.starts).length sc))
  have A6 := Hid.of (A5.out.set (j := 2) (.slice sa (placesL ([] : List Int) m.starts).length sc))
  have S6 := Hid.of (S5.out.set (j := 2) (.slice sa (placesL ([] : List Int) m.starts).length sc))
  have N6 : Hid (Blk (w5.setCell ⟨w3.heap.size, 2, none⟩ (.slice sa (placesL ([] : List Int) m.starts).length sc)) w3.heap.size 25 #[.int .i64 1, .int .i64 m.ev, .slice sa (placesL ([] : List Int) m.starts).length sc, .slice none 0 0, .slice none 0 0]) := N5.out.set 2 _
  have z6 : (w5.setCell ⟨w3.heap.size, 2, none⟩ (.slice sa (placesL ([] : List Int) m.starts).length sc)).heap.size = w5.heap.size := size_set _ _ _
  clear x0 x1 x2 x3 x4 f5 g5 A5 B5 K5 R5 N5 S5 A4 B4 K4 R4 N4 Z4
  revert B6 K6 R6 A6 S6 N6 z6
  generalize w5.setCell ⟨w3.heap.size, 2, none⟩ (.slice sa (placesL ([] : List Int) m.starts).length sc) = w6
  intro B6 K6 R6 A6 S6 N6 z6
  refine (places_any ba l.a3 bc l.c3 ([] : List Int) m.ends _ A6.out.at (Nat.le_trans CB.out.1 CB.out.2.1) (h.out.below B6.out (Nat.le_refl _)).e (by have := endsLen hm.out; omega)).mono ?_
  rintro e w7 ⟨v7, rfl, o7, hb⟩
  obtain ⟨ea, ec, rfl, at7, ce1, ce2, ce3⟩ := own_atX o7 (w.heap.size + 1) w3.heap.size (by omega) (.inl (by omega))
  have B7 := Hid.of (B6.out.trans (hb.mono B6.out.size))
  have K7 := Hid.of (K6.out.below hb K6.out.lt)
  have R7 := Hid.of (R6.out.below hb R6.out.lt)
  have A7 := Hid.of (A6.out.below hb)
  have S7 := Hid.of (S6.out.below hb)
  have N7 := Hid.of (N6.out.below hb N6.out.lt)
  have E7 := Hid.of at7
  have CE := Hid.of (And.intro ce1 (And.intro ce2 ce3))
  have z7 := hb.size
  have f7 := N7.out.frozen
  have g7 : w7.cell? ⟨w3.heap.size, 4, none⟩ = some (.slice none 0 0) := N7.out.cell 4 rfl
  clear hb at7 o7 ce1 ce2 ce3 B6 K6 R6 A6 S6 N6
  go_wp2_with fail
  have B8 := Hid.of (B7.out.setCell (p := ⟨w3.heap.size, 4, none⟩) (by show w.heap.size ≤ w3.heap.size; omega) (.slice ea (placesL ([] : List Int) m.ends).length ec))
  have K8 := Hid.of (K7.out.other (j := 4) hne1 (.slice ea (placesL ([] : List Int) m.ends).length ec))
  have R8 := Hid.of (R7.out.other (j := 4) (b' := w3.heap.size) (by omega) (.slice ea (placesL ([] : List Int) m.ends).length ec))
  have A8 := Hid.of (A7.out.set (j := 4) (.slice ea (placesL ([] : List Int) m.ends).length ec))
  have S8 := Hid.of (S7.out.set (j := 4) (.slice ea (placesL ([] : List Int) m.ends).length ec))
  have E8 := Hid.of (E7.out.set (j := 4) (.slice ea (placesL ([] : List Int) m.ends).length ec))
  have N8 : Hid (Blk (w7.setCell ⟨w3.heap.size, 4, none⟩ (.slice ea (placesL ([] : List Int) m.ends).length ec)) w3.heap.size 25 #[.int .i64 1, .int .i64 m.ev, .slice sa (placesL ([] : List Int) m.starts).length sc, .slice none 0 0, .slice ea (placesL ([] : List Int) m.ends).length ec]) := N7.out.set 4 _
  have z8 : Hid ((w7.setCell ⟨w3.heap.size, 4, none⟩ (.slice ea (placesL ([] : List Int) m.ends).length ec)).heap.size = w7.heap.size) := size_set _ _ _
  clear f7 g7 A7 B7 K7 R7 N7 S7 E7
  revert B8 K8 R8 A8 S8 N8 E8 z8
  generalize w7.setCell ⟨w3.heap.size, 4, none⟩ (.slice ea (placesL ([] : List Int) m.ends).length ec) = w8
  intro B8 K8 R8 A8 S8 E8 N8 z8
  go_loopw [8, 9] (fun v i wr => ∃ k : Nat, k ≤ m.arrows.length ∧ i = .int .i64 k ∧ Hid (OwnA wr w8.heap.size v (trimA ([] : List Int) (m.arrows.take k))) ∧ Hid (Below w8.heap.size w8 wr)) (fun _ i _ => m.arrows.length - (intOf i).toNat)
  case atStart => exact ⟨0, Nat.zero_le _, rfl, ownA_nil _ _, Below.refl _ _⟩
  case round =>
    obtain ⟨k, hk, rfl, hown, hbel⟩ := hrel
    have hsz := hbel.out.size
    have x3 : wr.cell? ⟨w.heap.size, 3, none⟩ = some (.slice l.a2 m.arrows.length l.c2) := (K8.out.below hbel.out K8.out.lt).cell 3 rfl
    by_cases hlt : k < m.arrows.length
    · have hat : AtA wr l.a2 m.arrows := (h.out.below B8.out (Nat.le_refl _)).a.below hbel.out (Nat.le_refl _)
      rcases hat with hat | ⟨b, off, ha2, hb, hca⟩
      · rw [hat] at hlt; simp at hlt
      obtain ⟨a, HA, y0, y1, y2⟩ := hca.at hlt
      rw [ha2] at x3
      have HN := Hid.of (trimA_take (T := ([] : List Int)) hlt HA)
      have hal := hsz0.out
      have hll : (trimA ([] : List Int) (m.arrows.take k)).length ≤ k := Nat.le_trans (trimA_len _ _) (List.length_take_le _ _)
      have HAT : Hid (At (wr.alloc (.cells #[.int .i64 a.f, .int .i64 a.e, .int .i64 a.t] 58)) ba ([] : List Int)) := (A8.out.below (hbel.out.alloc hsz _)).at
      clear ha2 hca
      go_wp2_with fail
      refine (place_any ba bc ([] : List Int) a.f _ HAT.out (Nat.le_trans CB.out.1 CB.out.2.1)).mono ?_
      rintro e w9 ⟨rfl, rfl⟩
      go_wp2_with fail
      refine (place_any ba bc ([] : List Int) a.t _ HAT.out (Nat.le_trans CB.out.1 CB.out.2.1)).mono ?_
      rintro e w9 ⟨rfl, rfl⟩
      by_cases d1 : 0 ≤ placeI ([] : List Int) a.f
      · have dd1 : decide (0 ≤ placeI ([] : List Int) a.f) = true := by simpa using d1
        by_cases d2 : 0 ≤ placeI ([] : List Int) a.t
        · have dd2 : decide (0 ≤ placeI ([] : List Int) a.t) = true := by simpa using d2
          have HR : Hid (trimA ([] : List Int) (m.arrows.take (k + 1)) = trimA ([] : List Int) (m.arrows.take k) ++ [⟨placeI ([] : List Int) a.f, a.e, placeI ([] : List Int) a.t⟩]) := by show _ = _; rw [HN.out, dd1, dd2]; rfl
          clear HN
          generalize placeI ([] : List Int) a.f = p at *
          generalize placeI ([] : List Int) a.t = q at *
          generalize trimA ([] : List Int) (m.arrows.take k) = L at *
          go_wp2_with (at_builtin; refine wpList_append_arrs _ rfl (.tmp 65) (.tmp 71) 23 rfl w8.heap.size i0 Tryd.underlying23 hi hz0 hz1 hz2 _ L rfl (World.ownsRow.alloc (World.ownsRow.alloc hown.out _) _) (some ⟨wr.heap.size + 1, 0, none⟩) 1 [⟨p, a.e, q⟩] rfl (atA_new _ _ ⟨p, a.e, q⟩ _ (World.size_alloc _ _).symm) (fun h => by cases h) (by simp; omega) (by simp; omega) ?_)
          intro v9 w9 o9 g9 n9
          have b9 := Hid.of (ownA_snoc2 hown.out hbel.out hsz g9)
          have O9 := Hid.of o9
          clear o9 g9 n9 hown
          go_wp2_with fail
          go_roundw
          case rel => exact ⟨k + 1, by omega, by go_num, by rw [HR.out]; exact O9, b9⟩
          case measure => simp [intOf]; omega
        · have dd2 : decide (0 ≤ placeI ([] : List Int) a.t) = false := by simpa using d2
          have HR : Hid (trimA ([] : List Int) (m.arrows.take (k + 1)) = trimA ([] : List Int) (m.arrows.take k)) := by show _ = _; rw [HN.out, dd1, dd2]; rfl
          clear HN
          generalize placeI ([] : List Int) a.f = p at *
          generalize placeI ([] : List Int) a.t = q at *
          go_wp2_with fail
          go_roundw
          case rel => exact ⟨k + 1, by omega, by go_num, by rw [HR.out]; exact World.ownsRow.alloc hown.out _, hbel.out.alloc hsz _⟩
          case measure => simp [intOf]; omega
      · have dd1 : decide (0 ≤ placeI ([] : List Int) a.f) = false := by simpa using d1
        have HR : Hid (trimA ([] : List Int) (m.arrows.take (k + 1)) = trimA ([] : List Int) (m.arrows.take k)) := by show _ = _; rw [HN.out, dd1]; rfl
        clear HN
        generalize placeI ([] : List Int) a.f = p at *
        generalize placeI ([] : List Int) a.t = q at *
        go_wp2_with fail
        go_roundw
        case rel => exact ⟨k + 1, by omega, by go_num, by rw [HR.out]; exact World.ownsRow.alloc hown.out _, hbel.out.alloc hsz _⟩
        case measure => simp [intOf]; omega
    · rw [List.take_of_length_le (by omega)] at hown
      obtain ⟨la, lc, rfl, atl, -, -, -⟩ := hown.out.at
      have AL := Hid.of atl
      have hll := trimA_len ([] : List Int) m.arrows
      have hal := hsz0.out
      clear atl hown
      go_wp2_with fail
      refine (refSort_any la lc (trimA ([] : List Int) m.arrows) _ AL.out (by omega)).mono ?_
      rintro e w9 ⟨aa, ac, rfl, at9, ca1, ca2, ca3, hb⟩
      have b9 := hbel.out.trans (hb.mono hsz)
      have B9 := Hid.of (B8.out.trans (b9.mono B8.out.size))
      have R9 := Hid.of (R8.out.below b9 R8.out.lt)
      have N9 := Hid.of (N8.out.below b9 N8.out.lt)
      have A9 := Hid.of (A8.out.below b9)
      have S9 := Hid.of (S8.out.below b9)
      have E9 := Hid.of (E8.out.below b9)
      have L9 := Hid.of at9
      have CA := Hid.of (And.intro ca1 (And.intro ca2 ca3))
      have f9 := N9.out.frozen
      have g9 : w9.cell? ⟨w3.heap.size, 3, none⟩ = some (.slice none 0 0) := N9.out.cell 3 rfl
      have g0 := N9.out.cell 0 rfl
      have g1 := N9.out.cell 1 rfl
      have g2 := N9.out.cell 2 rfl
      have g4 := N9.out.cell 4 rfl
      have fr := R9.out.frozen
      have r0 := R9.out.cell 0 rfl
      have r1 := R9.out.cell 1 rfl
      have r2' := R9.out.cell 2 rfl
      have r3' := R9.out.cell 3 rfl
      have r4 := R9.out.cell 4 rfl
      clear hb at9 ca1 ca2 ca3 b9 x3
      have hne3 : ¬ w3.heap.size = w.heap.size + 1 := by omega
      have hne4 : ¬ w.heap.size + 1 = w3.heap.size := by omega
      go_wp2_with fail
      obtain ⟨M, hM⟩ : ∃ M : Mach, M = ⟨1, m.ev, placesL ([] : List Int) m.starts, srtA (trimA ([] : List Int) m.arrows), placesL ([] : List Int) m.ends⟩ := ⟨_, rfl⟩
      have HM : M = trimM m := by rw [hM]; unfold trimM; rw [← HT.out, if_pos hz]
      have R10 := R9.out.other (j := 3) hne4 (.slice aa (srtA (trimA ([] : List Int) m.arrows)).length ac)
      have L10 := (L9.out.apart N9.out).set (j := 3) (.slice aa (srtA (trimA ([] : List Int) m.arrows)).length ac)
      have L11 := (((((L10.at.apart R10).set (j := 0) (.int .i64 1)).set (j := 1) (.int .i64 m.ev)).set (j := 2) (.slice sa (placesL ([] : List Int) m.starts).length sc)).set (j := 3) (.slice aa (srtA (trimA ([] : List Int) m.arrows)).length ac)).set (j := 4) (.slice ea (placesL ([] : List Int) m.ends).length ec)
      have R11 : Blk _ (w.heap.size + 1) 25 (mcells ⟨1, m.ev, placesL ([] : List Int) m.starts, srtA (trimA ([] : List Int) m.arrows), placesL ([] : List Int) m.ends⟩ ⟨sa, sc, aa, ac, ea, ec⟩) := (((((R10.set 0 (.int .i64 1)).set 1 (.int .i64 m.ev)).set 2 (.slice sa (placesL ([] : List Int) m.starts).length sc)).set 3 (.slice aa (srtA (trimA ([] : List Int) m.arrows)).length ac)).set 4 (.slice ea (placesL ([] : List Int) m.ends).length ec))
      have up : ∀ {a : Option Addr} {xs : List Int}, AtX w9 (w.heap.size + 1) w3.heap.size a xs → At ((((((w9.setCell ⟨w3.heap.size, 3, none⟩ (.slice aa (srtA (trimA ([] : List Int) m.arrows)).length ac)).setCell ⟨w.heap.size + 1, 0, none⟩ (.int .i64 1)).setCell ⟨w.heap.size + 1, 1, none⟩ (.int .i64 m.ev)).setCell ⟨w.heap.size + 1, 2, none⟩ (.slice sa (placesL ([] : List Int) m.starts).length sc)).setCell ⟨w.heap.size + 1, 3, none⟩ (.slice aa (srtA (trimA ([] : List Int) m.arrows)).length ac)).setCell ⟨w.heap.size + 1, 4, none⟩ (.slice ea (placesL ([] : List Int) m.ends).length ec)) a xs := fun h => ((((((h.set (j := 3) _).setr (j := 0) _).setr (j := 1) _).setr (j := 2) _).setr (j := 3) _).setr (j := 4) _).at
      have B11 := (((((B9.out.setCell (p := ⟨w3.heap.size, 3, none⟩) (by show w.heap.size ≤ w3.heap.size; omega) (.slice aa (srtA (trimA ([] : List Int) m.arrows)).length ac)).setCell (p := ⟨w.heap.size + 1, 0, none⟩) (by show w.heap.size ≤ w.heap.size + 1; omega) (.int .i64 1)).setCell (p := ⟨w.heap.size + 1, 1, none⟩) (by show w.heap.size ≤ w.heap.size + 1; omega) (.int .i64 m.ev)).setCell (p := ⟨w.heap.size + 1, 2, none⟩) (by show w.heap.size ≤ w.heap.size + 1; omega) (.slice sa (placesL ([] : List Int) m.starts).length sc)).setCell (p := ⟨w.heap.size + 1, 3, none⟩) (by show w.heap.size ≤ w.heap.size + 1; omega) (.slice aa (srtA (trimA ([] : List Int) m.arrows)).length ac)).setCell (p := ⟨w.heap.size + 1, 4, none⟩) (by show w.heap.size ≤ w.heap.size + 1; omega) (.slice ea (placesL ([] : List Int) m.ends).length ec)
      refine bodyPost_ret (v := .tuple #[mval ⟨1, m.ev, placesL ([] : List Int) m.starts, srtA (trimA ([] : List Int) m.arrows), placesL ([] : List Int) m.ends⟩ ⟨sa, sc, aa, ac, ea, ec⟩, .slice ba ([] : List Int).length bc]) ?_ rfl ?_
      · exact results_mach (p := 2) (u := 3) rfl _ _ (w.heap.size + 1) _ ⟨sa, sc, aa, ac, ea, ec⟩ _ rfl rfl R11
      · refine ⟨⟨sa, sc, aa, ac, ea, ec⟩, ba, bc, ?_, ?_, ?_, ?_, B11⟩
        · rw [← HM, hM, ← HT.out]
        · rw [← HM, hM]
          exact ⟨up S9.out, L11.at, up E9.out, CS.out.1, CS.out.2.1, CS.out.2.2, CA.out.1, CA.out.2.1, CA.out.2.2, CE.out.1, CE.out.2.1, CE.out.2.2⟩
        · rw [← HT.out]; exact up A9.out
        · rw [← HT.out]; exact Nat.le_trans CB.out.1 CB.out.2.1

theorem refTrim_any (m : Mach) (l : ML) (w : World) (hm : mayB m = true) (h : MAt w m l) :
    Calls Tryd.prog 32 #[mval m l] w fun e w' => TrimGives w m e w' := by
  by_cases hz : (trimL m).length = 0
  · exact refTrim_z m l w hm h hz
  · exact refTrim_nz m l w hm h hz

end Go.Proofs.YtdnglodemkeooaaDoor
