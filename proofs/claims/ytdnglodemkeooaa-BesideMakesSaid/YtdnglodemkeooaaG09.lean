/-
  The walk of jalousieref2.Sort: arrows put in order: it answers 'srtA'.
  The walk of jalousieref1.Sorted: insertion, one number after the other: it answers 'srt xs'.
  jalousieref1.Sorted hands back a slice of its own.
  The walk of jalousieref2.Step.
  What is said of rows of rows on the way through both walks of package beside.
  What is said on the way through jalousieref4.Beside: what lies where.
-/
import Derived.BigQuiet
import Derived.Deep.RegionHeld3
import Derived.Deep.RegionLaw
import Derived.Test.YtdnglodemkeooaaG03
import Derived.Test.YtdnglodemkeooaaG08
import Derived.Test.YtdnglodemkeooaaCRefAhead
import Derived.Deep.QuietTactic
import Derived.Test.YtdnglodemkeooaaG02
import Derived.Deep.RegionWith
import Derived.Test.YtdnglodemkeooaaG01
namespace Go.Proofs.Ytdnglodemkeooaa
open Go.RowKit
set_option linter.unusedVariables false

/-- Three cells hold an arrow. -/
structure CA (w : World) (b off : Nat) (a : Arr) : Prop where
  f : w.cell? ⟨b, off, none⟩ = some (.int .i64 a.f)
  e : w.cell? ⟨b, off + 1, none⟩ = some (.int .i64 a.e)
  t : w.cell? ⟨b, off + 2, none⟩ = some (.int .i64 a.t)

theorem CA.below {w w' : World} {b off B : Nat} {a : Arr} (h : CA w b off a) (hb : Below B w w') (hB : b < B) : CA w' b off a :=
  ⟨(hb.cell (p := ⟨b, off, none⟩) hB).trans h.f, (hb.cell (p := ⟨b, off + 1, none⟩) hB).trans h.e, (hb.cell (p := ⟨b, off + 2, none⟩) hB).trans h.t⟩

theorem CA.after {wr w1 : World} {b off : Nat} {a : Arr} (h : CA wr b off a) (hb : Below wr.drew.heap.size wr.drew w1) (hlt : b < wr.heap.size) : CA w1 b off a :=
  CA.below (w := wr.drew) (B := wr.drew.heap.size) ⟨h.f, h.e, h.t⟩ hb hlt

theorem CA.grown {w w' : World} {b off : Nat} {a : Arr} {row : Option Nat} (h : CA w b off a) (hg : w.grownBy w' row) (hne : some b ≠ row) : CA w' b off a :=
  ⟨hg.cell h.f hne, hg.cell h.e hne, hg.cell h.t hne⟩

theorem CellsA.ca {w : World} {b off k : Nat} {ars : List Arr} (hc : CellsA w b off ars) (h : k < ars.length) : ∃ a, Hid (a = ars[k]?.getD arr0) ∧ CA w b (off + k * 3) a :=
  ⟨_, rfl, (hc k h).1, (hc k h).2.1, (hc k h).2.2⟩

theorem cellsA_drop {w : World} {b : Nat} {L : List Arr} (h : CellsA w b 0 L) (p : Nat) : CellsA w b (p * 3) (L.drop p) := fun j hj => by
  rw [List.length_drop] at hj
  have := h (p + j) (by omega)
  rw [List.getElem?_drop]
  rw [show 0 + (p + j) * 3 = p * 3 + j * 3 by omega] at this
  exact this

theorem own_take {w : World} {B g cap p : Nat} {L : List Arr} (h : OwnA w B (.slice (some ⟨g, 0, none⟩) L.length cap) L) (hp : p ≤ L.length) : w.ownsRow B 50 3 (.slice (some ⟨g, 0, none⟩) p cap) p (aflat (L.take p)) := by
  have := h.take hp
  unfold OwnA at this
  rwa [show (L.take p).length = p by rw [List.length_take]; omega] at this
theorem ownsRow_lay {w : World} {B n : Nat} {T : TypeId} {v : Value} {xs : List Value} (h : w.ownsRow B T 3 v n xs) (o : Obj) : (w.alloc o).drew.ownsRow B T 3 v n xs := World.ownsRow.alloc h o
theorem cells_lay (w : World) (a b c : Value) (T : TypeId) : ∀ j u, [a, b, c][j]? = some u → (w.alloc (.cells #[a, b, c] T)).drew.cell? ((⟨w.heap.size, 0, none⟩ : Addr).add j) = some u := cell_three_new w a b c T

theorem CA.laid {w w' : World} {b off g n c : Nat} {a : Arr} {o : Obj} (h : CA w b off a) (hb : b < w.heap.size) (hg : (w.alloc o).drew.grownBy w' (Value.slice (some ⟨g, 0, none⟩) n c).ownBlock) (hne : ¬ b = g) : CA w' b off a :=
  CA.grown (w := (w.alloc o).drew) ⟨(World.cell?_alloc_past _ _ _ hb).trans h.f, (World.cell?_alloc_past _ _ _ hb).trans h.e, (World.cell?_alloc_past _ _ _ hb).trans h.t⟩ hg (by simpa [Value.ownBlock] using hne)
theorem CA.laid2 {w w' : World} {b off B n : Nat} {T : TypeId} {v : Value} {xs : List Value} {a : Arr} (h : CA w b off a) (ho : w.ownsRow B T 3 v n xs) (hg : w.grownBy w' v.ownBlock) (hb : b < B) : CA w' b off a :=
  h.grown hg (fun e => by have := (ho.lt b e.symm).1; omega)
theorem news_laid {w w' : World} {b g n c : Nat} {M : List Arr} {o : Obj} (h : CellsA w b 0 M) (hb : b < w.heap.size) (hg : (w.alloc o).drew.grownBy w' (Value.slice (some ⟨g, 0, none⟩) n c).ownBlock) (hne : ¬ b = g) : ∀ j u, (aflat M)[j]? = some u → w'.cell? ((⟨b, 0, none⟩ : Addr).add j) = some u := by
  intro j u hu
  have h1 := cells_news h j u hu
  rw [addr0_add] at h1 ⊢
  exact hg.cell (a := ⟨b, 0 + j, none⟩) ((World.cell?_alloc_past _ _ _ hb).trans h1) (by simpa [Value.ownBlock] using hne)

theorem below_laid {B : Nat} {w w9 w10 : World} {g n c : Nat} {o : Obj} (h : Below B w w9) (hB : B ≤ w9.heap.size) (hg : (w9.alloc o).drew.grownBy w10 (Value.slice (some ⟨g, 0, none⟩) n c).ownBlock) (hgB : B ≤ g) : Below B w w10 :=
  (h.alloc hB o).drew.grown hg (by show B ≤ (w9.alloc o).heap.size; simp; omega) (fun k hk => by simp [Value.ownBlock] at hk; omega)
theorem own_ins {w : World} {B p : Nat} {v : Value} {L : List Arr} {x : Arr} (hp : p ≤ L.length) (h : w.ownsRow B 50 3 v (p + 1 + (L.length - p)) (aflat (L.take p) ++ [.int .i64 x.f, .int .i64 x.e, .int .i64 x.t] ++ aflat (L.drop p))) (e : insA x L = L.take p ++ x :: L.drop p) : OwnA w B v (insA x L) := by
  unfold OwnA
  rw [e, aflat_append]
  have hl : (L.take p ++ x :: L.drop p).length = p + 1 + (L.length - p) := by simp; omega
  rw [hl]
  simpa [aflat] using h

theorem own_ins2 {w : World} {B : Nat} {v : Value} {L : List Arr} {x : Arr} (h : w.ownsRow B 50 3 v (L.length + 1 + 0) (aflat L ++ [.int .i64 x.f, .int .i64 x.e, .int .i64 x.t] ++ [])) (e : insA x L = L ++ [x]) : OwnA w B v (insA x L) := by
  unfold OwnA
  rw [e, aflat_append, List.length_append]
  simpa [aflat] using h
theorem own_ins0 {w : World} {B : Nat} {v : Value} {x : Arr} (h : w.ownsRow B 50 3 v (1 + 0) ([.int .i64 x.f, .int .i64 x.e, .int .i64 x.t] ++ [])) : OwnA w B v (insA x []) := h
theorem insA_end {x : Arr} {L : List Arr} (h : ∀ j, j < L.length → aheadB (L[j]?.getD arr0) x = true) : insA x L = L ++ [x] := by
  have := insA_put (Nat.le_refl _) h (.inl rfl)
  simpa using this
theorem CA.laidN {w w' : World} {b off : Nat} {a : Arr} {o : Obj} (h : CA w b off a) (hb : b < w.heap.size) (hg : (w.alloc o).drew.grownBy w' (Value.slice none 0 0).ownBlock) : CA w' b off a :=
  CA.grown (w := (w.alloc o).drew) ⟨(World.cell?_alloc_past _ _ _ hb).trans h.f, (World.cell?_alloc_past _ _ _ hb).trans h.e, (World.cell?_alloc_past _ _ _ hb).trans h.t⟩ hg (by simp [Value.ownBlock])
theorem below_laidN {B : Nat} {w w9 w10 : World} {o : Obj} (h : Below B w w9) (hB : B ≤ w9.heap.size) (hg : (w9.alloc o).drew.grownBy w10 (Value.slice none 0 0).ownBlock) : Below B w w10 :=
  (h.alloc hB o).drew.grown hg (by show B ≤ (w9.alloc o).heap.size; simp; omega) (fun k hk => by simp [Value.ownBlock] at hk)

set_option maxHeartbeats 1000000 in
set_option maxRecDepth 100000 in
theorem refSort_some (bx ox cx : Nat) (ars : List Arr) (w : World) (hl : ars.length ≤ 1073741824) (hbx : bx < w.heap.size) (hc : CellsA w bx ox ars) :
    Calls Try.prog 21 #[.slice (some ⟨bx, ox, none⟩) ars.length cx] w fun e w' => ∃ v, e = .returned v ∧ OwnA w' w.heap.size v (srtA ars) ∧ Below w.heap.size w w' := by
  obtain ⟨i0, hi, hz0, hz1, hz2⟩ := info_parts Try.infoArrow
  go_enter Try.func21, Try.ntmps21
  go_wp2
  go_loopw [3, 4] (fun v i wr => ∃ k : Nat, k ≤ ars.length ∧ i = .int .i64 k ∧ OwnA wr w.heap.size v (srtA (ars.take k)) ∧ Below w.heap.size w wr) (fun _ i _ => ars.length - (intOf i).toNat)
  case atStart => exact ⟨0, Nat.zero_le _, rfl, ownA_nil _ _, Below.refl _ _⟩
  case round =>
    obtain ⟨k, hk, rfl, hown, hbel⟩ := hrel
    by_cases hlt : k < ars.length
    · obtain ⟨x, HX, hx0⟩ := hc.ca hlt
      obtain ⟨wo, hwo⟩ : ∃ wo : World, wo = wr := ⟨_, rfl⟩
      subst hwo
      have hnext : Hid (srtA (ars.take (k + 1)) = insA x (srtA (ars.take k))) := srtA_take hlt HX
      have hll : (srtA (ars.take k)).length ≤ k := Nat.le_trans (srtA_len _) (List.length_take_le _ _)
      generalize srtA (ars.take k) = L at *
      rcases hown.forms with ⟨rfl, rfl⟩ | ⟨g, cap, rfl, hg1, hg2, hcL, hcap, hcm⟩
      · go_wp2
        refine wp_loop_rounds 1 ?_
        rw [rounds_succ]
        go_wp2
        go_quiet (fail)
        go_wp2
        obtain ⟨wz, hwz⟩ : ∃ wz : World, wz = wo.drewN nq := ⟨_, rfl⟩
        have hbz : Below wo.heap.size wo wz := by rw [hwz]; exact below_drewN (Below.refl _ _) _
        rw [← hwz]
        clear hwz
        go_quiet (fail)
        obtain ⟨wq, hwq⟩ : ∃ wq : World, wq = wz.drewN nq := ⟨_, rfl⟩
        have hbelq : Below w.heap.size w wq := by rw [hwq]; exact below_drewN (hbel.trans (hbz.mono hbel.size)) _
        rw [← hwq]
        clear hwq
        have kxq : CA wq bx (ox + k * 3) x := hx0.below hbelq hbx
        have hszq2 := hbelq.size
        have o0 : OwnA (wq.alloc (.cells #[] 50)) wq.heap.size (.slice (some ⟨wq.heap.size, 0, none⟩) 0 0) [] := ownA_empty wq _ (Nat.le_refl _)
        have ba : Below wq.heap.size wq (wq.alloc (.cells #[] 50)) := (Below.refl _ _).alloc (Nat.le_refl _) _
        go_wp2_with (at_builtin; refine wpList_append_arrs _ rfl (.tmp 45) (.tmp 48) 23 rfl wq.heap.size i0 Try.underlying23 hi hz0 hz1 hz2 _ [] rfl o0 none 0 [] rfl (.inl rfl) (fun _ => rfl) (by simp) (by simp) ?_)
        intro rest w9 o9 g9 n9
        have bel9 : Below wq.heap.size wq w9 := ba.grown g9 (by simp) (fun k hk => by simp [Value.ownBlock] at hk; omega)
        obtain ⟨g', c', e9, hg1', hg2', hc9, -, -⟩ := (o9.forms).resolve_left (fun h => n9 h.1)
        subst e9
        clear o9 g9 n9 o0 ba
        have own9 : w9.ownsRow w.heap.size 50 3 (.slice none 0 0) 0 [] := World.ownsRow_nil _ _ _ _
        have kx9 : CA w9 bx (ox + k * 3) x := kxq.below bel9 (by omega)
        have kx9f := kx9.f
        have kx9e := kx9.e
        have kx9t := kx9.t
        have hsz9 : wq.heap.size ≤ w9.heap.size := bel9.size
        have hbx9 : bx < w9.heap.size := by omega
        go_wp2
        go_region_held3 (fun w' => w'.cell? ⟨bx, ox + k * 3, none⟩ = some (.int .i64 x.f) ∧ w'.cell? ⟨bx, ox + k * 3 + 1, none⟩ = some (.int .i64 x.e) ∧ w'.cell? ⟨bx, ox + k * 3 + 2, none⟩ = some (.int .i64 x.t)) (go_keep) (first | (refine step_append_own rfl (.tmp 52) (.tmp 57) 23 rfl w.heap.size 50 i0 (aval arr0) 3 24 Try.underlying23 hi hz0 hz1 hz2 rfl (by decide) (.slice none 0 0) 0 [] rfl (ownsRow_lay own9 _) ⟨w9.heap.size, 0, none⟩ 1 1 [.int .i64 x.f, .int .i64 x.e, .int .i64 x.t] rfl rfl (cells_lay w9 _ _ _ _) (aflat_one [x]) (by unfold maxLen; omega) (by omega) (by simp; omega) ?_; intro v1 w10 o10 g10; obtain ⟨kt1, kt2, kt3⟩ := CA.laidN kx9 hbx9 g10) | (refine step_append_own rfl (.tmp 58) (.tmp 59) 23 rfl w.heap.size 50 i0 (aval arr0) 3 24 Try.underlying23 hi hz0 hz1 hz2 rfl (by decide) v1 1 ([.int .i64 x.f, .int .i64 x.e, .int .i64 x.t]) rfl o10 ⟨g', 0, none⟩ 0 c' [] rfl rfl (fun j u hu => by simp at hu) (fun u hu => by simp at hu) (by unfold maxLen; omega) (by omega) (by have := g10.size; simp at this; omega) ?_; intro v2 w11 o11 g11; obtain ⟨ku1, ku2, ku3⟩ := CA.laid2 ⟨kt1, kt2, kt3⟩ o10 g11 hbx))
        have b10 : Below w.heap.size w w10 := below_laidN (hbelq.trans (bel9.mono hszq2)) (by omega) g10
        have b11 : Below w.heap.size w w11 := b10.grown g11 (by have := b10.size; omega) (fun j hj => (o10.lt j hj).1)
        have r1 : OwnA w11 w.heap.size v2 (srtA (ars.take (k + 1))) := by rw [hnext.out]; exact own_ins0 o11
        clear o10 o11 g10 g11
        go_wp2
        go_roundw
        case rel => exact ⟨k + 1, by omega, by go_num, r1, b11⟩
        case measure => simp [intOf]; omega
      · go_wp2
        go_loopw [5] (fun i wr' => ∃ p : Nat, p ≤ L.length ∧ i = .int .i64 p ∧ Below wo.heap.size wo wr' ∧ Hid (∀ j, j < p → aheadB (L[j]?.getD arr0) x = true)) (fun i _ => L.length - (intOf i).toNat)
        case atStart => exact ⟨0, Nat.zero_le _, rfl, Below.refl _ _, fun j hj => by omega⟩
        case round =>
          obtain ⟨p, hp, rfl, hbq, hlow⟩ := hrel
          have hszq := hbq.size
          have hxr := (hx0.below hbel hbx).below hbq (by have := hbel.size; omega)
          have x1 := hxr.f
          have x2 := hxr.e
          have x3 := hxr.t
          by_cases hpl : p < L.length
          · obtain ⟨y, HY, hy0⟩ := hcL.ca hpl
            have hyr := hy0.below hbq hg2
            rw [Nat.zero_add] at hyr
            have y1 := hyr.f
            have y2 := hyr.e
            have y3 := hyr.t
            by_cases c1 : aheadB y x = true
            · have hgq : g < wr.heap.size := by omega
              have hbq2 : bx < wr.heap.size := by have := hbel.size; omega
              go_wp2
              go_region_held3 (fun w' => w'.cell? ⟨g, p * 3, none⟩ = some (.int .i64 y.f) ∧ w'.cell? ⟨g, p * 3 + 1, none⟩ = some (.int .i64 y.e) ∧ w'.cell? ⟨g, p * 3 + 2, none⟩ = some (.int .i64 y.t) ∧ w'.cell? ⟨bx, ox + k * 3, none⟩ = some (.int .i64 x.f) ∧ w'.cell? ⟨bx, ox + k * 3 + 1, none⟩ = some (.int .i64 x.e) ∧ w'.cell? ⟨bx, ox + k * 3 + 2, none⟩ = some (.int .i64 x.t)) (go_keep) (first | (go_at_call 33; refine (refAhead_any y x _).mono ?_; rintro e w1 ⟨rfl, hb1⟩; obtain ⟨ky1, ky2, ky3⟩ := CA.after hyr hb1 hgq; obtain ⟨kx1, kx2, kx3⟩ := CA.after hxr hb1 hbq2))
              go_wp2
              go_roundw
              case rel => exact ⟨p + 1, by omega, by go_num, hbq.drew.trans (hb1.mono hszq), fun j hj => by
                by_cases e : j = p
                · subst e; rw [← HY.out]; exact c1
                · exact hlow.out j (by omega)⟩
              case measure => simp [intOf]; omega
            · have c1' : aheadB y x = false := by simpa using c1
              have C1 : Hid (aheadB y x = false) := c1'
              clear c1
              have hgq : g < wr.heap.size := by omega
              have hbq2 : bx < wr.heap.size := by have := hbel.size; omega
              have heq : ∀ w : World, (Op.equalIn 10000 50 (.agg #[.int .i64 y.f, .int .i64 y.e, .int .i64 y.t]) (.agg #[.int .i64 x.f, .int .i64 x.e, .int .i64 x.t])).run Try.prog w = .ok (arrEqB y x) w := run_equalIn_arrow y x
              have hgd := run_guard_arrow
              go_wp2
              go_region_held3 (fun w' => w'.cell? ⟨g, p * 3, none⟩ = some (.int .i64 y.f) ∧ w'.cell? ⟨g, p * 3 + 1, none⟩ = some (.int .i64 y.e) ∧ w'.cell? ⟨g, p * 3 + 2, none⟩ = some (.int .i64 y.t) ∧ w'.cell? ⟨bx, ox + k * 3, none⟩ = some (.int .i64 x.f) ∧ w'.cell? ⟨bx, ox + k * 3 + 1, none⟩ = some (.int .i64 x.e) ∧ w'.cell? ⟨bx, ox + k * 3 + 2, none⟩ = some (.int .i64 x.t)) (go_keep) (first | (go_at_call 33; refine (refAhead_any y x _).mono ?_; rintro e w1 ⟨rfl, hb1⟩; obtain ⟨ky1, ky2, ky3⟩ := CA.after hyr hb1 hgq; obtain ⟨kx1, kx2, kx3⟩ := CA.after hxr hb1 hbq2))
              have hbo : Below wo.heap.size wo w1 := hbq.drew.trans (hb1.mono hszq)
              clear hb1 hbq hxr hyr x1 x2 x3 y1 y2 y3
              by_cases hq : arrEq y x
              · have HQ : Hid (arrEq y x) := hq
                have fq : arrEqB y x = true := by simp [arrEqB, hq]
                clear hq
                have E2 : Hid (srtA (ars.take (k + 1)) = L) := by show _ = _; rw [hnext.out]; exact insA_same hpl hlow.out (by rw [← HY.out]; exact C1.out) (by rw [← HY.out]; exact HQ.out)
                go_wp2
                go_quiet (fail)
                go_wp2
                go_roundw
                case rel => exact ⟨k + 1, by omega, by go_num, by rw [E2.out]; exact (hown.kept hbo (Nat.le_refl _)).kept (below_drewN (Below.refl _ _) _) (Nat.le_refl _), below_drewN (hbel.trans (hbo.mono hbel.size)) _⟩
                case measure => simp [intOf]; omega
              · have HQ : Hid (¬ arrEq y x) := hq
                have fq : arrEqB y x = false := by simp [arrEqB, hq]
                clear hq
                go_wp2
                go_quiet (fail)
                obtain ⟨wq, hwq⟩ : ∃ wq : World, wq = w1.drewN nq := ⟨_, rfl⟩
                have hownq : OwnA wq w.heap.size (.slice (some ⟨g, 0, none⟩) L.length cap) L := by rw [hwq]; exact (hown.kept hbo (Nat.le_refl _)).kept (below_drewN (Below.refl _ _) _) (Nat.le_refl _)
                have hbelq : Below w.heap.size w wq := by rw [hwq]; exact below_drewN (hbel.trans (hbo.mono hbel.size)) _
                rw [← hwq]
                clear hwq
                have HE : Hid (p = L.length ∨ (aheadB (L[p]?.getD arr0) x = false ∧ ¬ arrEq (L[p]?.getD arr0) x)) := .inr (by rw [← HY.out]; exact ⟨C1.out, HQ.out⟩)
                have kxq : CA wq bx (ox + k * 3) x := hx0.below hbelq hbx
                obtain ⟨g0, cap0, e0, hg1q, hgq2, hcLq, hcap0, hcm0⟩ := (hownq.forms).resolve_left (by rintro ⟨h, _⟩; cases h)
                simp only [Value.slice.injEq, Option.some.injEq, Addr.mk.injEq, and_true, true_and] at e0
                obtain ⟨rfl, rfl⟩ := e0
                have hszq2 := hbelq.size
                have o0 : OwnA (wq.alloc (.cells #[] 50)) wq.heap.size (.slice (some ⟨wq.heap.size, 0, none⟩) 0 0) [] := ownA_empty wq _ (Nat.le_refl _)
                have ba : Below wq.heap.size wq (wq.alloc (.cells #[] 50)) := (Below.refl _ _).alloc (Nat.le_refl _) _
                have hne : ¬ cap = p := by omega
                have a0 : AtA (wq.alloc (.cells #[] 50)) (some ⟨g, p * 3, none⟩) (L.drop p) := AtA.below (.inr ⟨g, p * 3, rfl, hgq2, cellsA_drop hcLq p⟩) ba (Nat.le_refl _)
                have dl : (L.drop p).length = L.length - p := List.length_drop ..
                have DL : Hid ((L.drop p).length = L.length - p) := dl
                clear dl
                go_wp2_with (at_builtin; refine wpList_append_arrs _ rfl (.tmp 45) (.tmp 48) 23 rfl wq.heap.size i0 Try.underlying23 hi hz0 hz1 hz2 _ [] rfl o0 (some ⟨g, p * 3, none⟩) (cap - p) (L.drop p) (by rw [DL.out]; rfl) a0 (by intro h; cases h) (by rw [DL.out]; simp only [List.length_nil]; omega) (by simp) ?_)
                intro rest w9 o9 g9 n9
                have bel9 : Below wq.heap.size wq w9 := ba.grown g9 (by simp) (fun k hk => by simp [Value.ownBlock] at hk; omega)
                obtain ⟨g', c', e9, hg1', hg2', hc9, -, -⟩ := (o9.forms).resolve_left (fun h => n9 h.1)
                subst e9
                clear o9 g9 n9 o0 ba a0
                have own9 := hownq.kept bel9 (Nat.le_refl _)
                have hT9 : w9.ownsRow w.heap.size 50 3 (.slice (some ⟨g, 0, none⟩) p cap) p (aflat (L.take p)) := own_take own9 hp
                have kx9 : CA w9 bx (ox + k * 3) x := kxq.below bel9 (by omega)
                have kx9f := kx9.f
                have kx9e := kx9.e
                have kx9t := kx9.t
                have hsz9 : wq.heap.size ≤ w9.heap.size := bel9.size
                have hbx9 : bx < w9.heap.size := by omega
                have hg9 : g < w9.heap.size := by omega
                have hgg : ¬ g' = g := by omega
                have hbg : ¬ bx = g := by omega
                have sp1 : (p : Int) ≤ (cap : Int) := by omega
                have sp2 : p ≤ cap := by omega
                have sp3 : p ≤ L.length := hp
                rw [DL.out]
                go_wp2
                go_region_held3 (fun w' => w'.cell? ⟨bx, ox + k * 3, none⟩ = some (.int .i64 x.f) ∧ w'.cell? ⟨bx, ox + k * 3 + 1, none⟩ = some (.int .i64 x.e) ∧ w'.cell? ⟨bx, ox + k * 3 + 2, none⟩ = some (.int .i64 x.t)) (go_keep) (first | (refine step_append_own rfl (.tmp 52) (.tmp 57) 23 rfl w.heap.size 50 i0 (aval arr0) 3 24 Try.underlying23 hi hz0 hz1 hz2 rfl (by decide) (.slice (some ⟨g, 0, none⟩) p cap) p (aflat (L.take p)) rfl (ownsRow_lay hT9 _) ⟨w9.heap.size, 0, none⟩ 1 1 [.int .i64 x.f, .int .i64 x.e, .int .i64 x.t] rfl rfl (cells_lay w9 _ _ _ _) (aflat_one [x]) (by unfold maxLen; omega) (by omega) (by simp; omega) ?_; intro v1 w10 o10 g10; obtain ⟨kt1, kt2, kt3⟩ := CA.laid kx9 hbx9 g10 hbg; have hn10 := news_laid hc9 hg2' g10 hgg) | (refine step_append_own rfl (.tmp 58) (.tmp 59) 23 rfl w.heap.size 50 i0 (aval arr0) 3 24 Try.underlying23 hi hz0 hz1 hz2 rfl (by decide) v1 (p + 1) (aflat (L.take p) ++ [.int .i64 x.f, .int .i64 x.e, .int .i64 x.t]) rfl o10 ⟨g', 0, none⟩ (L.length - p) c' (aflat (L.drop p)) rfl (by rw [aflat_len, List.length_drop]) hn10 (aflat_one _) (by unfold maxLen; omega) (by omega) (by have := g10.size; simp at this; omega) ?_; intro v2 w11 o11 g11; obtain ⟨ku1, ku2, ku3⟩ := CA.laid2 ⟨kt1, kt2, kt3⟩ o10 g11 hbx))
                have b10 : Below w.heap.size w w10 := below_laid (hbelq.trans (bel9.mono hszq2)) (by omega) g10 hg1q
                have b11 : Below w.heap.size w w11 := b10.grown g11 (by have := b10.size; omega) (fun j hj => (o10.lt j hj).1)
                have r1 : OwnA w11 w.heap.size v2 (srtA (ars.take (k + 1))) := by rw [hnext.out]; exact own_ins hp o11 (insA_put hp hlow.out HE.out)
                clear o10 o11 g10 g11 hT9 own9 hc9
                go_wp2
                go_roundw
                case rel => exact ⟨k + 1, by omega, by go_num, r1, b11⟩
                case measure => simp [intOf]; omega
          · obtain rfl : p = L.length := by omega
            go_wp2
            go_quiet (fail)
            go_wp2
            obtain ⟨wz, hwz⟩ : ∃ wz : World, wz = wr.drewN nq := ⟨_, rfl⟩
            have hbz : Below wo.heap.size wo wz := by rw [hwz]; exact below_drewN hbq _
            rw [← hwz]
            clear hwz hbq hxr x1 x2 x3
            go_quiet (fail)
            obtain ⟨wq, hwq⟩ : ∃ wq : World, wq = wz.drewN nq := ⟨_, rfl⟩
            have hownq : OwnA wq w.heap.size (.slice (some ⟨g, 0, none⟩) L.length cap) L := by rw [hwq]; exact (hown.kept hbz (Nat.le_refl _)).kept (below_drewN (Below.refl _ _) _) (Nat.le_refl _)
            have hbelq : Below w.heap.size w wq := by rw [hwq]; exact below_drewN (hbel.trans (hbz.mono hbel.size)) _
            rw [← hwq]
            clear hwq
            have kxq : CA wq bx (ox + k * 3) x := hx0.below hbelq hbx
            have hgq2 : g < wq.heap.size := (hownq.lt g rfl).2
            have hszq2 := hbelq.size
            have o0 : OwnA (wq.alloc (.cells #[] 50)) wq.heap.size (.slice (some ⟨wq.heap.size, 0, none⟩) 0 0) [] := ownA_empty wq _ (Nat.le_refl _)
            have ba : Below wq.heap.size wq (wq.alloc (.cells #[] 50)) := (Below.refl _ _).alloc (Nat.le_refl _) _
            by_cases hcp : cap = L.length
            · subst hcp
              go_wp2_with (at_builtin; refine wpList_append_arrs _ rfl (.tmp 45) (.tmp 48) 23 rfl wq.heap.size i0 Try.underlying23 hi hz0 hz1 hz2 _ [] rfl o0 (some ⟨g, 0, none⟩) 0 [] rfl (.inl rfl) (by intro h; cases h) (by simp) (by simp) ?_)
              intro rest w9 o9 g9 n9
              have bel9 : Below wq.heap.size wq w9 := ba.grown g9 (by simp) (fun k hk => by simp [Value.ownBlock] at hk; omega)
              obtain ⟨g', c', e9, hg1', hg2', hc9, -, -⟩ := (o9.forms).resolve_left (fun h => n9 h.1)
              subst e9
              clear o9 g9 n9 o0 ba
              have own9 := hownq.kept bel9 (Nat.le_refl _)
              have kx9 : CA w9 bx (ox + k * 3) x := kxq.below bel9 (by omega)
              have kx9f := kx9.f
              have kx9e := kx9.e
              have kx9t := kx9.t
              have hsz9 : wq.heap.size ≤ w9.heap.size := bel9.size
              have hbx9 : bx < w9.heap.size := by omega
              have hg9 : g < w9.heap.size := by omega
              have hbg : ¬ bx = g := by omega
              have sp1 : (L.length : Int) ≤ (L.length : Int) := by omega
              go_wp2
              go_region_held3 (fun w' => w'.cell? ⟨bx, ox + k * 3, none⟩ = some (.int .i64 x.f) ∧ w'.cell? ⟨bx, ox + k * 3 + 1, none⟩ = some (.int .i64 x.e) ∧ w'.cell? ⟨bx, ox + k * 3 + 2, none⟩ = some (.int .i64 x.t)) (go_keep) (first | (refine step_append_own rfl (.tmp 52) (.tmp 57) 23 rfl w.heap.size 50 i0 (aval arr0) 3 24 Try.underlying23 hi hz0 hz1 hz2 rfl (by decide) (.slice (some ⟨g, 0, none⟩) L.length L.length) L.length (aflat L) rfl (ownsRow_lay own9 _) ⟨w9.heap.size, 0, none⟩ 1 1 [.int .i64 x.f, .int .i64 x.e, .int .i64 x.t] rfl rfl (cells_lay w9 _ _ _ _) (aflat_one [x]) (by unfold maxLen; omega) (by omega) (by simp; omega) ?_; intro v1 w10 o10 g10; obtain ⟨kt1, kt2, kt3⟩ := CA.laid kx9 hbx9 g10 hbg) | (refine step_append_own rfl (.tmp 58) (.tmp 59) 23 rfl w.heap.size 50 i0 (aval arr0) 3 24 Try.underlying23 hi hz0 hz1 hz2 rfl (by decide) v1 (L.length + 1) ((aflat L) ++ [.int .i64 x.f, .int .i64 x.e, .int .i64 x.t]) rfl o10 ⟨g', 0, none⟩ 0 c' [] rfl rfl (fun j u hu => by simp at hu) (fun u hu => by simp at hu) (by unfold maxLen; omega) (by omega) (by have := g10.size; simp at this; omega) ?_; intro v2 w11 o11 g11; obtain ⟨ku1, ku2, ku3⟩ := CA.laid2 ⟨kt1, kt2, kt3⟩ o10 g11 hbx))
              have b10 : Below w.heap.size w w10 := below_laid (hbelq.trans (bel9.mono hszq2)) (by omega) g10 hg1
              have b11 : Below w.heap.size w w11 := b10.grown g11 (by have := b10.size; omega) (fun j hj => (o10.lt j hj).1)
              have r1 : OwnA w11 w.heap.size v2 (srtA (ars.take (k + 1))) := by rw [hnext.out]; exact own_ins2 o11 (insA_end hlow.out)
              clear o10 o11 g10 g11
              go_wp2
              go_roundw
              case rel => exact ⟨k + 1, by omega, by go_num, r1, b11⟩
              case measure => simp [intOf]; omega
            · go_wp2_with (at_builtin; refine wpList_append_arrs _ rfl (.tmp 45) (.tmp 48) 23 rfl wq.heap.size i0 Try.underlying23 hi hz0 hz1 hz2 _ [] rfl o0 (some ⟨g, L.length * 3, none⟩) (cap - L.length) [] rfl (.inl rfl) (by intro h; cases h) (by simp) (by simp) ?_)
              intro rest w9 o9 g9 n9
              have bel9 : Below wq.heap.size wq w9 := ba.grown g9 (by simp) (fun k hk => by simp [Value.ownBlock] at hk; omega)
              obtain ⟨g', c', e9, hg1', hg2', hc9, -, -⟩ := (o9.forms).resolve_left (fun h => n9 h.1)
              subst e9
              clear o9 g9 n9 o0 ba
              have own9 := hownq.kept bel9 (Nat.le_refl _)
              have kx9 : CA w9 bx (ox + k * 3) x := kxq.below bel9 (by omega)
              have kx9f := kx9.f
              have kx9e := kx9.e
              have kx9t := kx9.t
              have hsz9 : wq.heap.size ≤ w9.heap.size := bel9.size
              have hbx9 : bx < w9.heap.size := by omega
              have hg9 : g < w9.heap.size := by omega
              have hbg : ¬ bx = g := by omega
              have sp1 : (L.length : Int) ≤ (cap : Int) := by omega
              go_wp2
              go_region_held3 (fun w' => w'.cell? ⟨bx, ox + k * 3, none⟩ = some (.int .i64 x.f) ∧ w'.cell? ⟨bx, ox + k * 3 + 1, none⟩ = some (.int .i64 x.e) ∧ w'.cell? ⟨bx, ox + k * 3 + 2, none⟩ = some (.int .i64 x.t)) (go_keep) (first | (refine step_append_own rfl (.tmp 52) (.tmp 57) 23 rfl w.heap.size 50 i0 (aval arr0) 3 24 Try.underlying23 hi hz0 hz1 hz2 rfl (by decide) (.slice (some ⟨g, 0, none⟩) L.length cap) L.length (aflat L) rfl (ownsRow_lay own9 _) ⟨w9.heap.size, 0, none⟩ 1 1 [.int .i64 x.f, .int .i64 x.e, .int .i64 x.t] rfl rfl (cells_lay w9 _ _ _ _) (aflat_one [x]) (by unfold maxLen; omega) (by omega) (by simp; omega) ?_; intro v1 w10 o10 g10; obtain ⟨kt1, kt2, kt3⟩ := CA.laid kx9 hbx9 g10 hbg) | (refine step_append_own rfl (.tmp 58) (.tmp 59) 23 rfl w.heap.size 50 i0 (aval arr0) 3 24 Try.underlying23 hi hz0 hz1 hz2 rfl (by decide) v1 (L.length + 1) ((aflat L) ++ [.int .i64 x.f, .int .i64 x.e, .int .i64 x.t]) rfl o10 ⟨g', 0, none⟩ 0 c' [] rfl rfl (fun j u hu => by simp at hu) (fun u hu => by simp at hu) (by unfold maxLen; omega) (by omega) (by have := g10.size; simp at this; omega) ?_; intro v2 w11 o11 g11; obtain ⟨ku1, ku2, ku3⟩ := CA.laid2 ⟨kt1, kt2, kt3⟩ o10 g11 hbx))
              have b10 : Below w.heap.size w w10 := below_laid (hbelq.trans (bel9.mono hszq2)) (by omega) g10 hg1
              have b11 : Below w.heap.size w w11 := b10.grown g11 (by have := b10.size; omega) (fun j hj => (o10.lt j hj).1)
              have r1 : OwnA w11 w.heap.size v2 (srtA (ars.take (k + 1))) := by rw [hnext.out]; exact own_ins2 o11 (insA_end hlow.out)
              clear o10 o11 g10 g11
              go_wp2
              go_roundw
              case rel => exact ⟨k + 1, by omega, by go_num, r1, b11⟩
              case measure => simp [intOf]; omega
    · rw [List.take_of_length_le (by omega)] at hown
      go_wp2
      go_ret
      exact ⟨_, rfl, hown, hbel⟩

/-- What a call that hands back a slice of arrows leaves. -/
def GivesA (w : World) (L : List Arr) (e : Ending) (w' : World) : Prop := ∃ a cap, e = .returned (.slice a L.length cap) ∧ AtA w' a L ∧ L.length ≤ cap ∧ cap ≤ maxLen ∧ (a = none → cap = 0) ∧ Below w.heap.size w w'

set_option maxHeartbeats 400000 in
theorem refSort_nil (a : Option Addr) (cx : Nat) (w : World) :
    Calls Try.prog 21 #[.slice a 0 cx] w fun e w' => e = .returned (.slice none 0 0) ∧ w' = w := by
  go_enter Try.func21, Try.ntmps21
  go_wp2
  refine wp_loop_rounds 1 ?_
  rw [rounds_succ]
  go_wp2
  go_ret
  exact ⟨rfl, rfl⟩

theorem refSort_any (a : Option Addr) (cx : Nat) (ars : List Arr) (w : World) (hs : AtA w a ars) (hl : ars.length ≤ 1073741824) :
    Calls Try.prog 21 #[.slice a ars.length cx] w fun e w' => GivesA w (srtA ars) e w' := by
  rcases hs with rfl | ⟨b, off, rfl, hb, hc⟩
  · refine (refSort_nil a cx w).mono ?_
    rintro e w' ⟨rfl, rfl⟩
    exact ⟨none, 0, rfl, .inl rfl, Nat.le_refl _, Nat.zero_le _, fun _ => rfl, Below.refl _ _⟩
  · refine (refSort_some b off cx ars w hl hb hc).mono ?_
    rintro e w' ⟨v, rfl, h1, h2⟩
    obtain ⟨a, cap, rfl, r1, r2, r3, r4⟩ := h1.at
    exact ⟨a, cap, rfl, r1, r2, r3, r4, h2⟩

end Go.Proofs.Ytdnglodemkeooaa
namespace Go.Proofs.Ytdnglodemkeooaa
open Go.RowKit
set_option linter.unusedVariables false

theorem getD_cons_succ' (y : Int) (r : List Int) (j : Nat) : (y :: r)[j + 1]?.getD 0 = r[j]?.getD 0 := by simp

theorem ins_put {x : Int} : ∀ {L : List Int} {p : Nat}, p ≤ L.length → (∀ j, j < p → L[j]?.getD 0 < x) → (p = L.length ∨ x < L[p]?.getD 0) → ins x L = L.take p ++ x :: L.drop p
  | [], p, hp, _, _ => by have : p = 0 := by simpa using hp
                          subst this; simp [ins]
  | y :: r, 0, _, _, h => by
    rcases h with h | h
    · simp at h
    · have h : x < y := by simpa using h
      simp only [ins, List.take_zero, List.drop_zero, List.nil_append]
      rw [if_neg (by omega), if_neg (by omega)]
  | y :: r, p + 1, hp, hl, h => by
    have h0 : y < x := by simpa using hl 0 (by omega)
    have := ins_put (x := x) (L := r) (p := p) (by simpa using hp) (fun j hj => by have := hl (j + 1) (by omega); rwa [getD_cons_succ'] at this) (by rcases h with h | h; left; simpa using h; right; rwa [getD_cons_succ'] at h)
    simp only [ins]
    rw [if_pos h0, this]
    simp
theorem ins_same {x : Int} : ∀ {L : List Int} {p : Nat}, p < L.length → (∀ j, j < p → L[j]?.getD 0 < x) → L[p]?.getD 0 = x → ins x L = L
  | [], p, hp, _, _ => by simp at hp
  | y :: r, 0, _, _, h => by
    have h : y = x := by simpa using h
    simp only [ins]
    rw [if_neg (by omega), if_pos h]
  | y :: r, p + 1, hp, hl, h => by
    have h0 : y < x := by simpa using hl 0 (by omega)
    have := ins_same (x := x) (L := r) (p := p) (by simpa using hp) (fun j hj => by have := hl (j + 1) (by omega); rwa [getD_cons_succ'] at this) (by rwa [getD_cons_succ'] at h)
    simp only [ins]
    rw [if_pos h0, this]

/-- The list with one place more, at c. -/
def gap (L : List Int) (c : Nat) (y : Int) : List Int := L.take c ++ y :: L.drop c

theorem gap_len {L : List Int} {c : Nat} {y : Int} (h : c ≤ L.length) : (gap L c y).length = L.length + 1 := by simp [gap]; omega
theorem gap_end (L : List Int) : L ++ [0] = gap L L.length 0 := by simp [gap]
theorem gap_at {L : List Int} {c : Nat} {y : Int} (h : c < L.length) : (gap L (c + 1) y)[c]?.getD 0 = L[c]?.getD 0 := by
  rw [gap, List.getElem?_append_left (by simp; omega), List.getElem?_take_of_lt (by omega)]
theorem gap_set {L : List Int} {c : Nat} {y x : Int} (h : c ≤ L.length) : (gap L c y).set c x = gap L c x := by
  rw [gap, gap, List.set_append_right _ _ (by simp; omega)]
  simp only [List.length_take]
  rw [show c - min c L.length = 0 by omega]; rfl
theorem gap_move {L : List Int} {c : Nat} {y : Int} (h : c < L.length) : (gap L (c + 1) y).set (c + 1) (L[c]?.getD 0) = gap L c (L[c]?.getD 0) := by
  rw [gap_set (by omega), gap, gap, List.take_add_one, List.getElem?_eq_getElem h]
  conv => rhs; rw [List.drop_eq_getElem_cons h]
  simp only [Option.toList_some, Option.getD_some, List.append_assoc, List.singleton_append]

theorem Own.cellAt {w : World} {B g n cap : Nat} {M : List Int} (h : Own w B (.slice (some ⟨g, 0, none⟩) n cap) M) {j : Nat} (hj : j < M.length) : w.cell? ⟨g, j, none⟩ = some (.int .i64 (M[j]?.getD 0)) ∧ w.frozen? ⟨g, j, none⟩ = false ∧ B ≤ g := by
  rcases h.cells_of with ⟨h0, _⟩ | ⟨g', cap', h0, hb, hg, hc, hf⟩
  · simp at h0
  · simp only [Value.slice.injEq, Option.some.injEq, Addr.mk.injEq, and_true] at h0
    obtain ⟨rfl, rfl, rfl⟩ := h0
    have := hc j hj
    rw [Nat.zero_add, List.getD_eq_getElem?_getD] at this
    exact ⟨this, hf j, hb⟩
theorem Own.stored {w : World} {B g n cap : Nat} {M : List Int} (h : Own w B (.slice (some ⟨g, 0, none⟩) n cap) M) (j : Nat) (x : Int) : Own (w.setCell ⟨g, j, none⟩ (.int .i64 x)) B (.slice (some ⟨g, 0, none⟩) n cap) (M.set j x) := by
  have hn : n = M.length := by
    rcases h.2 with ⟨h0, _⟩ | ⟨g', cap', cur, h0, _⟩
    · simp at h0
    · simp only [Value.slice.injEq] at h0; exact h0.2.1
  subst hn
  have := (World.ownsRow.stored h j (.int .i64 x)).1
  unfold Own
  rw [List.length_set, List.map_set]
  exact this
theorem Own.shape {w : World} {B : Nat} {v : Value} {M : List Int} (h : Own w B v M) (hp : 0 < M.length) : ∃ g cap, v = .slice (some ⟨g, 0, none⟩) M.length cap := by
  rcases h.cells_of with ⟨_, h0⟩ | ⟨g', cap', h0, _⟩
  · subst h0; simp at hp
  · exact ⟨g', cap', h0⟩

theorem srt_take {xs : List Int} {k : Nat} {x : Int} (h : k < xs.length) (hx : Hid (x = xs[k]?.getD 0)) : srt (xs.take (k + 1)) = ins x (srt (xs.take k)) := by
  have hx := hx.out
  rw [List.getElem?_eq_getElem h, Option.getD_some] at hx
  rw [List.take_add_one, List.getElem?_eq_getElem h, Option.toList_some, srt_snoc, hx]

set_option maxHeartbeats 2000000 in
set_option maxRecDepth 100000 in
theorem sorted_some (bx ox cx : Nat) (xs : List Int) (w : World) (hl : xs.length ≤ 17592186044416) (hbx : bx < w.heap.size) (hc : Cells w bx ox xs) :
    Calls Try.prog 43 #[.slice (some ⟨bx, ox, none⟩) xs.length cx] w fun e w' => ∃ v, e = .returned v ∧ Own w' w.heap.size v (srt xs) ∧ Below w.heap.size w w' := by
  obtain ⟨i0, hi, hz0, hz1, hz2⟩ := info_parts Try.infoInt
  go_enter Try.func43, Try.ntmps43
  go_wp2
  go_loopw [3, 4] (fun v i wr => ∃ k : Nat, k ≤ xs.length ∧ i = .int .i64 k ∧ Own wr w.heap.size v (srt (xs.take k)) ∧ Below w.heap.size w wr) (fun _ i _ => xs.length - (intOf i).toNat)
  case atStart => exact ⟨0, Nat.zero_le _, rfl, own_nil _ _, Below.refl _ _⟩
  case round =>
    obtain ⟨k, hk, rfl, hown, hbel⟩ := hrel
    by_cases hlt : k < xs.length
    · obtain ⟨x, HX, hcx0⟩ := hc.at hlt
      obtain ⟨wo, hwo⟩ : ∃ wo : World, wo = wr := ⟨_, rfl⟩
      subst hwo
      have hcx : wo.cell? ⟨bx, ox + k, none⟩ = some (.int .i64 x) := (hbel.cell (p := ⟨bx, ox + k, none⟩) hbx).trans hcx0
      have hcx00 := hcx0
      clear hcx0
      have hnext : Hid (srt (xs.take (k + 1)) = ins x (srt (xs.take k))) := srt_take hlt HX
      have hll : (srt (xs.take k)).length ≤ k := Nat.le_trans (srt_len _) (List.length_take_le _ _)
      generalize srt (xs.take k) = L at *
      obtain ⟨a, cap, rfl, hat, hlm⟩ := hown.at
      unfold maxLen at hlm
      go_wp2
      go_loopw [5] (fun i wr' => ∃ p q : Nat, p ≤ L.length ∧ i = .int .i64 p ∧ wr' = wo.drewN q ∧ Hid (∀ j, j < p → L[j]?.getD 0 < x)) (fun i _ => L.length - (intOf i).toNat)
      case atStart => exact ⟨0, 0, Nat.zero_le _, rfl, rfl, fun j hj => by omega⟩
      case round =>
        obtain ⟨p, q, hp, rfl, rfl, hlow⟩ := hrel
        by_cases hpl : p < L.length
        · rcases hat with h0 | ⟨b, off, rfl, hb, hca⟩
          · subst h0; simp at hpl
          · obtain ⟨y, HY, hcy⟩ := hca.at hpl
            by_cases c1 : y < x
            · have d : decide (y < x) = true := by simpa using c1
              go_wp2
              go_quiet (fail)
              go_wp2
              go_roundw
              case rel => exact ⟨p + 1, _, by omega, by go_num, rfl, fun j hj => by
                by_cases e : j = p
                · subst e; have := HY.out; omega
                · exact hlow.out j (by omega)⟩
              case measure => simp [intOf]; omega
            · have d : decide (y < x) = false := by simpa using c1
              go_wp2
              go_quiet (fail)
              go_wp2
              obtain ⟨Q, hQ⟩ : ∃ Q, (wo.drewN q).drewN nq = wo.drewN Q := ⟨_, World.drewN_drewN _ _ _⟩
              rw [hQ]
              clear hQ
              by_cases c2 : y = x
              · have HC : Hid (y = x) := c2
                have d2 : (y == x) = true := by simp [c2]
                clear c2
                have E2 : Hid (srt (xs.take (k + 1)) = L) := by show _ = _; rw [hnext.out]; exact ins_same hpl hlow.out (by rw [← HY.out]; exact HC.out)
                go_quiet (fail)
                go_wp2
                go_roundw
                case rel => exact ⟨k + 1, by omega, by go_num, by rw [E2.out]; exact hown.drewN _, below_drewN hbel _⟩
                case measure => simp [intOf]; omega
              · have d2 : (y == x) = false := by simp [c2]
                go_quiet (fail)
                obtain ⟨Q', hQ'⟩ : ∃ Q', (wo.drewN Q).drewN nq = wo.drewN Q' := ⟨_, World.drewN_drewN _ _ _⟩
                rw [hQ']
                clear hQ'
                have HE : Hid (p = L.length ∨ x < L[p]?.getD 0) := .inr (by have := HY.out; omega)
                obtain ⟨wq, hwq⟩ : ∃ wq : World, wq = wo.drewN Q' := ⟨_, rfl⟩
                have hown0 : Own wq w.heap.size (.slice (some ⟨b, off, none⟩) L.length cap) L := by rw [hwq]; exact hown.drewN Q'
                have hbelo : Below w.heap.size w wq := by rw [hwq]; exact below_drewN hbel _
                have hcxq : wq.cell? ⟨bx, ox + k, none⟩ = some (.int .i64 x) := by rw [hwq]; exact hcx
                rw [← hwq]
                clear hwq hown hbel hcx
                have hszo : w.heap.size ≤ wq.heap.size := hbelo.size
                have hbxq : bx < wq.heap.size := by omega
                go_wp2_with (at_builtin; refine wpList_append_own _ rfl _ _ 22 rfl w.heap.size 3 i0 (.int .i64 0) 1 8 Try.underlying22 hi hz0 hz1 hz2 rfl (by decide) _ _ _ rfl (World.ownsRow.alloc hown0 _) ⟨wq.heap.size, 0, none⟩ 1 1 [.int .i64 0] rfl rfl (cell_one_new _ _ _) (by intro u hu; simp at hu; subst hu; rfl) (by unfold maxLen; omega) (by omega) (by simp; omega) ?_)
                intro v' w1 hown' hgrow _
                obtain ⟨o1, o2, -⟩ := own_snoc hown0 hbelo hszo hown' hgrow
                clear hown' hgrow hown0 hcxq
                obtain ⟨g, cap', rfl⟩ := o1.shape (by simp)
                rw [List.length_append, List.length_singleton] at o1 ⊢
                rw [gap_end] at o1
                go_wp2
                go_loopw [6] (fun i wr' => ∃ (c : Nat) (z : Int), p ≤ c ∧ c ≤ L.length ∧ i = .int .i64 c ∧ Own wr' w.heap.size (.slice (some ⟨g, 0, none⟩) (L.length + 1) cap') (gap L c z) ∧ Below w.heap.size w wr') (fun i _ => (intOf i).toNat)
                case atStart => exact ⟨L.length, 0, hp, Nat.le_refl _, by go_num, o1, o2⟩
                case round =>
                  obtain ⟨c, z, hc1, hc2, rfl, ow, bw⟩ := hrel
                  clear o1 o2
                  by_cases hcp : p < c
                  · obtain ⟨e, rfl⟩ : ∃ e, c = e + 1 := ⟨c - 1, by omega⟩
                    have hgl := gap_len (y := z) hc2
                    obtain ⟨f1, f2, f3⟩ := ow.cellAt (j := e) (by omega)
                    obtain ⟨f4, f5, -⟩ := ow.cellAt (j := e + 1) (by omega)
                    rw [gap_at (by omega)] at f1
                    have ow' := ow.stored (e + 1) (L[e]?.getD 0)
                    rw [gap_move (by omega)] at ow'
                    have bw' := bw.setCell (p := ⟨g, e + 1, none⟩) f3 (.int .i64 (L[e]?.getD 0))
                    generalize L[e]?.getD 0 = u at *
                    generalize (gap L (e + 1) z)[e + 1]?.getD 0 = u' at *
                    clear ow
                    go_wp2
                    go_roundw
                    case rel => exact ⟨e, u, by omega, by omega, by go_num, ow', bw'⟩
                    case measure => simp [intOf]
                  · have hcp' : c = p := by omega
                    subst hcp'
                    have hgl := gap_len (y := z) hc2
                    obtain ⟨f1, f2, f3⟩ := ow.cellAt (j := c) (by omega)
                    have hcx2 : wr.cell? ⟨bx, ox + k, none⟩ = some (.int .i64 x) := (bw.cell (p := ⟨bx, ox + k, none⟩) hbx).trans hcx00
                    have ow' := ow.stored c x
                    rw [gap_set hc2, gap, ← ins_put hc2 hlow.out HE.out, ← hnext.out] at ow'
                    have bw' := bw.setCell (p := ⟨g, c, none⟩) f3 (.int .i64 x)
                    generalize (gap L c z)[c]?.getD 0 = u' at *
                    clear ow
                    go_wp2
                    go_roundw
                    case rel => exact ⟨k + 1, by omega, by go_num, ow', bw'⟩
                    case measure => simp [intOf]; omega
        · go_wp2
          go_quiet (fail)
          go_wp2
          obtain ⟨Q, hQ⟩ : ∃ Q, (wo.drewN q).drewN nq = wo.drewN Q := ⟨_, World.drewN_drewN _ _ _⟩
          rw [hQ]
          clear hQ
          go_quiet (fail)
          obtain ⟨Q', hQ'⟩ : ∃ Q', (wo.drewN Q).drewN nq = wo.drewN Q' := ⟨_, World.drewN_drewN _ _ _⟩
          rw [hQ']
          clear hQ'
          have HE : Hid (p = L.length ∨ x < L[p]?.getD 0) := .inl (by omega)
          obtain ⟨wq, hwq⟩ : ∃ wq : World, wq = wo.drewN Q' := ⟨_, rfl⟩
          have hown0 : Own wq w.heap.size (.slice a L.length cap) L := by rw [hwq]; exact hown.drewN Q'
          have hbelo : Below w.heap.size w wq := by rw [hwq]; exact below_drewN hbel _
          have hcxq : wq.cell? ⟨bx, ox + k, none⟩ = some (.int .i64 x) := by rw [hwq]; exact hcx
          rw [← hwq]
          clear hwq hown hbel hcx hat
          have hszo : w.heap.size ≤ wq.heap.size := hbelo.size
          have hbxq : bx < wq.heap.size := by omega
          go_wp2_with (at_builtin; refine wpList_append_own _ rfl _ _ 22 rfl w.heap.size 3 i0 (.int .i64 0) 1 8 Try.underlying22 hi hz0 hz1 hz2 rfl (by decide) _ _ _ rfl (World.ownsRow.alloc hown0 _) ⟨wq.heap.size, 0, none⟩ 1 1 [.int .i64 0] rfl rfl (cell_one_new _ _ _) (by intro u hu; simp at hu; subst hu; rfl) (by unfold maxLen; omega) (by omega) (by simp; omega) ?_)
          intro v' w1 hown' hgrow _
          obtain ⟨o1, o2, -⟩ := own_snoc hown0 hbelo hszo hown' hgrow
          clear hown' hgrow hown0 hcxq
          obtain ⟨g, cap', rfl⟩ := o1.shape (by simp)
          rw [List.length_append, List.length_singleton] at o1 ⊢
          rw [gap_end] at o1
          go_wp2
          go_loopw [6] (fun i wr' => ∃ (c : Nat) (z : Int), p ≤ c ∧ c ≤ L.length ∧ i = .int .i64 c ∧ Own wr' w.heap.size (.slice (some ⟨g, 0, none⟩) (L.length + 1) cap') (gap L c z) ∧ Below w.heap.size w wr') (fun i _ => (intOf i).toNat)
          case atStart => exact ⟨L.length, 0, hp, Nat.le_refl _, by go_num, o1, o2⟩
          case round =>
            obtain ⟨c, z, hc1, hc2, rfl, ow, bw⟩ := hrel
            clear o1 o2
            by_cases hcp : p < c
            · omega
            · have hcp' : c = p := by omega
              subst hcp'
              have hgl := gap_len (y := z) hc2
              obtain ⟨f1, f2, f3⟩ := ow.cellAt (j := c) (by omega)
              have hcx2 : wr.cell? ⟨bx, ox + k, none⟩ = some (.int .i64 x) := (bw.cell (p := ⟨bx, ox + k, none⟩) hbx).trans hcx00
              have ow' := ow.stored c x
              rw [gap_set hc2, gap, ← ins_put hc2 hlow.out HE.out, ← hnext.out] at ow'
              have bw' := bw.setCell (p := ⟨g, c, none⟩) f3 (.int .i64 x)
              generalize (gap L c z)[c]?.getD 0 = u' at *
              clear ow
              go_wp2
              go_roundw
              case rel => exact ⟨k + 1, by omega, by go_num, ow', bw'⟩
              case measure => simp [intOf]; omega
    · rw [List.take_of_length_le (by omega)] at hown
      go_wp2
      go_ret
      exact ⟨_, rfl, hown, hbel⟩

set_option maxHeartbeats 400000 in
theorem sorted_nil (a : Option Addr) (cx : Nat) (w : World) :
    Calls Try.prog 43 #[.slice a 0 cx] w fun e w' => e = .returned (.slice none 0 0) ∧ w' = w := by
  go_enter Try.func43, Try.ntmps43
  go_wp2
  refine wp_loop_rounds 1 ?_
  rw [rounds_succ]
  go_wp2
  go_ret
  exact ⟨rfl, rfl⟩

end Go.Proofs.Ytdnglodemkeooaa
namespace Go.Proofs.Ytdnglodemkeooaa
open Go.RowKit

theorem Own.low {w : World} {B B' : Nat} {v : Value} {xs : List Int} (h : Own w B v xs) (hB : B' ≤ B) : Own w B' v xs := by
  refine ⟨h.1, ?_⟩
  rcases h.2 with hn | ⟨g, cap, cur, e, hg, rest⟩
  · exact .inl hn
  · exact .inr ⟨g, cap, cur, e, Nat.le_trans hB hg, rest⟩
theorem GivesO.gives {w : World} {xs : List Int} {e : Ending} {w' : World} (h : GivesO w xs e w') : Gives w xs e w' := by
  obtain ⟨v, rfl, h1, h2⟩ := h
  exact gives_of_own h1 h2
theorem sorted_own (a : Option Addr) (cx : Nat) (xs : List Int) (w : World) (hs : At w a xs) (hl : xs.length ≤ 17592186044416) :
    Calls Try.prog 43 #[.slice a xs.length cx] w fun e w' => GivesO w (srt xs) e w' := by
  rcases hs with rfl | ⟨b, off, rfl, hb, hc⟩
  · refine (sorted_nil a cx w).mono ?_
    rintro e w' ⟨rfl, rfl⟩
    exact ⟨_, rfl, own_nil _ _, Below.refl _ _⟩
  · refine (sorted_some b off cx xs w hl hb hc).mono ?_
    rintro e w' ⟨v, rfl, h1, h2⟩
    exact ⟨v, rfl, h1, h2⟩

end Go.Proofs.Ytdnglodemkeooaa
namespace Go.Proofs.Ytdnglodemkeooaa
open Go.RowKit
set_option linter.unusedVariables false

set_option maxHeartbeats 2000000 in
set_option maxRecDepth 100000 in
theorem refStep_some (st ev : Int) (starts : List Int) (ars : List Arr) (ends : List Int) (a1 : Option Addr) (c1 b off c2 : Nat) (a3 : Option Addr) (c3 : Nat) (sa : Option Addr) (sc : Nat) (ss : List Int) (x : Int) (w : World) (hlen : ars.length ≤ 17592186044416) (hb : b < w.heap.size) (hca : CellsA w b off ars) (hs : At w sa ss) (hl : ss.length ≤ maxLen) :
    Calls Try.prog 34 #[mval ⟨st, ev, starts, ars, ends⟩ ⟨a1, c1, some ⟨b, off, none⟩, c2, a3, c3⟩, .slice sa ss.length sc, .int .i64 x] w fun e w' => GivesO w (stepL ars ss x) e w' := by
  obtain ⟨i0, hi, hz0, hz1, hz2⟩ := info_parts Try.infoInt
  go_enter Try.func34, Try.ntmps34
  go_wp2
  go_loopw [7, 8] (fun v i wr => ∃ k : Nat, k ≤ ars.length ∧ i = .int .i64 k ∧ Own wr (w.heap.size + 1) v (stepTo (ars.take k) ss x) ∧ Below (w.heap.size + 1) (w.alloc (.cells (mcells ⟨st, ev, starts, ars, ends⟩ ⟨a1, c1, some ⟨b, off, none⟩, c2, a3, c3⟩) 25)) wr) (fun _ i _ => ars.length - (intOf i).toNat)
  case atStart => exact ⟨0, Nat.zero_le _, rfl, own_nil _ _, Below.refl _ _⟩
  case round =>
    obtain ⟨k, hk, rfl, hown, hbel⟩ := hrel
    have hold := below_box hbel
    have hsz := hbel.size
    rw [World.size_alloc] at hsz
    have hbx : w.heap.size < wr.heap.size := by omega
    have hbr : b < wr.heap.size := by omega
    have hbox := (box_cells hbel).2.2.2.1
    dsimp only at hbox
    by_cases hlt : k < ars.length
    · obtain ⟨a, HA, y0, y1, y2⟩ := hca.at hlt
      have y0' := (hold.cell (p := ⟨b, off + k * 3, none⟩) hb).trans y0
      have y1' := (hold.cell (p := ⟨b, off + k * 3 + 1, none⟩) hb).trans y1
      have y2' := (hold.cell (p := ⟨b, off + k * 3 + 2, none⟩) hb).trans y2
      clear y0 y1 y2
      have hsr := hs.below hold (Nat.le_refl _)
      have hll := stepTo_len (ars.take k) ss x
      rw [List.length_take] at hll
      have HN := stepTo_take (ss := ss) (e := x) hlt HA
      by_cases c1' : a.e = x
      · have g1 : (a.e == x) = true := by simp [c1']
        have HC : Hid (a.e = x) := c1'
        clear c1'
        go_wp2_with fail
        refine (refHas_any sa sc ss a.f _ hsr hl).mono ?_
        rintro e w1 ⟨rfl, rfl⟩
        by_cases c2' : hasB ss a.f = true
        · rw [if_pos (by rw [g1, c2']; rfl)] at HN
          have HN' : Hid (stepTo (ars.take (k + 1)) ss x = stepTo (ars.take k) ss x ++ [a.t]) := HN
          clear HN
          go_wp2_with (at_builtin; refine wpList_append_own _ rfl _ _ 22 rfl (w.heap.size + 1) 3 i0 (.int .i64 0) 1 8 Try.underlying22 hi hz0 hz1 hz2 rfl (by decide) _ _ _ rfl (World.ownsRow.alloc hown _) ⟨w1.heap.size, 0, none⟩ 1 1 [.int .i64 a.t] rfl rfl (cell_one_new _ _ _) (by intro u hu; simp at hu; subst hu; rfl) (by unfold maxLen; omega) (by omega) (by simp; omega) ?_)
          intro v' w2 hown' hgrow _
          obtain ⟨r1, r2, -⟩ := own_snoc hown hbel (by omega) hown' hgrow
          rw [← HN'.out] at r1
          clear hown' hgrow hown
          go_wp2
          go_roundw
          case rel => exact ⟨k + 1, by omega, by go_num, r1, r2⟩
          case measure => simp [intOf]; omega
        · have c3' : hasB ss a.f = false := by simpa using c2'
          rw [if_neg (by rw [c3']; simp)] at HN
          have r1 := hown
          rw [← HN] at r1
          clear HN c2'
          go_wp2
          go_roundw
          case rel => exact ⟨k + 1, by omega, by go_num, r1, hbel⟩
          case measure => simp [intOf]; omega
      · have g1 : (a.e == x) = false := by simp [c1']
        rw [if_neg (by rw [g1]; simp)] at HN
        have r1 := hown
        rw [← HN] at r1
        clear HN
        go_wp2
        go_roundw
        case rel => exact ⟨k + 1, by omega, by go_num, r1, hbel⟩
        case measure => simp [intOf]; omega
    · have htk : Hid (ars.take k = ars) := List.take_of_length_le (by omega)
      rw [htk.out] at hown
      have hl2 := stepTo_len ars ss x
      obtain ⟨a', c', rfl, h3, l3⟩ := hown.at
      go_wp2_with fail
      refine (sorted_own a' c' (stepTo ars ss x) _ h3 (by omega)).mono ?_
      rintro e w1 ⟨v4, rfl, o4, b4⟩
      have bb : Below w.heap.size w w1 := hold.trans (b4.mono (by omega))
      go_wp2
      go_ret
      exact ⟨v4, rfl, o4.low (by omega), bb⟩

set_option maxHeartbeats 400000 in
theorem refStep_nil (st ev : Int) (starts : List Int) (ends : List Int) (l : ML) (sa : Option Addr) (sc : Nat) (ss : List Int) (x : Int) (w : World) :
    Calls Try.prog 34 #[mval ⟨st, ev, starts, [], ends⟩ l, .slice sa ss.length sc, .int .i64 x] w fun e w' => GivesO w [] e w' := by
  go_enter Try.func34, Try.ntmps34
  go_wp2_with fail
  refine wp_loop_rounds 1 ?_
  rw [rounds_succ]
  go_wp2_with fail
  refine (sorted_nil none 0 _).mono ?_
  rintro e w1 ⟨rfl, rfl⟩
  go_wp2
  go_ret
  exact ⟨_, rfl, own_nil _ _, (Below.refl _ _).alloc (Nat.le_refl _) _⟩

theorem refStep_own (m : Mach) (l : ML) (sa : Option Addr) (sc : Nat) (ss : List Int) (x : Int) (w : World) (ha : AtA w l.a2 m.arrows) (hlen : m.arrows.length ≤ 17592186044416) (hs : At w sa ss) (hl : ss.length ≤ maxLen) :
    Calls Try.prog 34 #[mval m l, .slice sa ss.length sc, .int .i64 x] w fun e w' => GivesO w (stepL m.arrows ss x) e w' := by
  obtain ⟨st, ev, starts, ars, ends⟩ := m
  obtain ⟨a1, c1, a2, c2, a3, c3⟩ := l
  rcases ha with h0 | ⟨b, off, h0, hb, hc⟩
  · have h0 : ars = [] := h0
    subst h0
    exact refStep_nil st ev starts ends _ sa sc ss x w
  · have h0 : a2 = some ⟨b, off, none⟩ := h0
    subst h0
    exact refStep_some st ev starts ars ends a1 c1 b off c2 a3 c3 sa sc ss x w hlen hb hc hs hl

theorem refStep_any (m : Mach) (l : ML) (sa : Option Addr) (sc : Nat) (ss : List Int) (x : Int) (w : World) (ha : AtA w l.a2 m.arrows) (hlen : m.arrows.length ≤ 17592186044416) (hs : At w sa ss) (hl : ss.length ≤ maxLen) :
    Calls Try.prog 34 #[mval m l, .slice sa ss.length sc, .int .i64 x] w fun e w' => Gives w (stepL m.arrows ss x) e w' :=
  (refStep_own m l sa sc ss x w ha hlen hs hl).mono fun _ _ h => h.gives

end Go.Proofs.Ytdnglodemkeooaa
namespace Go.Proofs.Ytdnglodemkeooaa
open Go.RowKit
set_option linter.unusedVariables false

theorem ownsRow_lay2 {w : World} {B n : Nat} {v : Value} {vs : List Value} (h : w.ownsRow B 22 1 v n vs) (o o' : Obj) : ((w.alloc o).alloc o').drew.ownsRow B 22 1 v n vs := World.ownsRow.alloc (World.ownsRow.alloc h o) o'
theorem cell_lay2 (w : World) (o : Obj) (u : Value) (t : TypeId) : ∀ j x, [u][j]? = some x → ((w.alloc o).alloc (.cells #[u] t)).drew.cell? ((⟨w.heap.size + 1, 0, none⟩ : Addr).add j) = some x := by
  intro j x hx
  have : j = 0 := by have := (List.getElem?_eq_some_iff.1 hx).1; simp at this; omega
  subst this
  simp at hx
  subst hx
  have := (Blk.new (w.alloc o) t #[u]).cell 0 rfl
  rw [World.size_alloc] at this
  exact this
theorem cell_grown2 {w w' : World} {o o' : Obj} {B n : Nat} {v x : Value} {vs : List Value} {p : Addr} (hc : w.cell? p = some x) (g : ((w.alloc o).alloc o').drew.grownBy w' v.ownBlock) (h : w.ownsRow B 22 1 v n vs) (hp : p.block < B) : w'.cell? p = some x := by
  have hlt : p.block < w.heap.size := World.block_lt_of_cell? w p hc
  have e1 : w'.heap[p.block]? = w.heap[p.block]? := by
    rw [g.block p.block (by show _ < ((w.alloc o).alloc o').heap.size; simp; omega) (fun e => by have := (h.lt _ e.symm).1; omega)]
    show ((w.alloc o).alloc o').heap[p.block]? = _
    rw [Below.heap_alloc _ _ _ (by simp; omega), Below.heap_alloc _ _ _ hlt]
  rw [World.cell?_of_block (w := w) e1]; exact hc
theorem At.cells_of {w : World} {a : Option Addr} {xs : List Int} (h : At w a xs) {k : Nat} (hk : k < xs.length) : ∃ b off, a = some ⟨b, off, none⟩ ∧ b < w.heap.size ∧ Cells w b off xs := by
  rcases h with rfl | h
  · simp at hk
  · exact h
/-- What a call that hands back pairs leaves. -/
def Gives2 (w : World) (LL : List (List Int)) (e : Ending) (w' : World) : Prop := ∃ v, e = .returned v ∧ Own2 w' w.heap.size v LL ∧ Below w.heap.size w w'
theorem at_one (W : World) (x : Int) : At (W.alloc (.cells #[.int .i64 x] 3)) (some ⟨W.heap.size, 0, none⟩) [x] := by
  refine .inr ⟨_, 0, rfl, by simp, fun j hj => ?_⟩
  have : j = 0 := by simp at hj; omega
  subst this
  exact (Blk.new W 3 #[.int .i64 x]).cell 0 rfl
theorem Own2.lower {w : World} {B B' : Nat} {v : Value} {LL : List (List Int)} (h : Own2 w B v LL) (hB : B' ≤ B) : Own2 w B' v LL := by
  obtain ⟨vs, ho, hi⟩ := h
  refine ⟨vs, ⟨ho.1, ?_⟩, hi⟩
  rcases ho.2 with hn | ⟨g, cap, cur, e, hg, rest⟩
  · exact .inl hn
  · exact .inr ⟨g, cap, cur, e, Nat.le_trans hB hg, rest⟩
theorem mcell_at2 {W : World} {b : Nat} {m : Mach} {l : ML} (h : Blk W b 25 (mcells m l)) : W.cell? ⟨b, 0, none⟩ = some (.int .i64 m.st) ∧ W.cell? ⟨b, 1, none⟩ = some (.int .i64 m.ev) ∧ W.cell? ⟨b, 2, none⟩ = some (.slice l.a1 m.starts.length l.c1) ∧ W.cell? ⟨b, 3, none⟩ = some (.slice l.a2 m.arrows.length l.c2) ∧ W.cell? ⟨b, 4, none⟩ = some (.slice l.a3 m.ends.length l.c3) :=
  ⟨h.cell 0 rfl, h.cell 1 rfl, h.cell 2 rfl, h.cell 3 rfl, h.cell 4 rfl⟩

end Go.Proofs.Ytdnglodemkeooaa
namespace Go.Proofs.Ytdnglodemkeooaa
open Go.RowKit
set_option linter.unusedVariables false

theorem InnB.grow {W W' : World} {v : Value} {xs : List Int} {row : Option Nat} (h : InnB W v xs) (hx : v.ownBlock ≠ row) (g : W.grownBy W' row) : InnB W' v xs := by
  obtain ⟨a, c, h1, h2, h3, h4⟩ := h
  refine ⟨a, c, h1, h2, h3, ?_⟩
  rcases h4 with h4 | ⟨k, o, cs, e, hh, hc⟩
  · exact .inl h4
  · subst h1; subst e
    exact .inr ⟨k, o, cs, rfl, (g.block k (Array.getElem?_eq_some_iff.1 hh).1 hx).trans hh, hc⟩
theorem InnB.lt {W : World} {v : Value} {p : Int × Int} {k : Nat} (h : InnB W v [p.1, p.2]) (hk : v.ownBlock = some k) : k < W.heap.size := by
  obtain ⟨a, c, h1, h2, h3, h4⟩ := h
  rcases h4 with h4 | ⟨g, o, cs, e, hh, hc⟩
  · cases h4
  · subst h1; subst e
    cases hk
    exact (Array.getElem?_eq_some_iff.1 hh).1
theorem InnB.set {W : World} {v : Value} {xs : List Int} {b j : Nat} {t : TypeId} {cs : Array Value} (h : InnB W v xs) (hB : Blk W b t cs) (ht : t ≠ 3) (x : Value) : InnB (W.setCell ⟨b, j, none⟩ x) v xs :=
  h.kept fun g cs' hg => Below.heap_setCell W ⟨b, j, none⟩ x g (by
    show g ≠ b
    rintro rfl
    rw [show W.heap[g]? = _ from hB] at hg; cases hg; exact ht rfl)
/-- A row of the call's own that lies in a block of no integers leaves the inner slices alone. -/
theorem InnB.apart {W W' : World} {v v' : Value} {xs : List Int} {B s n : Nat} {e : TypeId} {vs : List Value} (h : InnB W v xs) (hr : W.ownsRow B e s v' n vs) (he : e ≠ 3) (g : W.grownBy W' v'.ownBlock) : InnB W' v xs :=
  h.kept fun k cs hk => g.block k (Array.getElem?_eq_some_iff.1 hk).1 (fun e1 => by
    obtain ⟨c, hc⟩ := own_type hr e1.symm
    rw [hk] at hc; cases hc; exact he rfl)
theorem own_innB {W : World} {B n : Nat} {v : Value} {xs : List Int} (h : W.ownsRow B 3 1 v n (xs.map (Value.int .i64))) (hn : xs.length = n) : InnB W v xs := by
  rcases h.2 with ⟨rfl, h0⟩ | ⟨g, cap, cur, rfl, hg, hh, hnc, hcm, hcs, ht⟩
  · have : xs = [] := List.eq_nil_of_length_eq_zero (by omega)
    subst this
    exact ⟨none, 0, rfl, Nat.le_refl _, Nat.zero_le _, .inl rfl⟩
  · refine ⟨_, cap, by rw [hn], by omega, hcm, .inr ⟨g, 0, cur, rfl, hh, fun j hj => ?_⟩⟩
    rw [Nat.zero_add, ← Array.getElem?_toList]
    have h1 : (cur.toList.take (n * 1))[j]? = some (.int .i64 (xs.getD j 0)) := by
      rw [ht, List.getElem?_map, List.getElem?_eq_getElem hj]; simp [List.getElem?_eq_getElem hj]
    rw [List.getElem?_take] at h1
    split at h1
    · exact h1
    · cases h1

abbrev bcells (ev : Int) (v2 : Value) : Array Value := #[.int .i64 0, .int .i64 ev, v2, .slice none 0 0, .slice none 0 0]
/-- Where the pairs of starts are laid: n starts, the pairs P. -/
structure PB (X W : World) (bm : Nat) (ev : Int) (v2 v13 : Value) (n : Nat) (P : List (Int × Int)) : Prop where
  blk : Blk W bm 25 (bcells ev v2)
  kp : Kp bm X W
  st : W.ownsRow X.heap.size 3 1 v2 n ((rngI n).map (Value.int .i64))
  ps : ∃ vs : List Value, W.ownsRow X.heap.size 22 1 v13 P.length vs ∧ ∀ (j : Nat) (x : Value) (p : Int × Int), vs[j]? = some x → P[j]? = some p → InnB W x [p.1, p.2] ∧ x.ownBlock ≠ v2.ownBlock

theorem PB.st1 {X W W1 : World} {bm n : Nat} {ev : Int} {v2 v2' v13 : Value} {P : List (Int × Int)} {o : Obj} (h : PB X W bm ev v2 v13 n P) (hbm : bm < X.heap.size)
    (o1 : W1.ownsRow X.heap.size 3 1 v2' (n + 1) ((rngI n).map (Value.int .i64) ++ [.int .i64 n])) (g : (W.alloc o).grownBy W1 v2.ownBlock) (hb : v2'.ownBlock = v2.ownBlock ∨ v2'.ownBlock = some (W.alloc o).heap.size) :
    Blk W1 bm 25 (bcells ev v2) ∧ PB X (W1.setCell ⟨bm, 2, none⟩ v2') bm ev v2' v13 (n + 1) P := by
  have hr : ∀ k, v2.ownBlock = some k → X.heap.size ≤ k := fun k hk => (h.st.lt k hk).1
  have b1 : Blk W1 bm 25 (bcells ev v2) := (g.block bm (h.blk.alloc o).lt (fun e => by have := hr bm e.symm; omega)).trans (h.blk.alloc o)
  obtain ⟨vs, ho, hi⟩ := h.ps
  refine ⟨b1, b1.set 2 v2', ((h.kp.alloc o).grown g hr).set 2 v2', ?_, vs, ?_, fun j x p h1 h2 => ?_⟩
  · rw [rngI_succ, List.map_append]; exact ownsRow_set o1 hbm v2'
  · exact ownsRow_set ((World.ownsRow.alloc ho o).kept g (own_apart (World.ownsRow.alloc ho o) (World.ownsRow.alloc h.st o) (by decide))) hbm v2'
  · obtain ⟨i1, i2⟩ := hi j x p h1 h2
    have i3 := i1.below ((Below.refl _ W).alloc (Nat.le_refl _) o)
    refine ⟨(i3.grow i2 g).set b1 (by decide) v2', ?_⟩
    rcases hb with hb | hb
    · rw [hb]; exact i2
    · rw [hb]
      intro e
      have := i1.lt e
      rw [World.size_alloc] at this
      omega
theorem PB.ps1 {X W W1 : World} {bm n : Nat} {ev x y : Int} {v2 v13 v13' : Value} {P : List (Int × Int)} {vs : List Value} {t : TypeId} (h : PB X W bm ev v2 v13 n P) (hbm : bm < X.heap.size)
    (ho : W.ownsRow X.heap.size 22 1 v13 P.length vs) (hi : ∀ (j : Nat) (x : Value) (p : Int × Int), vs[j]? = some x → P[j]? = some p → InnB W x [p.1, p.2] ∧ x.ownBlock ≠ v2.ownBlock)
    (o1 : W1.ownsRow X.heap.size 22 1 v13' (P.length + 1) (vs ++ [.slice (some ⟨W.heap.size, 0, none⟩) 2 2])) (g : ((W.alloc (.cells #[.int .i64 x, .int .i64 y] 3)).alloc (.cells #[.slice (some ⟨W.heap.size, 0, none⟩) 2 2] t)).drew.grownBy W1 v13.ownBlock) :
    PB X W1 bm ev v2 v13' n (P ++ [(x, y)]) := by
  have hr : ∀ k, v13.ownBlock = some k → X.heap.size ≤ k := fun k hk => (ho.lt k hk).1
  have hlay : Below W.heap.size W ((W.alloc (.cells #[.int .i64 x, .int .i64 y] 3)).alloc (.cells #[.slice (some ⟨W.heap.size, 0, none⟩) 2 2] t)).drew := (((Below.refl _ _).alloc (Nat.le_refl _) _).alloc (by simp) _).drew
  have hrow := ownsRow_lay2 ho (.cells #[.int .i64 x, .int .i64 y] 3) (.cells #[.slice (some ⟨W.heap.size, 0, none⟩) 2 2] t)
  have hb2 := h.blk.below hlay h.blk.lt
  have hl : vs.length = P.length := by have := ho.1; omega
  refine ⟨(g.block bm hb2.lt (fun e => by have := hr bm e.symm; omega)).trans hb2, Kp.grown ⟨Nat.le_trans h.kp.size hlay.size, fun k hk hne => (hlay.block k (Nat.lt_of_lt_of_le hk h.kp.size)).trans (h.kp.same k hk hne)⟩ g hr, ?_, vs ++ [.slice (some ⟨W.heap.size, 0, none⟩) 2 2], by rw [List.length_append]; exact o1, fun j z p h1 h2 => ?_⟩
  · have h3 := World.ownsRow.alloc (World.ownsRow.alloc h.st (.cells #[.int .i64 x, .int .i64 y] 3)) (.cells #[.slice (some ⟨W.heap.size, 0, none⟩) 2 2] t)
    exact World.ownsRow.kept (w := ((W.alloc (.cells #[.int .i64 x, .int .i64 y] 3)).alloc (.cells #[.slice (some ⟨W.heap.size, 0, none⟩) 2 2] t)).drew) h3 g (own_apart h3 hrow (by decide))
  · by_cases hj : j < P.length
    · rw [List.getElem?_append_left (by omega)] at h1
      rw [List.getElem?_append_left hj] at h2
      obtain ⟨i1, i2⟩ := hi j z p h1 h2
      exact ⟨(i1.below hlay).apart hrow (by decide) g, i2⟩
    · have hj2 : j < (P ++ [(x, y)]).length := (List.getElem?_eq_some_iff.1 h2).1
      have : j = P.length := by simp at hj2; omega
      subst this
      rw [List.getElem?_append_right (by omega)] at h1 h2
      rw [hl] at h1
      simp at h1 h2
      subst h1; subst h2
      refine ⟨((innB_new W x y).below (((Below.refl _ _).alloc (Nat.le_refl _) _).drew)).apart hrow (by decide) g, fun e => ?_⟩
      have := (h.st.lt W.heap.size e.symm).2
      omega

end Go.Proofs.Ytdnglodemkeooaa
