/-
  The walk of Set.OnlyIn.
-/
import Derived.Test.YtgianidegmkghaaDoorCEstM
import Derived.Test.YtgianidegmkghaaDoorG16
import Derived.Test.YtgianidegmkghaaDoorG11
namespace Go.Proofs.YtgianidegmkghaaDoor
open Go.RowKit
set_option linter.unusedVariables false

set_option maxRecDepth 100000 in
set_option maxHeartbeats 4000000 in
theorem onlyIn_any (S T : Nat → Nat) (oS : okS S) (oT : okS T) (w : World) :
    Calls Tryd.prog 77 #[sval S, sval T] w fun e w' => e = .returned (.bool (onlyS S T)) ∧ Below w.heap.size w w' := by
  have B : Hid (Below w.heap.size w ((w.alloc (.cells (scells S) 69)).alloc (.cells (scells T) 69))) := ((Below.refl _ _).alloc (Nat.le_refl _) _).alloc (by simp) _
  have KS : Hid (SB ((w.alloc (.cells (scells S) 69)).alloc (.cells (scells T) 69)) w.heap.size S) := (Blk.new w _ _).alloc _
  have KT : Hid (SB ((w.alloc (.cells (scells S) 69)).alloc (.cells (scells T) 69)) (w.heap.size + 1) T) := by
    have := Blk.new (w.alloc (.cells (scells S) 69)) 69 (scells T)
    rwa [World.size_alloc] at this
  obtain ⟨x0, x1, x2, x3⟩ := SB.cells KS.out
  obtain ⟨y0, y1, y2, y3⟩ := SB.cells KT.out
  go_enter Tryd.func77, Tryd.ntmps77
  have heq : ∀ V, (Op.equalIn 10000 69 (.agg #[.int .u64 (S 0), .int .u64 (S 1), .int .u64 (S 2), .int .u64 (S 3)]) (.agg #[.int .u64 0, .int .u64 0, .int .u64 0, .int .u64 0])).run Tryd.prog V = .ok (emptyB S) V := fun V => run_equalIn_set S V
  have hgd := run_guard_set
  cases hm : emptyB S with
  | true =>
    have HO : Hid (false = onlyS S T) := by show _ = _; unfold onlyS; rw [hm]; rfl
    rw [hm] at heq
    clear hm
    go_wp2_with fail
    exact bodyPost_ret (v := .bool false) (by simp [results, go_sem]) rfl ⟨ret_bool HO.out, B.out⟩
  | false =>
    have HO : Hid (emptyB (lessS S T) = onlyS S T) := by show _ = _; unfold onlyS; rw [hm]; rfl
    rw [hm] at heq
    clear hm
    go_wp2_with fail
    refine (less_any S T _ oS oT).mono ?_
    rintro e V2 ⟨rfl, hb⟩
    have B2 := Hid.of (B.out.trans (hb.mono B.out.size))
    clear hb B x0 x1 x2 x3 y0 y1 y2 y3 KS KT heq
    obtain ⟨Z, HZ⟩ : ∃ Z, Hid (Z = lessS S T) := ⟨_, rfl⟩
    rw [← HZ.out] at HO
    rw [← HZ.out]
    have heq : (Op.equalIn 10000 69 (.agg #[.int .u64 (Z 0), .int .u64 (Z 1), .int .u64 (Z 2), .int .u64 (Z 3)]) (.agg #[.int .u64 0, .int .u64 0, .int .u64 0, .int .u64 0])).run Tryd.prog V2 = .ok (emptyB Z) V2 := run_equalIn_set Z V2
    go_wp2_with fail
    exact bodyPost_ret (v := .bool (emptyB Z)) (by simp [results, go_sem]) rfl ⟨ret_bool HO.out, B2.out⟩

end Go.Proofs.YtgianidegmkghaaDoor
