/-
  The walk of finder.spread.
  The walks of finder.end and finder.list.
  The walk of beside.Beside.
  The walk of beside.Beside where nothing is wrong.
-/
import Derived.Test.YtdnglodemkeooaaDoorG33
import Derived.Test.YtdnglodemkeooaaDoorG30
import Derived.Test.YtdnglodemkeooaaDoorG31
namespace Go.Proofs.YtdnglodemkeooaaDoor
open Go.RowKit
set_option linter.unusedVariables false

/-- What spread leaves. -/
def SprPost (B : Nat) (W : World) (bf br : Nat) (ev : Int) (vs va ve vp : Value) (S E : List Int) (r : Option BS) (e : Ending) (W' : World) : Prop :=
  ∃ va' vp', Turn (FF bf br vs va ve vp) (FF bf br vs va' ve vp') W W' ∧ match r with
    | none => e = .returned (.bool false)
    | some s => e = .returned (.bool true) ∧ FD B W' bf br s.ps.length ev vs va' ve vp' S (srtA s.ar) E s.ps ∧ s.ps.length ≤ 256

theorem bPair_ev {a b : Mach} {ofA ofB : List Int} {s : BS} {k E0 : Nat} {p : Int × Int} (hE : a.ev = (E0 : Int)) : (evL E0 ofA ofB).foldl (bEv a b ofA ofB k p) s = bEvs a b ofA ofB k p s a.ev.toNat := by
  rw [bEvs_evL, hE]; rfl
theorem go_big {a b : Mach} {ofA ofB : List Int} {f k : Nat} {s : BS} {p : Int × Int} (hp : s.ps[k]? = some p) (hB : bBig (bEvs a b ofA ofB k p s a.ev.toNat) = true) (hf : 0 < f) : bGo a b ofA ofB f k s = none := by
  obtain ⟨g, rfl⟩ : ∃ g, f = g + 1 := ⟨f - 1, by omega⟩
  have hk := (List.getElem?_eq_some_iff.1 hp).1
  have e : bPair a b ofA ofB s k = bEvs a b ofA ofB k p s a.ev.toNat := by unfold bPair; rw [hp]; rfl
  unfold bGo
  rw [if_pos hk, e, if_pos hB]
theorem go_next {a b : Mach} {ofA ofB : List Int} {f k : Nat} {s : BS} {p : Int × Int} (hp : s.ps[k]? = some p) (hB : bBig (bEvs a b ofA ofB k p s a.ev.toNat) = false) (hf : 0 < f) : bGo a b ofA ofB f k s = bGo a b ofA ofB (f - 1) (k + 1) (bEvs a b ofA ofB k p s a.ev.toNat) := by
  obtain ⟨g, rfl⟩ : ∃ g, f = g + 1 := ⟨f - 1, by omega⟩
  have hk := (List.getElem?_eq_some_iff.1 hp).1
  have e : bPair a b ofA ofB s k = bEvs a b ofA ofB k p s a.ev.toNat := by unfold bPair; rw [hp]; rfl
  rw [bGo, if_pos hk, e, if_neg (by rw [hB]; simp)]; rfl
theorem go_end {a b : Mach} {ofA ofB : List Int} {f k : Nat} {s : BS} (h : ¬ k < s.ps.length) : bGo a b ofA ofB f k s = some s := by
  cases f with
  | zero => rfl
  | succ f => rw [bGo, if_neg h]
theorem wrap_at {x E0 e N : Nat} (h : x * E0 + e < N) (hN : N ≤ 2048) : wrap64 ((x : Int) * (E0 : Int)) = (x : Int) * (E0 : Int) ∧ wrap64 ((x : Int) * (E0 : Int) + (e : Int)) = ((x * E0 + e : Nat) : Int) := by
  have h1 : ((x : Int) * (E0 : Int)) = ((x * E0 : Nat) : Int) := by simp
  have h2 : ((x : Int) * (E0 : Int) + (e : Int)) = ((x * E0 + e : Nat) : Int) := by simp
  constructor
  · rw [h1]; exact w64_in _ (by generalize x * E0 = d at h; omega)
  · rw [h2]; exact w64_in _ (by generalize x * E0 = d at h; omega)
theorem iwrap_at {x E0 e N : Nat} (h : x * E0 + e < N) (hN : N ≤ 2048) : IntKind.i64.wrap ((x : Int) * (E0 : Int)) = (x : Int) * (E0 : Int) ∧ IntKind.i64.wrap ((x : Int) * (E0 : Int) + (e : Int)) = ((x * E0 + e : Nat) : Int) := by
  have h1 : ((x : Int) * (E0 : Int)) = ((x * E0 : Nat) : Int) := by simp
  have h2 : ((x : Int) * (E0 : Int) + (e : Int)) = ((x * E0 + e : Nat) : Int) := by simp
  constructor
  · rw [h1]; generalize x * E0 = d at h; simp [IntKind.wrap, IntKind.bits, IntKind.signed]; omega
  · rw [h2]; generalize x * E0 = d at h; simp [IntKind.wrap, IntKind.bits, IntKind.signed]; omega
theorem place_lt {x E0 e S0 : Nat} (h1 : x < S0) (h2 : e < E0) : x * E0 + e < S0 * E0 := by
  have h3 : (x + 1) * E0 ≤ S0 * E0 := Nat.mul_le_mul_right _ h1
  rw [Nat.succ_mul] at h3
  omega

set_option maxHeartbeats 8000000 in
set_option maxRecDepth 100000 in
theorem bspread_any (B : Nat) (W : World) (bf br : Nat) (vs va ve vp : Value) (S E : List Int) (a b : Mach) (ofA ofB : List Int) (SA SB E0 : Nat) (ta tb : Nat) (TA TB : Nat → List Int) (ea : Option Addr) (ec : Nat) (s0 : BS)
    (ma : Hid (mayB a = true)) (mb : Hid (mayB b = true)) (hSA : a.st = (SA : Int)) (hSB : b.st = (SB : Int)) (hEa : Hid (a.ev = (E0 : Int))) (hE8 : E0 ≤ 8) (hSA2 : SA ≤ 256) (hSB2 : SB ≤ 256)
    (hF : Hid (FD B W bf br s0.ps.length (E0 : Int) vs va ve vp S (srtA s0.ar) E s0.ps)) (hs0 : Hid (s0.ps = crossP a.starts b.starts ∧ s0.ar = [])) (hfit : s0.ps.length ≤ 256)
    (hTA : Hid (RT (FF bf br vs va ve vp) W ta (SA * E0) TA)) (hTB : Hid (RT (FF bf br vs va ve vp) W tb (SB * E0) TB)) (hev : Hid (AtF W (FF bf br vs va ve vp) ea (evL E0 ofA ofB)))
    (eA : Hid (∀ x e : Nat, x < SA → e < E0 → TA (x * E0 + e) = toL a.arrows ofA x e)) (eB : Hid (∀ x e : Nat, x < SB → e < E0 → TB (x * E0 + e) = toL b.arrows ofB x e)) :
    Calls Tryd.prog 68 #[.pointer (some ⟨bf, 0, none⟩), .slice ea (evL E0 ofA ofB).length ec, .slice (some ⟨ta, 0, none⟩) (SA * E0) (SA * E0), .slice (some ⟨tb, 0, none⟩) (SB * E0) (SB * E0)] W fun e W' => SprPost B W bf br (E0 : Int) vs va ve vp S E (besideS a b ofA ofB) e W' := by
  have hNA : SA * E0 ≤ 2048 := Nat.le_trans (Nat.mul_le_mul hSA2 hE8) (by decide)
  have hNB : SB * E0 ≤ 2048 := Nat.le_trans (Nat.mul_le_mul hSB2 hE8) (by decide)
  obtain ⟨NA, HNA⟩ : ∃ N, Hid (N = SA * E0) := ⟨_, rfl⟩
  obtain ⟨NB, HNB⟩ : ∃ N, Hid (N = SB * E0) := ⟨_, rfl⟩
  rw [← HNA.out] at hNA hTA ⊢
  rw [← HNB.out] at hNB hTB ⊢
  have hel : (evL E0 ofA ofB).length ≤ 8 := Nat.le_trans (evL_len _ _ _) hE8
  have SI0 : Hid (SI a b 0 0 s0) := by
    have sa := may_starts ma.out
    have sb := may_starts mb.out
    refine ⟨?_, fun p hp => ?_, fun x hx => ?_⟩
    · rw [hs0.out.1]; exact nodup_crossP (inc_nodup sa.1) (inc_nodup sb.1)
    · rw [hs0.out.1] at hp
      obtain ⟨h1, h2⟩ := (mem_crossP _ _ _).1 hp
      exact ⟨sa.2 _ h1, sb.2 _ h2⟩
    · rw [hs0.out.2] at hx; simp at hx
  have HBS : Hid (besideS a b ofA ofB = bGo a b ofA ofB 300 0 s0) := by
    show _ = _
    unfold besideS
    congr 1
    have h1 := hs0.out
    cases s0
    simp at h1
    rw [h1.1, h1.2]
  have HL0 : Hid ((srtA s0.ar).length = s0.ar.length) := by show _ = _; rw [hs0.out.2]; rfl
  have HG0 : Hid (bBig s0 = false) := bBig_mk hfit (by rw [hs0.out.2]; simp)
  go_enter Tryd.func68, Tryd.ntmps68
  go_wp2_with fail
  go_loopw [9] (fun i wr => ∃ (k : Nat) (s : BS) (va' vp' : Value), i = .int .i64 k ∧ k ≤ s.ps.length ∧ s.ps.length ≤ 256 ∧ Hid (FD B wr bf br s.ps.length (E0 : Int) vs va' ve vp' S (srtA s.ar) E s.ps) ∧ Hid (Turn (FF bf br vs va ve vp) (FF bf br vs va' ve vp') W wr) ∧ Hid (bBig s = false) ∧ Hid ((srtA s.ar).length = s.ar.length) ∧ Hid (SI a b k 0 s) ∧ Hid (besideS a b ofA ofB = bGo a b ofA ofB (300 - k) k s)) (fun i _ => 300 - (intOf i).toNat)
  case atStart => exact ⟨0, s0, va, vp, rfl, Nat.zero_le _, hfit, hF, Turn.refl _ _, HG0, HL0, SI0, HBS⟩
  case round =>
    clear hF hfit HG0 HL0 SI0 HBS
    obtain ⟨k, s, va1, vp1, rfl, hk, hps, HF, HT, HG, HL, HS, HE⟩ := hrel
    have c0 := HF.out.cells.1
    have c5 := HF.out.cells.2.2.2.2.2.1
    have lb := HF.out.blk.lt
    by_cases hlt : k < s.ps.length
    · obtain ⟨p, hp⟩ : ∃ p, Hid (s.ps[k]? = some p) := ⟨_, List.getElem?_eq_getElem hlt⟩
      have hcr := HS.out.cr p (List.mem_of_getElem? hp.out)
      rw [hSA, hSB] at hcr
      obtain ⟨px, py⟩ := p
      dsimp only at hcr
      obtain ⟨x0, rfl⟩ : ∃ x0 : Nat, px = x0 := ⟨px.toNat, by omega⟩
      obtain ⟨y0, rfl⟩ : ∃ y0 : Nat, py = y0 := ⟨py.toNat, by omega⟩
      have hx0 : x0 < SA := by omega
      have hy0 : y0 < SB := by omega
      clear hcr
      obtain ⟨g, cap, hvp, hg1, hg2, p0, p1⟩ := HF.out.ps.cell hp.out
      rw [hvp] at c5
      have HX1 : Hid (Turn (FF bf br vs va1 ve vp1) (FF bf br vs va1 ve vp1) wr (wr.alloc (.cells #[.int .i64 x0, .int .i64 y0] 129))) := (Turn.refl _ _).alloc _
      have HXF := Hid.of (HF.out.alloc (.cells #[.int .i64 x0, .int .i64 y0] 129))
      have HXP := Hid.of (Blk.new wr 129 #[.int .i64 x0, .int .i64 y0])
      have HNF : Hid (¬ FF bf br vs va1 ve vp1 wr.heap.size) := fun h => by have := (HF.out.lt _ h).2; omega
      go_wp2_with fail
      clear c0 c5 p0 p1 hg1 hg2 hvp lb
      have HXT := Hid.of (HT.out.trans HX1.out)
      have HXA := Hid.of (hTA.out.turn HXT.out)
      have HXB := Hid.of (hTB.out.turn HXT.out)
      have HXE := Hid.of (hev.out.turn HXT.out)
      revert HXF HXP HXT HXA HXB HXE
      clear HX1 HF HT
      obtain ⟨pb, Hpb⟩ : ∃ pb, pb = wr.heap.size := ⟨_, rfl⟩
      rw [← Hpb] at HNF ⊢
      generalize wr.alloc (.cells #[.int .i64 x0, .int .i64 y0] 129) = X
      intro HXF HXP HXT HXA HXB HXE
      clear Hpb
      have SIQ : Hid (∀ e : Int, 0 ≤ e → SI a b k e s) := fun e he => HS.out.mono (.inr ⟨rfl, he⟩)
      go_loopw [31] (fun i wr => ∃ (q : Nat) (va' vp' : Value), q ≤ (evL E0 ofA ofB).length ∧ i = .int .i64 q ∧ Hid (FD B wr bf br (((evL E0 ofA ofB).take q).foldl (bEv a b ofA ofB k ((x0 : Int), (y0 : Int))) s).ps.length (E0 : Int) vs va' ve vp' S (srtA (((evL E0 ofA ofB).take q).foldl (bEv a b ofA ofB k ((x0 : Int), (y0 : Int))) s).ar) E (((evL E0 ofA ofB).take q).foldl (bEv a b ofA ofB k ((x0 : Int), (y0 : Int))) s).ps) ∧ Hid (Turn (FF bf br vs va1 ve vp1) (FF bf br vs va' ve vp') X wr) ∧ Hid (bBig (((evL E0 ofA ofB).take q).foldl (bEv a b ofA ofB k ((x0 : Int), (y0 : Int))) s) = false) ∧ Hid ((srtA (((evL E0 ofA ofB).take q).foldl (bEv a b ofA ofB k ((x0 : Int), (y0 : Int))) s).ar).length = (((evL E0 ofA ofB).take q).foldl (bEv a b ofA ofB k ((x0 : Int), (y0 : Int))) s).ar.length) ∧ Hid (∀ e : Int, 0 ≤ e → (∀ x ∈ (evL E0 ofA ofB).take q, x < e) → SI a b k e (((evL E0 ofA ofB).take q).foldl (bEv a b ofA ofB k ((x0 : Int), (y0 : Int))) s))) (fun i _ => (evL E0 ofA ofB).length - (intOf i).toNat)
      case atStart => exact ⟨0, va1, vp1, Nat.zero_le _, rfl, HXF, Turn.refl _ _, HG, HL, fun e he _ => SIQ.out e he⟩
      case round =>
        clear HG HL SIQ HXF
        obtain ⟨q, va2, vp2, hq, rfl, HF, HT, HG, HL, HSQ⟩ := hrel
        by_cases hqt : q < (evL E0 ofA ofB).length
        · obtain ⟨be, oe, ex, hea, hbe, HEX, ce⟩ := (HXE.out.turn HT.out).get hqt
          have hmem : ex ∈ evL E0 ofA ofB := by rw [HEX.out, List.getElem?_eq_getElem hqt]; exact List.getElem_mem hqt
          obtain ⟨hexb, hexh⟩ := evL_bd ex hmem
          have hnx : ((evL E0 ofA ofB).take (q + 1)) = (evL E0 ofA ofB).take q ++ [ex] := by
            rw [List.take_add_one, List.getElem?_eq_getElem hqt]
            have := HEX.out
            rw [List.getElem?_eq_getElem hqt] at this
            rw [this]; rfl
          have hsi := HSQ.out ex hexb.1 (fun x hx => by
            obtain ⟨j, hj⟩ := List.mem_iff_getElem?.1 hx
            rw [List.getElem?_take] at hj
            split at hj
            · rename_i hjq
              obtain ⟨l1, e1⟩ := List.getElem?_eq_some_iff.1 hj
              have h3 := List.pairwise_iff_getElem.1 (evL_inc E0 ofA ofB) j q l1 hqt hjq
              have := HEX.out
              rw [List.getElem?_eq_getElem hqt, Option.getD_some] at this
              rw [this, ← e1]; exact h3
            · cases hj)
          obtain ⟨e0, rfl⟩ : ∃ e0 : Nat, ex = e0 := ⟨ex.toNat, by omega⟩
          have he0 : e0 < E0 := by omega
          have HSI := Hid.of hsi
          have HNX : Hid (((evL E0 ofA ofB).take (q + 1)).foldl (bEv a b ofA ofB k ((x0 : Int), (y0 : Int))) s = bEv a b ofA ofB k ((x0 : Int), (y0 : Int)) (((evL E0 ofA ofB).take q).foldl (bEv a b ofA ofB k ((x0 : Int), (y0 : Int))) s) (e0 : Int)) := by show _ = _; rw [hnx, List.foldl_append]; rfl
          have HMON : Hid (∀ s2, s2 = ((evL E0 ofA ofB).take (q + 1)).foldl (bEv a b ofA ofB k ((x0 : Int), (y0 : Int))) s → bBig s2 = true → bBig ((evL E0 ofA ofB).foldl (bEv a b ofA ofB k ((x0 : Int), (y0 : Int))) s) = true) := fun s2 h1 h2 => by
            rw [← List.take_append_drop (q + 1) (evL E0 ofA ofB), List.foldl_append, ← h1]
            exact bBig_evs _ h2
          have HTK : Hid (∀ e : Int, (∀ x ∈ (evL E0 ofA ofB).take (q + 1), x < e) → (e0 : Int) < e) := fun e h => h _ (by rw [hnx]; simp)
          clear hsi hnx hmem
          have ia := place_lt hx0 he0
          have ib := place_lt hy0 he0
          rw [← HNA.out] at ia
          rw [← HNB.out] at ib
          obtain ⟨wa1, wa2⟩ := wrap_at ia hNA
          obtain ⟨wb1, wb2⟩ := wrap_at ib hNB
          obtain ⟨va1', va2'⟩ := iwrap_at ia hNA
          obtain ⟨vb1', vb2'⟩ := iwrap_at ib hNB
          obtain ⟨pa, Hpa⟩ : ∃ pa, Hid (pa = x0 * E0 + e0) := ⟨_, rfl⟩
          obtain ⟨qa, Hqa⟩ : ∃ qa, Hid (qa = y0 * E0 + e0) := ⟨_, rfl⟩
          rw [← Hpa.out] at ia wa2 va2'
          rw [← Hqa.out] at ib wb2 vb2'
          have HRA := Hid.of (HXA.out.turn HT.out)
          have HRB := Hid.of (HXB.out.turn HT.out)
          obtain ⟨aa, ac, ra1, ra2⟩ := HRA.out.row pa ia
          obtain ⟨ba, bc, rb1, rb2⟩ := HRB.out.row qa ib
          have RA2 := Hid.of ra2
          have RB2 := Hid.of rb2
          have HLA : Hid (TA pa = toL a.arrows ofA x0 e0) := by show _ = _; rw [Hpa.out]; exact eA.out x0 e0 hx0 he0
          have HLB : Hid (TB qa = toL b.arrows ofB y0 e0) := by show _ = _; rw [Hqa.out]; exact eB.out y0 e0 hy0 he0
          clear ra2 rb2
          obtain ⟨s1, HS1⟩ : ∃ s1, Hid (s1 = ((evL E0 ofA ofB).take q).foldl (bEv a b ofA ofB k ((x0 : Int), (y0 : Int))) s) := ⟨_, rfl⟩
          rw [← HS1.out] at HF HG HL HSI HNX
          have HFO : Hid ((crossP (TA pa) (TB qa)).foldl (bAdd k (e0 : Int)) s1 = bEv a b ofA ofB k ((x0 : Int), (y0 : Int)) s1 (e0 : Int)) := by
            show _ = _
            rw [HLA.out, HLB.out]
            unfold bEv
            rw [leadsP_to ma.out mb.out ofA ofB _ _ hexh]
          have HS2 : Hid (SI a b k ((e0 : Int) + 1) (bEv a b ofA ofB k ((x0 : Int), (y0 : Int)) s1 (e0 : Int))) := by
            rw [← HFO.out]
            refine HSI.out.fold (fun p hp => ?_)
            obtain ⟨h1, h2⟩ := (mem_crossP _ _ _).1 hp
            rw [HLA.out] at h1
            rw [HLB.out] at h2
            exact ⟨toL_bd ma.out ofA _ ⟨by omega, by rw [hSA]; omega⟩ _ h1, toL_bd mb.out ofB _ ⟨by omega, by rw [hSB]; omega⟩ _ h2⟩
          have HPX : Hid (∀ {F' : Nat → Prop} {Y : World}, Turn (FF bf br vs va1 ve vp1) F' X Y → Blk Y pb 129 #[.int .i64 x0, .int .i64 y0]) := fun {F' Y} t => (t.block pb HXP.out.lt HNF.out).trans HXP.out
          have b0 := (HPX.out HT.out).cell 0 rfl
          have b1 := (HPX.out HT.out).cell 1 rfl
          have f1 := HF.out.cells.2.1
          have lpb := (HPX.out HT.out).lt
          have lta := HRA.out.lt
          have ltb := HRB.out.lt
          have lbf := HF.out.blk.lt
          have HLEAD : Hid (Calls Tryd.prog 104 #[.pointer (some ⟨bf, 0, none⟩), .int .i64 k, .int .i64 e0, .slice aa (TA pa).length ac, .slice ba (TB qa).length bc] wr.drew fun r W' => LeadPost B wr.drew bf br (E0 : Int) vs va2 ve vp2 S E ((crossP (TA pa) (TB qa)).foldl (bAdd k (e0 : Int)) s1) r W') :=
            lead_any B wr.drew bf br (E0 : Int) vs va2 ve vp2 S E s1 a b k (e0 : Int) aa ba ac bc (TA pa) (TB qa) HF.out.drew HG HL HSI.out.lo (by omega) (by omega) (RA2.out.turn (Turn.refl _ _).drew) (RB2.out.turn (Turn.refl _ _).drew) (by rw [HLA.out]; exact toL_len ma.out _ _ _) (by rw [HLB.out]; exact toL_len mb.out _ _ _) (by rw [HLA.out]; exact toL_inc ma.out _ _ _) (by rw [HLB.out]; exact toL_inc mb.out _ _ _)
              (fun x hx => by rw [HLA.out] at hx; have := toL_bd ma.out ofA (s := (x0 : Int)) _ ⟨by omega, by rw [hSA]; omega⟩ x hx; rw [hSA] at this; omega) (fun x hx => by rw [HLB.out] at hx; have := toL_bd mb.out ofB (s := (y0 : Int)) _ ⟨by omega, by rw [hSB]; omega⟩ x hx; rw [hSB] at this; omega)
          rw [HFO.out] at HLEAD
          obtain ⟨s2, HS2e⟩ : ∃ s2, Hid (s2 = bEv a b ofA ofB k ((x0 : Int), (y0 : Int)) s1 (e0 : Int)) := ⟨_, rfl⟩
          rw [← HS2e.out] at HLEAD HS2 HNX
          clear HFO HLA HLB HSI HEX
          rw [hea]
          have HAFT : Hid (∀ (w1 : World) (va3 vp3 : Value), Turn (FF bf br vs va2 ve vp2) (FF bf br vs va3 ve vp3) wr.drew w1 → w1.cell? ⟨bf, 1, none⟩ = some (.int .i64 E0) → w1.cell? ⟨pb, 0, none⟩ = some (.int .i64 x0) ∧ w1.cell? ⟨pb, 1, none⟩ = some (.int .i64 y0) ∧ w1.cell? ⟨bf, 1, none⟩ = some (.int .i64 E0) ∧ w1.cell? ⟨ta, pa, none⟩ = some (.slice aa (TA pa).length ac) ∧ w1.cell? ⟨tb, qa, none⟩ = some (.slice ba (TB qa).length bc)) := fun w1 va3 vp3 t hbf => by
            have t' := HT.out.drew.trans t
            refine ⟨(HPX.out t').cell 0 rfl, (HPX.out t').cell 1 rfl, hbf, ?_, ?_⟩
            · exact (World.cell?_of_block (w := wr) (t.block ta HRA.out.lt HRA.out.nf)).trans ra1
            · exact (World.cell?_of_block (w := wr) (t.block tb HRB.out.lt HRB.out.nf)).trans rb1
          have hk8 : k ≤ 256 := by omega
          go_wp2_with fail
          cases hb2 : bBig s2 with
          | true =>
            have HNO : Hid (besideS a b ofA ofB = none) := by
              show _ = _
              rw [HE.out]
              refine go_big hp.out ?_ (by omega)
              rw [← bPair_ev hEa.out]
              exact HMON.out s2 HNX.out.symm hb2
            go_region_held3 (fun w' => w'.cell? ⟨pb, 0, none⟩ = some (.int .i64 x0) ∧ w'.cell? ⟨pb, 1, none⟩ = some (.int .i64 y0) ∧ w'.cell? ⟨bf, 1, none⟩ = some (.int .i64 E0) ∧ w'.cell? ⟨ta, pa, none⟩ = some (.slice aa (TA pa).length ac) ∧ w'.cell? ⟨tb, qa, none⟩ = some (.slice ba (TB qa).length bc)) (go_keep) (first | (go_at_call 104; refine HLEAD.out.mono ?_; rintro r w1 ⟨va3, vp3, rfl, hT3, hc3, hF3⟩; have T3 := Hid.of (HT.out.drew.trans hT3); have F3 := Hid.of hF3; rw [hb2]; obtain ⟨d0, d1, d2, d3, d4⟩ := HAFT.out w1 va3 vp3 hT3 hc3; clear hT3 hF3 hc3))
            go_wp2_with fail
            go_ret
            refine ⟨va3, vp3, HXT.out.trans T3.out, ?_⟩
            rw [HNO.out]; rfl
          | false =>
            go_region_held3 (fun w' => w'.cell? ⟨pb, 0, none⟩ = some (.int .i64 x0) ∧ w'.cell? ⟨pb, 1, none⟩ = some (.int .i64 y0) ∧ w'.cell? ⟨bf, 1, none⟩ = some (.int .i64 E0) ∧ w'.cell? ⟨ta, pa, none⟩ = some (.slice aa (TA pa).length ac) ∧ w'.cell? ⟨tb, qa, none⟩ = some (.slice ba (TB qa).length bc)) (go_keep) (first | (go_at_call 104; refine HLEAD.out.mono ?_; rintro r w1 ⟨va3, vp3, rfl, hT3, hc3, hF3⟩; have T3 := Hid.of (HT.out.drew.trans hT3); have F3 := Hid.of hF3; rw [hb2]; obtain ⟨d0, d1, d2, d3, d4⟩ := HAFT.out w1 va3 vp3 hT3 hc3; clear hT3 hF3 hc3))
            go_wp2_with fail
            go_roundw
            case rel => exact ⟨q + 1, va3, vp3, by omega, by go_num, by show FD _ _ _ _ _ _ _ _ _ _ _ _ _ _; rw [HNX.out]; exact (F3.out hb2).1, T3, by show _ = _; rw [HNX.out]; exact hb2, by show _ = _; rw [HNX.out]; exact (F3.out hb2).2, fun e he h => by rw [HNX.out]; exact HS2.out.mono (.inr ⟨rfl, by have := HTK.out e h; omega⟩)⟩
            case measure => simp [intOf]; omega
        · have hqq : q = (evL E0 ofA ofB).length := by omega
          rw [List.take_of_length_le (show (evL E0 ofA ofB).length ≤ q by omega)] at HF HG HL HSQ
          rw [bPair_ev hEa.out] at HF HG HL HSQ
          have HNG : Hid (besideS a b ofA ofB = bGo a b ofA ofB (300 - (k + 1)) (k + 1) (bEvs a b ofA ofB k ((x0 : Int), (y0 : Int)) s a.ev.toNat)) := by
            show _ = _
            rw [HE.out, go_next hp.out HG.out (by omega)]; rfl
          have hbs := bBig_some HG.out
          have HPS : Hid (k + 1 ≤ (bEvs a b ofA ofB k ((x0 : Int), (y0 : Int)) s a.ev.toNat).ps.length) := by
            obtain ⟨t, ht⟩ := bEvs_ps a b ofA ofB k ((x0 : Int), (y0 : Int)) s a.ev.toNat
            show _ ≤ _
            rw [ht, List.length_append]; omega
          have HSN : Hid (SI a b ((k + 1 : Nat) : Int) 0 (bEvs a b ofA ofB k ((x0 : Int), (y0 : Int)) s a.ev.toNat)) := (HSQ.out (E0 : Int) (by omega) (fun x hx => by have := (evL_bd x hx).1.2; omega)).mono (.inl (by omega))
          go_wp2_with fail
          go_roundw
          case rel => exact ⟨k + 1, _, va2, vp2, by go_num, HPS.out, hbs.1, HF, HXT.out.trans HT.out, HG, HL, HSN, HNG⟩
          case measure => simp [intOf]; omega
    · have HFIN : Hid (besideS a b ofA ofB = some s) := by show _ = _; rw [HE.out]; exact go_end hlt
      go_wp2_with fail
      go_ret
      refine ⟨va1, vp1, HT.out, ?_⟩
      rw [HFIN.out]
      exact ⟨rfl, HF.out, hps⟩

end Go.Proofs.YtdnglodemkeooaaDoor
namespace Go.Proofs.YtdnglodemkeooaaDoor
open Go.RowKit
set_option linter.unusedVariables false

section
variable {B : Nat} {W : World} {bf br : Nat} {st ev : Int} {vs va ve vp : Value} {S : List Int} {A : List Arr} {E : List Int} {P : List (Int × Int)}
theorem FD.setSt (h : FD B W bf br st ev vs va ve vp S A E P) (st' : Int) : FD B (W.setCell ⟨bf, 0, none⟩ (.int .i64 st')) bf br st' ev vs va ve vp S A E P := by
  obtain ⟨a1, a2⟩ := h.apart
  have key : ∀ v ∈ [vs, va, ve, vp], ∀ k, v.ownBlock = some k → (W.setCell ⟨bf, 0, none⟩ (.int .i64 st')).heap[k]? = W.heap[k]? := fun v hv k hk => Below.heap_setCell _ _ _ _ (fun e => (a2 v hv).1 (by rw [hk, e]))
  exact ⟨h.blk.set 0 _, own_same h.st (key vs (by simp)), own_same h.ar (key va (by simp)), own_same h.en (key ve (by simp)), own_same h.ps (key vp (by simp)), (Below.heap_setCell _ _ _ _ (Ne.symm a1)).trans h.mp, h.ne, h.nd, h.cr, h.lof, h.lor⟩
end
/-- What end leaves. -/
def EndPost (w0 : World) (bf br : Nat) (M ev : Int) (vs va vp : Value) (S : List Int) (A : List Arr) (E : List Int) (P : List (Int × Int)) (e : Ending) (W' : World) : Prop :=
  e = .returned (.tuple #[]) ∧ ∃ ve', FD w0.heap.size W' bf br M ev vs va ve' vp S A E P ∧ Below w0.heap.size w0 W'

set_option maxHeartbeats 8000000 in
set_option maxRecDepth 100000 in
theorem end_any (w0 W : World) (bf br : Nat) (ev : Int) (vs va vp : Value) (S : List Int) (A : List Arr) (P : List (Int × Int)) (a b : Mach) (ea eb : Option Addr) (ca cb : Nat) (M : Int)
    (hF : Hid (FD w0.heap.size W bf br P.length ev vs va (.slice none 0 0) vp S A [] P)) (hB : Hid (Below w0.heap.size w0 W)) (hA : Hid (At w0 ea a.ends)) (hb : Hid (At w0 eb b.ends)) (lA : Hid (a.ends.length ≤ maxLen)) (lB : Hid (b.ends.length ≤ maxLen)) (hP : P.length ≤ 256) (hM : (if (P.length : Int) < 1 then (1 : Int) else (P.length : Int)) = M) :
    Calls Tryd.prog 70 #[.pointer (some ⟨bf, 0, none⟩), .slice ea a.ends.length ca, .slice eb b.ends.length cb] W fun e W' => EndPost w0 bf br M ev vs va vp S A (endsP a b P P.length) P e W' := by
  obtain ⟨j0, ji, jz0, jz1, jz2⟩ := info_parts Tryd.infoInt
  obtain ⟨pa, pc, hvp, hpc1, hpc2, hpc3⟩ := own_form2 hF.out.ps
  have c5 := hF.out.cells.2.2.2.2.2.1
  have lb := hF.out.blk.lt
  rw [hvp] at c5
  have HVP := Hid.of hvp
  clear hvp
  go_enter Tryd.func70, Tryd.ntmps70
  go_wp2_with fail
  clear c5 lb
  go_loopw [13] (fun i wr => ∃ (n : Nat) (ve' : Value), n ≤ P.length ∧ i = .int .i64 n ∧ Hid (FD w0.heap.size wr bf br P.length ev vs va ve' vp S A (endsP a b P n) P) ∧ Hid (Below w0.heap.size w0 wr)) (fun i _ => P.length - (intOf i).toNat)
  case atStart => exact ⟨0, _, Nat.zero_le _, rfl, hF, hB⟩
  case round =>
    clear hF hB
    obtain ⟨n, ve1, hn, rfl, HF, HB⟩ := hrel
    by_cases hlt : n < P.length
    · obtain ⟨p, hp⟩ : ∃ p, Hid (P[n]? = some p) := ⟨_, List.getElem?_eq_getElem hlt⟩
      have HE := Hid.of (endsP_succ (a := a) (b := b) hp)
      obtain ⟨g, cap, hvp, hg1, hg2, p0, p1⟩ := HF.out.ps.cell hp.out
      have hva := HVP.out.symm.trans hvp
      simp only [Value.slice.injEq] at hva
      obtain ⟨rfl, -, rfl⟩ := hva
      clear hvp
      have HFA := Hid.of (HF.out.alloc (.cells #[.int .i64 p.1, .int .i64 p.2] 129))
      have HBA := Hid.of (HB.out.alloc HB.out.size (.cells #[.int .i64 p.1, .int .i64 p.2] 129))
      have KA := Hid.of (Blk.new wr 129 #[.int .i64 p.1, .int .i64 p.2])
      have HA1 : Hid (∀ V : World, Below w0.heap.size w0 V → Calls Tryd.prog 105 #[.slice ea a.ends.length ca, .int .i64 p.1] V fun e w' => e = .returned (.bool (hasB a.ends p.1)) ∧ w' = V) := fun V hV => rowHas_any ea ca a.ends p.1 V (hA.out.below hV (Nat.le_refl _)) lA.out
      have HB1 : Hid (∀ V : World, Below w0.heap.size w0 V → Calls Tryd.prog 105 #[.slice eb b.ends.length cb, .int .i64 p.2] V fun e w' => e = .returned (.bool (hasB b.ends p.2)) ∧ w' = V) := fun V hV => rowHas_any eb cb b.ends p.2 V (hb.out.below hV (Nat.le_refl _)) lB.out
      go_wp2_with fail
      refine (HA1.out _ HBA.out).mono ?_
      rintro e w1 ⟨rfl, rfl⟩
      clear p0 p1
      revert HFA HBA KA
      generalize wr.alloc (.cells #[.int .i64 p.1, .int .i64 p.2] 129) = V
      intro HFA HBA KA
      have k1 := KA.out.cell 1 rfl
      have lk := KA.out.lt
      cases h1 : hasB a.ends p.1 with
      | false =>
        rw [h1] at HE
        go_wp2_with fail
        go_roundw
        case rel => exact ⟨n + 1, ve1, by omega, by go_num, by show FD _ _ _ _ _ _ _ _ _ _ _ _ _ _; rw [HE.out]; exact HFA.out, HBA⟩
        case measure => simp [intOf]; omega
      | true =>
        rw [h1] at HE
        go_wp2_with fail
        refine (HB1.out _ HBA.out).mono ?_
        rintro e w1 ⟨rfl, rfl⟩
        cases h2 : hasB b.ends p.2 with
        | false =>
          rw [h2] at HE
          go_wp2_with fail
          go_roundw
          case rel => exact ⟨n + 1, ve1, by omega, by go_num, by show FD _ _ _ _ _ _ _ _ _ _ _ _ _ _; rw [HE.out]; exact HFA.out, HBA⟩
          case measure => simp [intOf]; omega
        | true =>
          rw [h2] at HE
          obtain ⟨qa, qc, hve, -, -, -⟩ := own_form2 HFA.out.en
          subst hve
          have c4 := HFA.out.cells.2.2.2.2.1
          have hel : (endsP a b P n).length ≤ 256 := Nat.le_trans (endsP_len a b P n) (by omega)
          have lbf := HFA.out.blk.lt
          clear k1
          go_wp2_with (at_builtin; refine wpList_append_block _ rfl (.tmp 33) (.tmp 35) 22 rfl w0.heap.size 3 j0 (.int .i64 0) 1 8 Tryd.underlying22 ji jz0 jz1 jz2 rfl (by decide) _ _ _ rfl (World.ownsRow.alloc HFA.out.en _) ⟨w1.heap.size, 0, none⟩ 1 1 [.int .i64 (n : Int)] rfl rfl (cell_one_new _ _ _) (by intro u hu; simp at hu; subst hu; rfl) (by decide) (by unfold maxLen; omega) (by omega) (by have := HBA.out.size; simp; omega) ?_)
          intro v9 w9 o9 g9 n9
          obtain ⟨ga, gc, hv9, -, -, -⟩ := own_form2 o9
          subst hv9
          obtain ⟨e1, e2, e3⟩ := HFA.out.pushE ((Below.refl _ _).alloc (Nat.le_refl _) _) o9 g9 (by rw [World.size_alloc]; exact n9)
          have E2 := Hid.of e2
          have B2 := Hid.of (HBA.out.trans (e3.below (fun j hj => (HFA.out.lt j hj).1) HBA.out.size))
          have z4 := e1.cell 4 rfl
          have zf := e1.frozen
          clear e2 e3 o9 g9 n9
          go_wp2_with fail
          go_roundw
          case rel => exact ⟨n + 1, _, by omega, by go_num, by show FD _ _ _ _ _ _ _ _ _ _ _ _ _ _; rw [HE.out]; exact E2.out, B2⟩
          case measure => simp [intOf]; omega
    · have hnn : n = P.length := by omega
      subst hnn
      have c0 := HF.out.cells.1
      have cf := HF.out.blk.frozen
      have lbf := HF.out.blk.lt
      have HFS := Hid.of (HF.out.setSt M)
      have HBS := Hid.of (HB.out.setCell (p := ⟨bf, 0, none⟩) HF.out.lof (.int .i64 M))
      have HMX : Hid (max (P.length : Int) 1 = M) := by show _ = _; rw [← hM]; split <;> omega
      go_wp2_with fail
      rw [HMX.out]
      go_end0
      exact ⟨rfl, ve1, HFS.out, HBS.out⟩

set_option maxHeartbeats 8000000 in
set_option maxRecDepth 100000 in
theorem list_any (B : Nat) (W : World) (bf br : Nat) (st ev : Int) (vs va ve vp : Value) (S : List Int) (A : List Arr) (E : List Int) (P : List (Int × Int)) (hF : Hid (FD B W bf br st ev vs va ve vp S A E P)) (hP : P.length ≤ 256) :
    Calls Tryd.prog 71 #[.pointer (some ⟨bf, 0, none⟩)] W fun e W' => ∃ v, e = .returned v ∧ Own2 W' W.heap.size v (prs P) ∧ Below W.heap.size W W' := by
  obtain ⟨i1, hi, hz0, hz1, hz2⟩ := info_parts Tryd.infoInts
  obtain ⟨pa, pc, hvp, hpc1, hpc2, hpc3⟩ := own_form2 hF.out.ps
  have c5 := hF.out.cells.2.2.2.2.2.1
  have lb := hF.out.blk.lt
  rw [hvp] at c5
  have HVP := Hid.of hvp
  clear hvp
  go_enter Tryd.func71, Tryd.ntmps71
  go_wp2_with fail
  clear c5 lb
  go_loopw [3, 11] (fun v i wr => ∃ (n : Nat), n ≤ P.length ∧ i = .int .i64 n ∧ Hid (Own2 wr W.heap.size v (prs (P.take n))) ∧ Hid (Below W.heap.size W wr)) (fun _ i _ => P.length - (intOf i).toNat)
  case atStart => exact ⟨0, Nat.zero_le _, rfl, own2_nil _ _, Below.refl _ _⟩
  case round =>
    obtain ⟨n, hn, rfl, HO, HB⟩ := hrel
    by_cases hlt : n < P.length
    · obtain ⟨p, hp⟩ : ∃ p, Hid (P[n]? = some p) := ⟨_, List.getElem?_eq_getElem hlt⟩
      have HN : Hid (prs (P.take (n + 1)) = prs (P.take n) ++ [[p.1, p.2]]) := by
        show _ = _
        rw [List.take_add_one, hp.out]
        exact prs_snoc _ _
      obtain ⟨g, cap, hvp, hg1, hg2, p0, p1⟩ := (hF.out.below HB.out).ps.cell hp.out
      have hva := HVP.out.symm.trans hvp
      simp only [Value.slice.injEq] at hva
      obtain ⟨rfl, -, rfl⟩ := hva
      clear hvp
      obtain ⟨vs1, ho, hin⟩ := HO.out
      have hpl : (prs (P.take n)).length ≤ 256 := by rw [prs_len, List.length_take]; omega
      have HO1 := Hid.of ho
      have HI1 := Hid.of hin
      clear ho hin
      have hbsz := HB.out.size
      go_wp2_with (at_builtin; refine wpList_append_block _ rfl (.tmp 15) (.tmp 21) 45 rfl W.heap.size 22 i1 (.slice none 0 0) 1 24 Tryd.underlying45 hi hz0 hz1 hz2 rfl (by decide) _ _ vs1 rfl (World.ownsRow.alloc (World.ownsRow.alloc (World.ownsRow.alloc HO1.out (.cells #[.int .i64 p.1, .int .i64 p.2] 129)) (.cells #[.int .i64 p.1, .int .i64 p.2] 3)) (.cells #[.slice (some ⟨wr.heap.size + 1, 0, none⟩) 2 2] 22)) ⟨wr.heap.size + 1 + 1, 0, none⟩ 1 1 [.slice (some ⟨wr.heap.size + 1, 0, none⟩) 2 2] rfl rfl ?c1 (by intro u hu; simp at hu; subst hu; rfl) (by decide) (by unfold maxLen; omega) (by omega) (by simp; omega) ?_)
      case c1 =>
        have := cell_one_new ((wr.alloc (.cells #[.int .i64 p.1, .int .i64 p.2] 129)).alloc (.cells #[.int .i64 p.1, .int .i64 p.2] 3)) (.slice (some ⟨wr.heap.size + 1, 0, none⟩) 2 2) 22
        rw [World.size_alloc, World.size_alloc] at this
        exact this
      intro v9 w9 o9 g9 n9
      have hlay : Below wr.heap.size wr (((wr.alloc (.cells #[.int .i64 p.1, .int .i64 p.2] 129)).alloc (.cells #[.int .i64 p.1, .int .i64 p.2] 3)).alloc (.cells #[.slice (some ⟨wr.heap.size + 1, 0, none⟩) 2 2] 22)) := (((Below.refl _ _).alloc (Nat.le_refl _) _).alloc (by simp) _).alloc (by simp; omega) _
      have hx : InnB (((wr.alloc (.cells #[.int .i64 p.1, .int .i64 p.2] 129)).alloc (.cells #[.int .i64 p.1, .int .i64 p.2] 3)).alloc (.cells #[.slice (some ⟨wr.heap.size + 1, 0, none⟩) 2 2] 22)) (.slice (some ⟨wr.heap.size + 1, 0, none⟩) 2 2) [p.1, p.2] := by
        have := innB_new (wr.alloc (.cells #[.int .i64 p.1, .int .i64 p.2] 129)) p.1 p.2
        rw [World.size_alloc] at this
        exact this.below ((Below.refl _ _).alloc (Nat.le_refl _) _)
      have hr : ∀ k, u3.ownBlock = some k → W.heap.size ≤ k := fun k hk => (HO1.out.lt k hk).1
      have HO2 : Hid (Own2 w9 W.heap.size v9 (prs (P.take (n + 1)))) := by
        show Own2 _ _ _ _
        rw [HN.out]
        exact Own2.snoc (World.ownsRow.alloc (World.ownsRow.alloc (World.ownsRow.alloc HO1.out _) _) _) (fun j x xs h1 h2 => (HI1.out j x xs h1 h2).below hlay) hx o9 g9
      have HB2 : Hid (Below W.heap.size W w9) := (HB.out.trans (hlay.mono HB.out.size)).grown g9 (Nat.le_trans HB.out.size hlay.size) hr
      clear hlay hx hr o9 g9 n9 p0 p1
      go_wp2_with fail
      go_roundw
      case rel => exact ⟨n + 1, by omega, by go_num, HO2, HB2⟩
      case measure => simp [intOf]; omega
    · have hnn : n = P.length := by omega
      subst hnn
      rw [List.take_of_length_le (Nat.le_refl _)] at HO
      go_wp2_with fail
      go_ret
      exact ⟨_, rfl, HO.out, HB.out⟩

end Go.Proofs.YtdnglodemkeooaaDoor
namespace Go.Proofs.YtdnglodemkeooaaDoor
open Go.RowKit
set_option linter.unusedVariables false

theorem pLeads_any (m : Mach) (l : ML) (hm : mayB m = true) (S0 E0 : Nat) (hS : m.st = (S0 : Int)) (hE : m.ev = (E0 : Int)) (fa : Option Addr) (fc : Nat) (of : List Int) (w : World) (h : MAt w m l) (hof : At w fa of) (hofl : of.length ≤ maxLen) :
    Calls Tryd.prog 69 #[mval m l, .slice fa of.length fc] w fun e w' => LeadsPost w (S0 * E0) (tabL m.arrows of E0 (S0 * E0) m.arrows.length) e w' := by
  have hsz := mayB_size hm
  have hin := may_arrs hm
  obtain ⟨st, ev, starts, ars, ends⟩ := m
  obtain ⟨a1, c1, a2, c2, a3, c3⟩ := l
  dsimp only at hS hE hsz hin
  subst hS; subst hE
  unfold sizeOk at hsz
  dsimp only at hsz
  exact leads_some S0 E0 starts ars ends a1 c1 a2 c2 a3 c3 fa fc of w (by omega) (by omega) hsz.2.2.2.2 h.a (fun a ha => by have := hin a ha; unfold arrIn at this; exact ⟨⟨this.1, this.2.1⟩, this.2.2.2.2.1, this.2.2.2.2.2⟩) hof hofl

theorem besAll_of {w : World} {a b : Mach} {ofA ofB : List Int} {e : Ending} {w' : World} (h : if refC a b ofA ofB = 0 then BesGives w a b ofA ofB e w' else BesErr (refC a b ofA ofB) w e w') : BesAll w a b ofA ofB e w' := by
  unfold BesAll
  unfold refC at h
  split
  · rename_i c; rw [if_pos c] at h; simpa using h
  · rename_i c; rw [if_neg c] at h
    split
    · rename_i d; rw [if_pos d] at h; simpa using h
    · rename_i d; rw [if_neg d] at h
      split
      · rename_i f; rw [if_pos f] at h; simpa using h
      · rename_i f; rw [if_neg f] at h; simpa using h
theorem refC_zero {a b : Mach} {ofA ofB : List Int} (h : refC a b ofA ofB = 0) : mayB a = true ∧ mayB b = true ∧ a.ev = b.ev ∧ rowB a.ev ofA = true ∧ rowB a.ev ofB = true := by
  unfold refC at h
  split at h
  · cases h
  · rename_i c
    split at h
    · cases h
    · rename_i d
      split at h
      · cases h
      · rename_i f
        simp at c d f
        exact ⟨c.1, c.2, d, f.1, f.2⟩
theorem FD.start (V : World) (ev : Int) : FD V.heap.size ((V.alloc (.map #[] 0)).alloc (.cells (fcells 0 ev (.slice none 0 0) (.slice none 0 0) (.slice none 0 0) (.slice none 0 0) V.heap.size) 80)) (V.heap.size + 1) V.heap.size (([] : List (Int × Int)).length : Nat) ev (.slice none 0 0) (.slice none 0 0) (.slice none 0 0) (.slice none 0 0) [] [] [] [] := by
  have b1 := Blk.new (V.alloc (.map #[] 0)) 80 (fcells 0 ev (.slice none 0 0) (.slice none 0 0) (.slice none 0 0) (.slice none 0 0) V.heap.size)
  rw [World.size_alloc] at b1
  refine ⟨b1, World.ownsRow_nil _ _ _ _, ownA_nil _ _, World.ownsRow_nil _ _ _ _, World.ownsRow_nil _ _ _ _, ?_, .inl rfl, List.nodup_nil, fun p hp => by simp at hp, Nat.le_succ _, Nat.le_refl _⟩
  have h1 : (V.alloc (.map #[] 0)).heap[V.heap.size]? = some (.map #[] 0) := World.alloc_heap_new V _
  exact (Below.heap_alloc _ _ _ (by simp)).trans h1
theorem ev_eq {a b : Mach} {ofA ofB : List Int} {E0 : Nat} (hE : a.ev = (E0 : Int)) (h8 : E0 ≤ 8) (ra : rowB a.ev ofA = true) (rb : rowB a.ev ofB = true) : ((uni ofA ofB).filter fun n => hasB ofA n || hasB ofB n) = evL E0 ofA ofB := by
  have qa := (rowB_iff a.ev (by rw [hE]; omega) ofA).1 ra
  have qb := (rowB_iff a.ev (by rw [hE]; omega) ofB).1 rb
  have := evL_eq (n := a.ev) (ofA := ofA) (ofB := ofB) (l := (uni ofA ofB).filter fun n => hasB ofA n || hasB ofB n) (by rw [hE]; omega) qa.2 qb.2 ((inc_uni _ _ qa.1 qb.1).filter _) (fun x => by
    rw [List.mem_filter, mem_uni, Bool.or_eq_true, hasB_iff, hasB_iff]
    exact ⟨fun h => h.1, fun h => ⟨h, h⟩⟩)
  rw [this, hE]; rfl
theorem row_wide {n : Int} {xs : List Int} (hn : n ≤ 8) (h : rowB n xs = true) : rowB 2147483648 xs = true := by
  have q := (rowB_iff n (by omega) xs).1 h
  exact rowB_mk q.1 (fun x hx => by have := q.2 x hx; omega)
theorem own_atF {F : Nat → Prop} {W : World} {B n : Nat} {v : Value} {xs : List Int} (h : Own W B v xs) (hF : ∀ j, F j → j < B) : ∃ a c, v = .slice a xs.length c ∧ AtF W F a xs := by
  rcases h.2 with ⟨hv, hn⟩ | ⟨g, cap, cur, hv, hg, hh, hnc, hcm, hcs, ht⟩
  · exact ⟨none, 0, by rw [hv, hn], .inl (List.eq_nil_of_length_eq_zero hn)⟩
  · refine ⟨_, cap, hv, .inr ⟨g, 0, rfl, (Array.getElem?_eq_some_iff.1 hh).1, fun hf => by have := hF _ hf; omega, fun j hj => ?_⟩⟩
    have hB : Blk W g 3 cur := hh
    refine hB.cell _ ?_
    have h1 : (cur.toList.take (xs.length * 1))[j]? = some (.int .i64 (xs.getD j 0)) := by
      rw [ht, List.getElem?_map, List.getElem?_eq_getElem hj]; simp [List.getElem?_eq_getElem hj]
    rw [List.getElem?_take_of_lt (by omega), Array.getElem?_toList] at h1
    rw [Nat.zero_add]; exact h1

set_option maxRecDepth 100000 in
set_option maxHeartbeats 8000000 in
theorem pBes_err (a b : Mach) (la lb : ML) (fa ga : Option Addr) (fc gc : Nat) (ofA ofB : List Int) (w : World) (ha : Hid (MAt w a la)) (hb : Hid (MAt w b lb)) (hA : Hid (At w fa ofA)) (lA : Hid (ofA.length ≤ maxLen)) (hB : Hid (At w ga ofB)) (lB : Hid (ofB.length ≤ maxLen)) (c : Int) (hc : Hid (refC a b ofA ofB = c)) (hc0 : ¬ c = 0) :
    Calls Tryd.prog 33 #[mval a la, mval b lb, .slice fa ofA.length fc, .slice ga ofB.length gc] w fun e w' => BesErr c w e w' := by
  have B0 : Hid (Below w.heap.size w (((w.alloc (.cells (mcells a la) 25)).alloc (.cells (mcells b lb) 25)).alloc (.cells zcells 25))) := (((Below.refl _ _).alloc (Nat.le_refl _) _).alloc (by simp) _).alloc (by simp; omega) _
  have R0 : Hid (Blk (((w.alloc (.cells (mcells a la) 25)).alloc (.cells (mcells b lb) 25)).alloc (.cells zcells 25)) (w.heap.size + 2) 25 zcells) := by
    have := Blk.new ((w.alloc (.cells (mcells a la) 25)).alloc (.cells (mcells b lb) 25)) 25 zcells
    rwa [World.size_alloc, World.size_alloc] at this
  go_enter Tryd.func33, Tryd.ntmps33
  go_wp2_with fail
  revert B0 R0
  generalize ((w.alloc (.cells (mcells a la) 25)).alloc (.cells (mcells b lb) 25)).alloc (.cells zcells 25) = V0
  intro B0 R0
  refine (refuse_any a b la lb fa ga fc gc ofA ofB _ (ha.out.below B0.out (Nat.le_refl _)) (hb.out.below B0.out (Nat.le_refl _)) (hA.out.below B0.out (Nat.le_refl _)) lA (hB.out.below B0.out (Nat.le_refl _)) lB).mono ?_
  rintro e V1 ⟨rfl, hb1⟩
  have B1 := Hid.of (B0.out.trans (hb1.mono B0.out.size))
  have R1 := Hid.of (R0.out.below hb1 R0.out.lt)
  clear hb1 B0 R0
  obtain ⟨r0, r1, r2, r3, r4⟩ := zcell_at R1.out
  have rz := R1.out.frozen
  have rl := R1.out.lt
  rw [hc.out]
  have hcc : (c != 0) = true := by simpa using hc0
  have RR : Hid (Blk _ (w.heap.size + 2) 25 (mcells m0 ml0)) := R1.out.set5 (.int .i64 0) (.int .i64 0) (.slice none 0 0) (.slice none 0 0) (.slice none 0 0)
  go_wp2_with fail
  refine bodyPost_ret (v := .tuple #[mval m0 ml0, .slice none 0 0, .int .i64 c]) ?_ rfl ⟨rfl, below_set5 B1.out (b' := w.heap.size + 2) (by omega) _ _ _ _ _⟩
  exact results_three (p := 8) (u := 9) (v := 10) rfl _ _ (w.heap.size + 2) m0 ml0 _ _ rfl rfl rfl RR.out

end Go.Proofs.YtdnglodemkeooaaDoor
namespace Go.Proofs.YtdnglodemkeooaaDoor
open Go.RowKit
set_option linter.unusedVariables false

theorem incI_len : ∀ (l : List Int) (lo hi : Int), Inc l → (∀ x ∈ l, lo ≤ x ∧ x < hi) → l = [] ∨ (l.length : Int) ≤ hi - lo
  | [], _, _, _, _ => .inl rfl
  | x :: r, lo, hi, h, hb => by
    obtain ⟨h1, h2⟩ := List.pairwise_cons.1 h
    have hx := hb x (by simp)
    right
    rcases incI_len r (x + 1) hi h2 (fun y hy => ⟨by have := h1 y hy; omega, (hb y (by simp [hy])).2⟩) with e | e
    · subst e; simp; omega
    · simp only [List.length_cons]; omega
theorem set5_other (W : World) {b c : Nat} (h : ¬ b = c) : ∀ (j : Nat) (v0 v1 v2 v3 v4 : Value), (((((W.setCell ⟨c, 0, none⟩ v0).setCell ⟨c, 1, none⟩ v1).setCell ⟨c, 2, none⟩ v2).setCell ⟨c, 3, none⟩ v3).setCell ⟨c, 4, none⟩ v4).cell? ⟨b, j, none⟩ = W.cell? ⟨b, j, none⟩ := fun j v0 v1 v2 v3 v4 => by
  have hne : b ≠ c := h
  exact World.cell?_of_block (w := W) (by
    rw [Below.heap_setCell _ _ _ _ hne, Below.heap_setCell _ _ _ _ hne, Below.heap_setCell _ _ _ _ hne, Below.heap_setCell _ _ _ _ hne, Below.heap_setCell _ _ _ _ hne])
theorem starts256 {m : Mach} (hm : mayB m = true) : m.starts.length ≤ 256 := by
  have h := may_starts hm
  have hs := mayB_size hm
  unfold sizeOk at hs
  rcases incI_len m.starts 0 m.st h.1 h.2 with e | e
  · rw [e]; simp
  · omega

set_option maxRecDepth 100000 in
set_option maxHeartbeats 8000000 in
theorem pBes_fit (a b : Mach) (la lb : ML) (fa ga : Option Addr) (fc gc : Nat) (ofA ofB : List Int) (w : World) (ha : Hid (MAt w a la)) (hb : Hid (MAt w b lb)) (hA : Hid (At w fa ofA)) (lA : Hid (ofA.length ≤ fc ∧ fc ≤ maxLen)) (hB : Hid (At w ga ofB)) (lB : Hid (ofB.length ≤ gc ∧ gc ≤ maxLen)) (hc : Hid (refC a b ofA ofB = 0)) (hbig : (crossP a.starts b.starts).length ≤ 256) :
    Calls Tryd.prog 33 #[mval a la, mval b lb, .slice fa ofA.length fc, .slice ga ofB.length gc] w fun e w' => BesGives w a b ofA ofB e w' := by
  obtain ⟨ma, mb, hev, hra, hrb⟩ := refC_zero hc.out
  have MA := Hid.of ma
  have MB := Hid.of mb
  have HEV := Hid.of hev
  have HRA := Hid.of hra
  have HRB := Hid.of hrb
  have hsa := mayB_size ma
  have hsb := mayB_size mb
  unfold sizeOk at hsa hsb
  obtain ⟨SA, hSA⟩ : ∃ S : Nat, a.st = S := ⟨a.st.toNat, by omega⟩
  obtain ⟨SB, hSB⟩ : ∃ S : Nat, b.st = S := ⟨b.st.toNat, by omega⟩
  obtain ⟨E0, hE0⟩ : ∃ E : Nat, a.ev = E := ⟨a.ev.toNat, by omega⟩
  have hE8 : E0 ≤ 8 := by omega
  have hSA2 : SA ≤ 256 := by omega
  have hSB2 : SB ≤ 256 := by omega
  have HSA := Hid.of hSA
  have HSB := Hid.of hSB
  have HE0 := Hid.of hE0
  have hEb : Hid (b.ev = (E0 : Int)) := by show _ = _; rw [← hev]; exact hE0
  have hlA := Hid.of (show ofA.length ≤ maxLen from Nat.le_trans lA.out.1 lA.out.2)
  have hlB := Hid.of (show ofB.length ≤ maxLen from Nat.le_trans lB.out.1 lB.out.2)
  clear ma mb hev hra hrb hsa hsb hSA hSB hE0
  have hmm := @run_makeMap Tryd.prog
  have B0 : Hid (Below w.heap.size w (((w.alloc (.cells (mcells a la) 25)).alloc (.cells (mcells b lb) 25)).alloc (.cells zcells 25))) := (((Below.refl _ _).alloc (Nat.le_refl _) _).alloc (by simp) _).alloc (by simp; omega) _
  have KA0 : Hid (Blk (((w.alloc (.cells (mcells a la) 25)).alloc (.cells (mcells b lb) 25)).alloc (.cells zcells 25)) w.heap.size 25 (mcells a la)) := ((Blk.new w _ _).alloc _).alloc _
  have KB0 : Hid (Blk (((w.alloc (.cells (mcells a la) 25)).alloc (.cells (mcells b lb) 25)).alloc (.cells zcells 25)) (w.heap.size + 1) 25 (mcells b lb)) := by
    have := (Blk.new (w.alloc (.cells (mcells a la) 25)) 25 (mcells b lb)).alloc (.cells zcells 25)
    rwa [World.size_alloc] at this
  have R0 : Hid (Blk (((w.alloc (.cells (mcells a la) 25)).alloc (.cells (mcells b lb) 25)).alloc (.cells zcells 25)) (w.heap.size + 2) 25 zcells) := by
    have := Blk.new ((w.alloc (.cells (mcells a la) 25)).alloc (.cells (mcells b lb) 25)) 25 zcells
    rwa [World.size_alloc, World.size_alloc] at this
  go_enter Tryd.func33, Tryd.ntmps33
  go_wp2_with fail
  revert B0 KA0 KB0 R0
  generalize ((w.alloc (.cells (mcells a la) 25)).alloc (.cells (mcells b lb) 25)).alloc (.cells zcells 25) = V0
  intro B0 KA0 KB0 R0
  refine (refuse_any a b la lb fa ga fc gc ofA ofB _ (ha.out.below B0.out (Nat.le_refl _)) (hb.out.below B0.out (Nat.le_refl _)) (hA.out.below B0.out (Nat.le_refl _)) hlA (hB.out.below B0.out (Nat.le_refl _)) hlB).mono ?_
  rintro e V ⟨rfl, hb1⟩
  have B1 := Hid.of (B0.out.trans (hb1.mono B0.out.size))
  have KA1 := Hid.of (KA0.out.below hb1 KA0.out.lt)
  have KB1 := Hid.of (KB0.out.below hb1 KB0.out.lt)
  have R1 := Hid.of (R0.out.below hb1 R0.out.lt)
  clear hb1 B0 KA0 KB0 R0
  rw [hc.out]
  obtain ⟨x0, x1, x2, x3, x4⟩ := mcell_at KA1.out
  rw [HE0.out] at x1
  have lk := KA1.out.lt
  have F0 := Hid.of (FD.start V (E0 : Int))
  have BX := Hid.of (show Below V.heap.size V _ from ((Below.refl V.heap.size V).alloc (Nat.le_refl _) (.map #[] 0)).alloc (by simp) (.cells (fcells 0 (E0 : Int) (.slice none 0 0) (.slice none 0 0) (.slice none 0 0) (.slice none 0 0) V.heap.size) 80))
  go_wp2_with fail
  revert F0 BX
  generalize (V.alloc (.map #[] 0)).alloc (.cells (fcells 0 (E0 : Int) (.slice none 0 0) (.slice none 0 0) (.slice none 0 0) (.slice none 0 0) V.heap.size) 80) = X
  intro F0 BX
  have RD : Hid (∀ Y : World, Below V.heap.size V Y → At Y fa ofA ∧ At Y ga ofB ∧ MAt Y a la ∧ MAt Y b lb) := fun Y hY => by
    have hw := B1.out.trans (hY.mono B1.out.size)
    exact ⟨hA.out.below hw (Nat.le_refl _), hB.out.below hw (Nat.le_refl _), ha.out.below hw (Nat.le_refl _), hb.out.below hw (Nat.le_refl _)⟩
  refine (join_yes X fa fc ofA ga gc ofB (RD.out X BX.out).1 (RD.out X BX.out).2.1 lA.out.1 lB.out.1 lA.out.2 lB.out.2 (row_wide (by rw [HE0.out]; omega) HRA.out) (row_wide (by rw [HE0.out]; omega) HRB.out)).mono ?_
  rintro e Y ⟨ve0, rfl, hown, hbY⟩
  rw [ev_eq (b := b) HE0.out hE8 HRA.out HRB.out] at hown
  obtain ⟨ea, ec, rfl, hatE⟩ := own_atF (n := 0) (F := FF (V.heap.size + 1) V.heap.size (.slice none 0 0) (.slice none 0 0) (.slice none 0 0) (.slice none 0 0)) hown (fun j hj => by have := (F0.out.lt j hj).2; omega)
  have AE := Hid.of hatE
  have FY := Hid.of (F0.out.below hbY)
  have BY := Hid.of (BX.out.trans (hbY.mono BX.out.size))
  clear hown hatE hbY F0 BX x0 x1 x2 x3 x4 lk
  have C10 : Hid (∀ Z : World, Below V.heap.size V Z → (Z.cell? ⟨w.heap.size, 0, none⟩ = some (.int .i64 a.st) ∧ Z.cell? ⟨w.heap.size, 1, none⟩ = some (.int .i64 a.ev) ∧ Z.cell? ⟨w.heap.size, 2, none⟩ = some (.slice la.a1 a.starts.length la.c1) ∧ Z.cell? ⟨w.heap.size, 3, none⟩ = some (.slice la.a2 a.arrows.length la.c2) ∧ Z.cell? ⟨w.heap.size, 4, none⟩ = some (.slice la.a3 a.ends.length la.c3)) ∧ (Z.cell? ⟨w.heap.size + 1, 0, none⟩ = some (.int .i64 b.st) ∧ Z.cell? ⟨w.heap.size + 1, 1, none⟩ = some (.int .i64 b.ev) ∧ Z.cell? ⟨w.heap.size + 1, 2, none⟩ = some (.slice lb.a1 b.starts.length lb.c1) ∧ Z.cell? ⟨w.heap.size + 1, 3, none⟩ = some (.slice lb.a2 b.arrows.length lb.c2) ∧ Z.cell? ⟨w.heap.size + 1, 4, none⟩ = some (.slice lb.a3 b.ends.length lb.c3))) := fun Z hZ => ⟨mcell_at (KA1.out.below hZ KA1.out.lt), mcell_at (KB1.out.below hZ KB1.out.lt)⟩
  obtain ⟨⟨x0, x1, x2, x3, x4⟩, y0, y1, y2, y3, y4⟩ := C10.out Y BY.out
  have lk1 : w.heap.size < Y.heap.size := Nat.lt_of_lt_of_le KA1.out.lt BY.out.size
  have lk2 : w.heap.size + 1 < Y.heap.size := Nat.lt_of_lt_of_le KB1.out.lt BY.out.size
  have HBEG : Hid (Calls Tryd.prog 67 #[.pointer (some ⟨V.heap.size + 1, 0, none⟩), .slice la.a1 a.starts.length la.c1, .slice lb.a1 b.starts.length lb.c1] Y.drew fun e W' => BegPost V Y.drew (V.heap.size + 1) V.heap.size (E0 : Int) a.starts b.starts e W') := by
    have sa := may_starts MA.out
    have sb := may_starts MB.out
    rw [HSA.out] at sa
    rw [HSB.out] at sb
    exact begin_any V Y.drew (V.heap.size + 1) V.heap.size (E0 : Int) la.a1 lb.a1 la.c1 lb.c1 a.starts b.starts (ha.out.below B1.out (Nat.le_refl _)).s (hb.out.below B1.out (Nat.le_refl _)).s (starts256 MA.out) (starts256 MB.out) sa.1 sb.1 (fun x hx => by have := sa.2 x hx; omega) (fun x hx => by have := sb.2 x hx; omega) FY.out.drew BY.out.drew
  obtain ⟨r0, r1, r2, r3, r4⟩ := zcell_at R1.out
  have rz := R1.out.frozen
  clear r0 r1 r2 r3 r4 rz
  go_wp2_with fail
  have HBG := Hid.of hbig
  have hdec : decide ((crossP a.starts b.starts).length ≤ 256) = true := by simpa using hbig
  have HDEC := Hid.of hdec
  clear hbig hdec
  have HLDA : Hid (∀ Z : World, Below V.heap.size V Z → Calls Tryd.prog 69 #[mval a la, .slice fa ofA.length fc] Z fun e w' => LeadsPost Z (SA * E0) (tabL a.arrows ofA E0 (SA * E0) a.arrows.length) e w') := fun Z hZ => pLeads_any a la MA.out SA E0 HSA.out HE0.out fa fc ofA Z (RD.out Z hZ).2.2.1 (RD.out Z hZ).1 hlA.out
  have HLDB : Hid (∀ Z : World, Below V.heap.size V Z → Calls Tryd.prog 69 #[mval b lb, .slice ga ofB.length gc] Z fun e w' => LeadsPost Z (SB * E0) (tabL b.arrows ofB E0 (SB * E0) b.arrows.length) e w') := fun Z hZ => pLeads_any b lb MB.out SB E0 HSB.out hEb.out ga gc ofB Z (RD.out Z hZ).2.2.2 (RD.out Z hZ).2.1 hlB.out
  have HSPR : Hid (∀ (Z : World) (vs vp : Value) (ta tb : Nat), FD V.heap.size Z (V.heap.size + 1) V.heap.size (crossP a.starts b.starts).length (E0 : Int) vs (.slice none 0 0) (.slice none 0 0) vp (rngI (crossP a.starts b.starts).length) [] [] (crossP a.starts b.starts) → RT (FF (V.heap.size + 1) V.heap.size vs (.slice none 0 0) (.slice none 0 0) vp) Z ta (SA * E0) (tabL a.arrows ofA E0 (SA * E0) a.arrows.length) → RT (FF (V.heap.size + 1) V.heap.size vs (.slice none 0 0) (.slice none 0 0) vp) Z tb (SB * E0) (tabL b.arrows ofB E0 (SB * E0) b.arrows.length) → AtF Z (FF (V.heap.size + 1) V.heap.size vs (.slice none 0 0) (.slice none 0 0) vp) ea (evL E0 ofA ofB) → Calls Tryd.prog 68 #[.pointer (some ⟨V.heap.size + 1, 0, none⟩), .slice ea (evL E0 ofA ofB).length ec, .slice (some ⟨ta, 0, none⟩) (SA * E0) (SA * E0), .slice (some ⟨tb, 0, none⟩) (SB * E0) (SB * E0)] Z fun e W' => SprPost V.heap.size Z (V.heap.size + 1) V.heap.size (E0 : Int) vs (.slice none 0 0) (.slice none 0 0) vp (rngI (crossP a.starts b.starts).length) [] (besideS a b ofA ofB) e W') := fun Z vs vp ta tb hF hTA hTB hE =>
    bspread_any V.heap.size Z (V.heap.size + 1) V.heap.size vs (.slice none 0 0) (.slice none 0 0) vp (rngI (crossP a.starts b.starts).length) [] a b ofA ofB SA SB E0 ta tb _ _ ea ec ⟨crossP a.starts b.starts, []⟩ MA MB HSA.out HSB.out HE0 hE8 hSA2 hSB2 hF ⟨rfl, rfl⟩ HBG.out hTA hTB hE
      (fun x e hx he => tabL_end MA.out HE0.out ofA (place_lt hx he) he) (fun x e hx he => tabL_end MB.out hEb.out ofB (place_lt hx he) he)
  obtain ⟨NA, HNA⟩ : ∃ N, Hid (N = SA * E0) := ⟨_, rfl⟩
  obtain ⟨NB, HNB⟩ : ∃ N, Hid (N = SB * E0) := ⟨_, rfl⟩
  rw [← HNA.out] at HLDA HSPR
  rw [← HNB.out] at HLDB HSPR
  cases hres : besideS a b ofA ofB with
  | none =>
    have HNO := Hid.of hres
    rw [hres] at HSPR
    clear hres
    go_region_held3 (fun w' => w'.cell? ⟨w.heap.size, 0, none⟩ = some (.int .i64 a.st) ∧ w'.cell? ⟨w.heap.size, 1, none⟩ = some (.int .i64 a.ev) ∧ w'.cell? ⟨w.heap.size, 2, none⟩ = some (.slice la.a1 a.starts.length la.c1) ∧ w'.cell? ⟨w.heap.size, 3, none⟩ = some (.slice la.a2 a.arrows.length la.c2) ∧ w'.cell? ⟨w.heap.size, 4, none⟩ = some (.slice la.a3 a.ends.length la.c3) ∧ w'.cell? ⟨w.heap.size + 1, 0, none⟩ = some (.int .i64 b.st) ∧ w'.cell? ⟨w.heap.size + 1, 1, none⟩ = some (.int .i64 b.ev) ∧ w'.cell? ⟨w.heap.size + 1, 2, none⟩ = some (.slice lb.a1 b.starts.length lb.c1) ∧ w'.cell? ⟨w.heap.size + 1, 3, none⟩ = some (.slice lb.a2 b.arrows.length lb.c2) ∧ w'.cell? ⟨w.heap.size + 1, 4, none⟩ = some (.slice lb.a3 b.ends.length lb.c3)) (go_keep) (first | (go_at_call 67; refine HBEG.out.mono ?_; rintro r w1 ⟨rfl, hB1, vs1, vp1, hT1, hF1⟩; rw [HDEC.out]; have BW1 := Hid.of hB1; have FW1 := Hid.of (hF1 HBG.out); have AW1 := Hid.of ((AE.out.turn (Turn.refl _ _).drew).turn hT1); obtain ⟨⟨p0, p1, p2, p3, p4⟩, q0, q1, q2, q3, q4⟩ := C10.out w1 hB1; clear hB1 hT1 hF1) | (go_at_call_of 69 (Value.slice fa ofA.length fc); refine (HLDA.out _ BW1.out).mono ?_; rintro r w2 ⟨ta, vva, rfl, hTW, hB2⟩; have BW2 := Hid.of (BW1.out.trans (hB2.mono BW1.out.size)); have FW2 := Hid.of (FW1.out.below hB2); have TA2 := Hid.of (hTW.rt (fun j hj => (FW1.out.lt j hj).2)); have AW2 := Hid.of (AW1.out.turn (Turn.of_below hB2)); obtain ⟨⟨s0, s1, s2, s3, s4⟩, u0, u1, u2, u3, u4⟩ := C10.out w2 BW2.out; clear hB2 hTW) | (go_at_call_of 69 (Value.slice ga ofB.length gc); refine (HLDB.out _ BW2.out).mono ?_; rintro r w3 ⟨tb, vvb, rfl, hTW, hB3⟩; have BW3 := Hid.of (BW2.out.trans (hB3.mono BW2.out.size)); have FW3 := Hid.of (FW2.out.below hB3); have TB3 := Hid.of (hTW.rt (fun j hj => (FW2.out.lt j hj).2)); have TA3 := Hid.of (TA2.out.turn (Turn.of_below hB3)); have AW3 := Hid.of (AW2.out.turn (Turn.of_below hB3)); obtain ⟨⟨c0, c1, c2, c3, c4⟩, d0, d1, d2, d3, d4⟩ := C10.out w3 BW3.out; clear hB3 hTW) | (go_at_call 68; refine (HSPR.out _ _ _ _ _ FW3.out TA3.out TB3.out AW3.out).mono ?_; rintro r w4 ⟨va4, vp4, hT4, hR4⟩; subst hR4; have BW4 := Hid.of (BW3.out.trans ((hT4.below (fun j hj => (FW3.out.lt j hj).1) BW3.out.size).mono (Nat.le_refl _))); obtain ⟨⟨e0, e1, e2, e3, e4⟩, f0, f1, f2, f3, f4⟩ := C10.out w4 BW4.out; clear hT4))
    have R2 := Hid.of (R1.out.below BW4.out R1.out.lt)
    obtain ⟨r0, r1, r2, r3, r4⟩ := zcell_at R2.out
    have rz := R2.out.frozen
    have rl := R2.out.lt
    have RR : Hid (Blk _ (w.heap.size + 2) 25 (mcells m0 ml0)) := R2.out.set5 (.int .i64 0) (.int .i64 0) (.slice none 0 0) (.slice none 0 0) (.slice none 0 0)
    go_wp2_with fail
    refine bodyPost_ret (v := .tuple #[mval m0 ml0, .slice none 0 0, .int .i64 1]) ?_ rfl ?_
    · exact results_three (p := 8) (u := 9) (v := 10) rfl _ _ (w.heap.size + 2) m0 ml0 _ _ rfl rfl rfl RR.out
    · unfold BesGives
      rw [HNO.out]
      exact ⟨rfl, below_set5 (B1.out.trans (BW4.out.mono B1.out.size)) (b' := w.heap.size + 2) (by omega) _ _ _ _ _⟩
  | some s =>
    have HYES := Hid.of hres
    rw [hres] at HSPR
    clear hres
    go_region_held3 (fun w' => w'.cell? ⟨w.heap.size, 0, none⟩ = some (.int .i64 a.st) ∧ w'.cell? ⟨w.heap.size, 1, none⟩ = some (.int .i64 a.ev) ∧ w'.cell? ⟨w.heap.size, 2, none⟩ = some (.slice la.a1 a.starts.length la.c1) ∧ w'.cell? ⟨w.heap.size, 3, none⟩ = some (.slice la.a2 a.arrows.length la.c2) ∧ w'.cell? ⟨w.heap.size, 4, none⟩ = some (.slice la.a3 a.ends.length la.c3) ∧ w'.cell? ⟨w.heap.size + 1, 0, none⟩ = some (.int .i64 b.st) ∧ w'.cell? ⟨w.heap.size + 1, 1, none⟩ = some (.int .i64 b.ev) ∧ w'.cell? ⟨w.heap.size + 1, 2, none⟩ = some (.slice lb.a1 b.starts.length lb.c1) ∧ w'.cell? ⟨w.heap.size + 1, 3, none⟩ = some (.slice lb.a2 b.arrows.length lb.c2) ∧ w'.cell? ⟨w.heap.size + 1, 4, none⟩ = some (.slice lb.a3 b.ends.length lb.c3)) (go_keep) (first | (go_at_call 67; refine HBEG.out.mono ?_; rintro r w1 ⟨rfl, hB1, vs1, vp1, hT1, hF1⟩; rw [HDEC.out]; have BW1 := Hid.of hB1; have FW1 := Hid.of (hF1 HBG.out); have AW1 := Hid.of ((AE.out.turn (Turn.refl _ _).drew).turn hT1); obtain ⟨⟨p0, p1, p2, p3, p4⟩, q0, q1, q2, q3, q4⟩ := C10.out w1 hB1; clear hB1 hT1 hF1) | (go_at_call_of 69 (Value.slice fa ofA.length fc); refine (HLDA.out _ BW1.out).mono ?_; rintro r w2 ⟨ta, vva, rfl, hTW, hB2⟩; have BW2 := Hid.of (BW1.out.trans (hB2.mono BW1.out.size)); have FW2 := Hid.of (FW1.out.below hB2); have TA2 := Hid.of (hTW.rt (fun j hj => (FW1.out.lt j hj).2)); have AW2 := Hid.of (AW1.out.turn (Turn.of_below hB2)); obtain ⟨⟨s0, s1, s2, s3, s4⟩, u0, u1, u2, u3, u4⟩ := C10.out w2 BW2.out; clear hB2 hTW) | (go_at_call_of 69 (Value.slice ga ofB.length gc); refine (HLDB.out _ BW2.out).mono ?_; rintro r w3 ⟨tb, vvb, rfl, hTW, hB3⟩; have BW3 := Hid.of (BW2.out.trans (hB3.mono BW2.out.size)); have FW3 := Hid.of (FW2.out.below hB3); have TB3 := Hid.of (hTW.rt (fun j hj => (FW2.out.lt j hj).2)); have TA3 := Hid.of (TA2.out.turn (Turn.of_below hB3)); have AW3 := Hid.of (AW2.out.turn (Turn.of_below hB3)); obtain ⟨⟨c0, c1, c2, c3, c4⟩, d0, d1, d2, d3, d4⟩ := C10.out w3 BW3.out; clear hB3 hTW) | (go_at_call 68; refine (HSPR.out _ _ _ _ _ FW3.out TA3.out TB3.out AW3.out).mono ?_; rintro r w4 ⟨va4, vp4, hT4, hR4⟩; obtain ⟨rfl, hF4, hl4⟩ := hR4; have F4 := Hid.of hF4; have L4 := Hid.of hl4; clear hF4 hl4; have BW4 := Hid.of (BW3.out.trans ((hT4.below (fun j hj => (FW3.out.lt j hj).1) BW3.out.size).mono (Nat.le_refl _))); obtain ⟨⟨e0, e1, e2, e3, e4⟩, f0, f1, f2, f3, f4⟩ := C10.out w4 BW4.out; clear hT4))
    clear HBEG HLDA HLDB HSPR FW1 FW2 FW3 TA2 TA3 TB3 AW1 AW2 AW3 BW1 BW2 BW3
    clear x0 x1 x2 x3 x4 y0 y1 y2 y3 y4 p0 p1 p2 p3 p4 q0 q1 q2 q3 q4 s0 s1 s2 s3 s4 u0 u1 u2 u3 u4 c0 c1 c2 c3 c4 d0 d1 d2 d3 d4
    have hM : (if (s.ps.length : Int) < 1 then (1 : Int) else (s.ps.length : Int)) = (besideM a b s).st := by
      show _ = (if s.ps.length = 0 then (1 : Int) else (s.ps.length : Int))
      split <;> split <;> omega
    have HEND := Hid.of (end_any V w4 (V.heap.size + 1) V.heap.size (E0 : Int) vs1 va4 vp4 (rngI (crossP a.starts b.starts).length) (srtA s.ar) s.ps a b la.a3 lb.a3 la.c3 lb.c3 (besideM a b s).st F4 BW4 (ha.out.below B1.out (Nat.le_refl _)).e (hb.out.below B1.out (Nat.le_refl _)).e (by have := endsLen MA.out; show _ ≤ _; unfold maxLen; omega) (by have := endsLen MB.out; show _ ≤ _; unfold maxLen; omega) L4.out hM)
    clear hM
    have lk3 : w.heap.size < w4.heap.size := Nat.lt_of_lt_of_le KA1.out.lt BW4.out.size
    have lk4 : w.heap.size + 1 < w4.heap.size := Nat.lt_of_lt_of_le KB1.out.lt BW4.out.size
    go_wp2_with fail
    refine HEND.out.mono ?_
    rintro r w5 ⟨rfl, ve5, hF5, hB5⟩
    have F5 := Hid.of hF5
    have B5 := Hid.of hB5
    clear hF5 hB5 HEND F4 e0 e1 e2 e3 e4 f0 f1 f2 f3 f4 BW4 lk3 lk4 lk1 lk2
    obtain ⟨sa, sc, hv1, at1, s11, s12, s13⟩ := F5.out.st.at2
    obtain ⟨aa, ac, hv2, at2, s21, s22, s23⟩ := F5.out.ar.at
    obtain ⟨xa, xc, hv3, at3, s31, s32, s33⟩ := F5.out.en.at2
    subst hv1; subst hv2; subst hv3
    have CAPS := Hid.of (And.intro (And.intro s11 (And.intro s12 s13)) (And.intro (And.intro s21 (And.intro s22 s23)) (And.intro s31 (And.intro s32 s33))))
    clear at1 at2 at3 s11 s12 s13 s21 s22 s23 s31 s32 s33
    obtain ⟨g0, g1, g2, g3, g4, -, -⟩ := F5.out.cells
    have lbf := F5.out.blk.lt
    have HLIST := Hid.of (list_any V.heap.size w5.drew (V.heap.size + 1) V.heap.size (besideM a b s).st (E0 : Int) _ _ _ vp4 _ _ _ s.ps F5.out.drew L4.out)
    have lRV : w.heap.size + 2 < V.heap.size := R1.out.lt
    have R5 := Hid.of (R1.out.below B5.out R1.out.lt)
    have lR5 := R5.out.lt
    have nR1 : ¬ w.heap.size + 2 = V.heap.size + 1 := by omega
    have nR2 : ¬ V.heap.size + 1 = w.heap.size + 2 := by omega
    have nR3 : ¬ w.heap.size + 1 + 1 = V.heap.size + 1 := by omega
    have nR4 : ¬ V.heap.size + 1 = w.heap.size + 1 + 1 := by omega
    go_wp2_with fail
    go_region_held3 (fun w' => w'.cell? ⟨V.heap.size + 1, 0, none⟩ = some (.int .i64 (besideM a b s).st) ∧ w'.cell? ⟨V.heap.size + 1, 1, none⟩ = some (.int .i64 E0) ∧ w'.cell? ⟨V.heap.size + 1, 2, none⟩ = some (.slice sa (rngI (crossP a.starts b.starts).length).length sc) ∧ w'.cell? ⟨V.heap.size + 1, 3, none⟩ = some (.slice aa (srtA s.ar).length ac) ∧ w'.cell? ⟨V.heap.size + 1, 4, none⟩ = some (.slice xa (endsP a b s.ps s.ps.length).length xc)) (first | go_keep | (refine ⟨?_, ?_, ?_, ?_, ?_⟩ <;> first | exact (BC5.out _ _ _ _ _ _).trans h0 | exact (BC5.out _ _ _ _ _ _).trans h1 | exact (BC5.out _ _ _ _ _ _).trans h2 | exact (BC5.out _ _ _ _ _ _).trans h3 | exact (BC5.out _ _ _ _ _ _).trans h4)) (first | (go_at_call 71; refine HLIST.out.mono ?_; rintro r w6 ⟨v6, rfl, hO6, hB6⟩; have O6 := Hid.of hO6; have F6 := Hid.of (F5.out.drew.below hB6); have B6 := Hid.of (B5.out.drew.trans (hB6.mono B5.out.drew.size)); have R6 := Hid.of (R5.out.drew.below hB6 R5.out.lt); obtain ⟨h0, h1, h2, h3, h4, -, -⟩ := (F5.out.drew.below hB6).cells; obtain ⟨r0, r1, r2, r3, r4⟩ := zcell_at (R5.out.drew.below hB6 R5.out.lt); have rz := (R5.out.drew.below hB6 R5.out.lt).frozen; have rl := (R5.out.drew.below hB6 R5.out.lt).lt; have BC5 := Hid.of (set5_other w6 nR2); clear hO6 hB6))
    have KR : Hid (Kp (w.heap.size + 2) w6 _) := Kp.set5 (.int .i64 (besideM a b s).st) (.int .i64 (E0 : Int)) (.slice sa (rngI (crossP a.starts b.starts).length).length sc) (.slice aa (srtA s.ar).length ac) (.slice xa (endsP a b s.ps s.ps.length).length xc)
    have R7 : Hid (Blk _ (w.heap.size + 2) 25 _) := R6.out.set5 (.int .i64 (besideM a b s).st) (.int .i64 (E0 : Int)) (.slice sa (rngI (crossP a.starts b.starts).length).length sc) (.slice aa (srtA s.ar).length ac) (.slice xa (endsP a b s.ps s.ps.length).length xc)
    have F7 := Hid.of (F6.out.same (fun j hj => KR.out.same j (F6.out.lt j hj).2 (by have := (F6.out.lt j hj).1; omega)))
    have O7 := Hid.of ((O6.out.kp KR.out R6.out (by decide) (by decide)).lower (show w.heap.size ≤ w5.drew.heap.size from Nat.le_trans (Nat.le_trans (by omega) (Nat.le_of_lt lRV)) B5.out.size))
    have B7 : Hid (Below w.heap.size w _) := below_set5 (B1.out.trans (B6.out.mono B1.out.size)) (b' := w.heap.size + 2) (by omega) (.int .i64 (besideM a b s).st) (.int .i64 (E0 : Int)) (.slice sa (rngI (crossP a.starts b.starts).length).length sc) (.slice aa (srtA s.ar).length ac) (.slice xa (endsP a b s.ps s.ps.length).length xc)
    have HME : Hid (mcells (besideM a b s) ⟨sa, sc, aa, ac, xa, xc⟩ = #[.int .i64 (besideM a b s).st, .int .i64 (E0 : Int), .slice sa (rngI (crossP a.starts b.starts).length).length sc, .slice aa (srtA s.ar).length ac, .slice xa (endsP a b s.ps s.ps.length).length xc]) := by
      show _ = _
      rw [← HE0.out]; rfl
    clear h0 h1 h2 h3 h4 r0 r1 r2 r3 r4 rz rl g0 g1 g2 g3 g4 KR
    go_wp2_with fail
    refine bodyPost_ret (v := .tuple #[mval (besideM a b s) ⟨sa, sc, aa, ac, xa, xc⟩, v6, .int .i64 0]) ?_ rfl ?_
    · exact results_three (p := 8) (u := 9) (v := 10) rfl _ _ (w.heap.size + 2) (besideM a b s) ⟨sa, sc, aa, ac, xa, xc⟩ _ _ rfl rfl rfl (by rw [HME.out]; exact R7.out)
    · unfold BesGives
      rw [HYES.out]
      obtain ⟨ya, yc, ye, yat, -⟩ := F7.out.st.at2
      cases ye
      obtain ⟨za, zc, ze, zat, -⟩ := F7.out.ar.at
      cases ze
      obtain ⟨ta', tc', te, tat, -⟩ := F7.out.en.at2
      cases te
      exact ⟨⟨sa, sc, aa, ac, xa, xc⟩, v6, rfl, ⟨yat, zat, tat, CAPS.out.1.1, CAPS.out.1.2.1, CAPS.out.1.2.2, CAPS.out.2.1.1, CAPS.out.2.1.2.1, CAPS.out.2.1.2.2, CAPS.out.2.2.1, CAPS.out.2.2.2.1, CAPS.out.2.2.2.2⟩, O7.out, B7.out⟩

end Go.Proofs.YtdnglodemkeooaaDoor
