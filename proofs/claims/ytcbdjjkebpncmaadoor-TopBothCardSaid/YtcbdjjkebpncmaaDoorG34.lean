/-
  The walk of finder.spread.
  The walks of finder.end and finder.list.
  The walk of beside.refuse.
  The walks of row.finder and of the closure that it answers (row.finder$1): a list gone through once for rising numbers.
-/
import Derived.Test.YtcbdjjkebpncmaaDoorG33
import Derived.Test.YtcbdjjkebpncmaaDoorG15
import Derived.Test.YtcbdjjkebpncmaaDoorG10
import Derived.Test.YtcbdjjkebpncmaaDoorG07
import Derived.Laws.EntriesVeiled
namespace Go.Proofs.YtcbdjjkebpncmaaDoor
open Go.RowKit
set_option linter.unusedVariables false

/-- What spread leaves. -/
def SprPost (B : Nat) (W : World) (bf br : Nat) (ev : Int) (vs va ve vp : Value) (S E : List Int) (r : Option BS) (e : Ending) (W' : World) : Prop :=
  ∃ va' vp', Turn (FF bf br vs va ve vp) (FF bf br vs va' ve vp') W W' ∧ match r with
    | none => e = .returned (.bool false)
    | some s => e = .returned (.bool true) ∧ FD B W' bf br s.ps.length ev vs va' ve vp' S (srtA s.ar) E s.ps ∧ s.ps.length ≤ 256

theorem bPair_ev {a b : Mach} {ofA ofB : List Int} {s : BS} {k E0 : Nat} {p : Int × Int} (hE : a.ev = (E0 : Int)) : (evL E0 ofA ofB).foldl (bEv a b ofA ofB k p) s = bEvs a b ofA ofB k p s a.ev.toNat := by
  rw [bEvs_evL, hE]; rfl
theorem go_big {a b : Mach} {ofA ofB : List Int} {f k : Nat} {s : BS} {p : Int × Int} (hp : s.ps[k]? = some p) (hB : bBig (bEvs a b ofA ofB k p s a.ev.toNat) = true) (hf : 0 < f) : bGo a b ofA ofB f k s = none := by
  obtain ⟨g, rfl⟩ : ∃ g, f = g + 1 := ⟨f - 1, by omega⟩
  have hk := (List.getElem?_eq_some_iff.1 hp).1
  have e : bPair a b ofA ofB s k = bEvs a b ofA ofB k p s a.ev.toNat := by unfold bPair; rw [hp]; rfl
  unfold bGo
  rw [if_pos hk, e, if_pos hB]
theorem go_next {a b : Mach} {ofA ofB : List Int} {f k : Nat} {s : BS} {p : Int × Int} (hp : s.ps[k]? = some p) (hB : bBig (bEvs a b ofA ofB k p s a.ev.toNat) = false) (hf : 0 < f) : bGo a b ofA ofB f k s = bGo a b ofA ofB (f - 1) (k + 1) (bEvs a b ofA ofB k p s a.ev.toNat) := by
  obtain ⟨g, rfl⟩ : ∃ g, f = g + 1 := ⟨f - 1, by omega⟩
  have hk := (List.getElem?_eq_some_iff.1 hp).1
  have e : bPair a b ofA ofB s k = bEvs a b ofA ofB k p s a.ev.toNat := by unfold bPair; rw [hp]; rfl
  rw [bGo, if_pos hk, e, if_neg (by rw [hB]; simp)]; rfl
theorem go_end {a b : Mach} {ofA ofB : List Int} {f k : Nat} {s : BS} (h : ¬ k < s.ps.length) : bGo a b ofA ofB f k s = some s := by
  cases f with
  | zero => rfl
  | succ f => rw [bGo, if_neg h]
theorem wrap_at {x E0 e N : Nat} (h : x * E0 + e < N) (hN : N ≤ 2048) : wrap64 ((x : Int) * (E0 : Int)) = (x : Int) * (E0 : Int) ∧ wrap64 ((x : Int) * (E0 : Int) + (e : Int)) = ((x * E0 + e : Nat) : Int) := by
  have h1 : ((x : Int) * (E0 : Int)) = ((x * E0 : Nat) : Int) := by simp
  have h2 : ((x : Int) * (E0 : Int) + (e : Int)) = ((x * E0 + e : Nat) : Int) := by simp
  constructor
  · rw [h1]; exact w64_in _ (by generalize x * E0 = d at h; omega)
  · rw [h2]; exact w64_in _ (by generalize x * E0 = d at h; omega)
theorem iwrap_at {x E0 e N : Nat} (h : x * E0 + e < N) (hN : N ≤ 2048) : IntKind.i64.wrap ((x : Int) * (E0 : Int)) = (x : Int) * (E0 : Int) ∧ IntKind.i64.wrap ((x : Int) * (E0 : Int) + (e : Int)) = ((x * E0 + e : Nat) : Int) := by
  have h1 : ((x : Int) * (E0 : Int)) = ((x * E0 : Nat) : Int) := by simp
  have h2 : ((x : Int) * (E0 : Int) + (e : Int)) = ((x * E0 + e : Nat) : Int) := by simp
  constructor
  · rw [h1]; generalize x * E0 = d at h; simp [IntKind.wrap, IntKind.bits, IntKind.signed]; omega
  · rw [h2]; generalize x * E0 = d at h; simp [IntKind.wrap, IntKind.bits, IntKind.signed]; omega
theorem place_lt {x E0 e S0 : Nat} (h1 : x < S0) (h2 : e < E0) : x * E0 + e < S0 * E0 := by
  have h3 : (x + 1) * E0 ≤ S0 * E0 := Nat.mul_le_mul_right _ h1
  rw [Nat.succ_mul] at h3
  omega

set_option maxHeartbeats 8000000 in
set_option maxRecDepth 100000 in
theorem bspread_any (B : Nat) (W : World) (bf br : Nat) (vs va ve vp : Value) (S E : List Int) (a b : Mach) (ofA ofB : List Int) (SA SB E0 : Nat) (ta tb : Nat) (TA TB : Nat → List Int) (ea : Option Addr) (ec : Nat) (s0 : BS)
    (ma : Hid (mayB a = true)) (mb : Hid (mayB b = true)) (hSA : a.st = (SA : Int)) (hSB : b.st = (SB : Int)) (hEa : Hid (a.ev = (E0 : Int))) (hE8 : E0 ≤ 8) (hSA2 : SA ≤ 256) (hSB2 : SB ≤ 256)
    (hF : Hid (FD B W bf br s0.ps.length (E0 : Int) vs va ve vp S (srtA s0.ar) E s0.ps)) (hs0 : Hid (s0.ps = crossP a.starts b.starts ∧ s0.ar = [])) (hfit : s0.ps.length ≤ 256)
    (hTA : Hid (RT (FF bf br vs va ve vp) W ta (SA * E0) TA)) (hTB : Hid (RT (FF bf br vs va ve vp) W tb (SB * E0) TB)) (hev : Hid (AtF W (FF bf br vs va ve vp) ea (evL E0 ofA ofB)))
    (eA : Hid (∀ x e : Nat, x < SA → e < E0 → TA (x * E0 + e) = toL a.arrows ofA x e)) (eB : Hid (∀ x e : Nat, x < SB → e < E0 → TB (x * E0 + e) = toL b.arrows ofB x e)) :
    Calls Tryd.prog 46 #[.pointer (some ⟨bf, 0, none⟩), .slice ea (evL E0 ofA ofB).length ec, .slice (some ⟨ta, 0, none⟩) (SA * E0) (SA * E0), .slice (some ⟨tb, 0, none⟩) (SB * E0) (SB * E0)] W fun e W' => SprPost B W bf br (E0 : Int) vs va ve vp S E (besideS a b ofA ofB) e W' := by
  have hNA : SA * E0 ≤ 2048 := Nat.le_trans (Nat.mul_le_mul hSA2 hE8) (by decide)
  have hNB : SB * E0 ≤ 2048 := Nat.le_trans (Nat.mul_le_mul hSB2 hE8) (by decide)
  obtain ⟨NA, HNA⟩ : ∃ N, Hid (N = SA * E0) := ⟨_, rfl⟩
  obtain ⟨NB, HNB⟩ : ∃ N, Hid (N = SB * E0) := ⟨_, rfl⟩
  rw [← HNA.out] at hNA hTA ⊢
  rw [← HNB.out] at hNB hTB ⊢
  have hel : (evL E0 ofA ofB).length ≤ 8 := Nat.le_trans (evL_len _ _ _) hE8
  have SI0 : Hid (SI a b 0 0 s0) := by
    have sa := may_starts ma.out
    have sb := may_starts mb.out
    refine ⟨?_, fun p hp => ?_, fun x hx => ?_⟩
    · rw [hs0.out.1]; exact nodup_crossP (inc_nodup sa.1) (inc_nodup sb.1)
    · rw [hs0.out.1] at hp
      obtain ⟨h1, h2⟩ := (mem_crossP _ _ _).1 hp
      exact ⟨sa.2 _ h1, sb.2 _ h2⟩
    · rw [hs0.out.2] at hx; simp at hx
  have HBS : Hid (besideS a b ofA ofB = bGo a b ofA ofB 300 0 s0) := by
    show _ = _
    unfold besideS
    congr 1
    have h1 := hs0.out
    cases s0
    simp at h1
    rw [h1.1, h1.2]
  have HL0 : Hid ((srtA s0.ar).length = s0.ar.length) := by show _ = _; rw [hs0.out.2]; rfl
  have HG0 : Hid (bBig s0 = false) := bBig_mk hfit (by rw [hs0.out.2]; simp)
  go_enter Tryd.func46, Tryd.ntmps46
  go_wp2_with fail
  go_loopw [9] (fun i wr => ∃ (k : Nat) (s : BS) (va' vp' : Value), i = .int .i64 k ∧ k ≤ s.ps.length ∧ s.ps.length ≤ 256 ∧ Hid (FD B wr bf br s.ps.length (E0 : Int) vs va' ve vp' S (srtA s.ar) E s.ps) ∧ Hid (Turn (FF bf br vs va ve vp) (FF bf br vs va' ve vp') W wr) ∧ Hid (bBig s = false) ∧ Hid ((srtA s.ar).length = s.ar.length) ∧ Hid (SI a b k 0 s) ∧ Hid (besideS a b ofA ofB = bGo a b ofA ofB (300 - k) k s)) (fun i _ => 300 - (intOf i).toNat)
  case atStart => exact ⟨0, s0, va, vp, rfl, Nat.zero_le _, hfit, hF, Turn.refl _ _, HG0, HL0, SI0, HBS⟩
  case round =>
    clear hF hfit HG0 HL0 SI0 HBS
    obtain ⟨k, s, va1, vp1, rfl, hk, hps, HF, HT, HG, HL, HS, HE⟩ := hrel
    have c0 := HF.out.cells.1
    have c5 := HF.out.cells.2.2.2.2.2.1
    have lb := HF.out.blk.lt
    by_cases hlt : k < s.ps.length
    · obtain ⟨p, hp⟩ : ∃ p, Hid (s.ps[k]? = some p) := ⟨_, List.getElem?_eq_getElem hlt⟩
      have hcr := HS.out.cr p (List.mem_of_getElem? hp.out)
      rw [hSA, hSB] at hcr
      obtain ⟨px, py⟩ := p
      dsimp only at hcr
      obtain ⟨x0, rfl⟩ : ∃ x0 : Nat, px = x0 := ⟨px.toNat, by omega⟩
      obtain ⟨y0, rfl⟩ : ∃ y0 : Nat, py = y0 := ⟨py.toNat, by omega⟩
      have hx0 : x0 < SA := by omega
      have hy0 : y0 < SB := by omega
      clear hcr
      obtain ⟨g, cap, hvp, hg1, hg2, p0, p1⟩ := HF.out.ps.cell hp.out
      rw [hvp] at c5
      have HX1 : Hid (Turn (FF bf br vs va1 ve vp1) (FF bf br vs va1 ve vp1) wr (wr.alloc (.cells #[.int .i64 x0, .int .i64 y0] 114))) := (Turn.refl _ _).alloc _
      have HXF := Hid.of (HF.out.alloc (.cells #[.int .i64 x0, .int .i64 y0] 114))
      have HXP := Hid.of (Blk.new wr 114 #[.int .i64 x0, .int .i64 y0])
      have HNF : Hid (¬ FF bf br vs va1 ve vp1 wr.heap.size) := fun h => by have := (HF.out.lt _ h).2; omega
      go_wp2_with fail
      clear c0 c5 p0 p1 hg1 hg2 hvp lb
      have HXT := Hid.of (HT.out.trans HX1.out)
      have HXA := Hid.of (hTA.out.turn HXT.out)
      have HXB := Hid.of (hTB.out.turn HXT.out)
      have HXE := Hid.of (hev.out.turn HXT.out)
      revert HXF HXP HXT HXA HXB HXE
      clear HX1 HF HT
      obtain ⟨pb, Hpb⟩ : ∃ pb, pb = wr.heap.size := ⟨_, rfl⟩
      rw [← Hpb] at HNF ⊢
      generalize wr.alloc (.cells #[.int .i64 x0, .int .i64 y0] 114) = X
      intro HXF HXP HXT HXA HXB HXE
      clear Hpb
      have SIQ : Hid (∀ e : Int, 0 ≤ e → SI a b k e s) := fun e he => HS.out.mono (.inr ⟨rfl, he⟩)
      go_loopw [31] (fun i wr => ∃ (q : Nat) (va' vp' : Value), q ≤ (evL E0 ofA ofB).length ∧ i = .int .i64 q ∧ Hid (FD B wr bf br (((evL E0 ofA ofB).take q).foldl (bEv a b ofA ofB k ((x0 : Int), (y0 : Int))) s).ps.length (E0 : Int) vs va' ve vp' S (srtA (((evL E0 ofA ofB).take q).foldl (bEv a b ofA ofB k ((x0 : Int), (y0 : Int))) s).ar) E (((evL E0 ofA ofB).take q).foldl (bEv a b ofA ofB k ((x0 : Int), (y0 : Int))) s).ps) ∧ Hid (Turn (FF bf br vs va1 ve vp1) (FF bf br vs va' ve vp') X wr) ∧ Hid (bBig (((evL E0 ofA ofB).take q).foldl (bEv a b ofA ofB k ((x0 : Int), (y0 : Int))) s) = false) ∧ Hid ((srtA (((evL E0 ofA ofB).take q).foldl (bEv a b ofA ofB k ((x0 : Int), (y0 : Int))) s).ar).length = (((evL E0 ofA ofB).take q).foldl (bEv a b ofA ofB k ((x0 : Int), (y0 : Int))) s).ar.length) ∧ Hid (∀ e : Int, 0 ≤ e → (∀ x ∈ (evL E0 ofA ofB).take q, x < e) → SI a b k e (((evL E0 ofA ofB).take q).foldl (bEv a b ofA ofB k ((x0 : Int), (y0 : Int))) s))) (fun i _ => (evL E0 ofA ofB).length - (intOf i).toNat)
      case atStart => exact ⟨0, va1, vp1, Nat.zero_le _, rfl, HXF, Turn.refl _ _, HG, HL, fun e he _ => SIQ.out e he⟩
      case round =>
        clear HG HL SIQ HXF
        obtain ⟨q, va2, vp2, hq, rfl, HF, HT, HG, HL, HSQ⟩ := hrel
        by_cases hqt : q < (evL E0 ofA ofB).length
        · obtain ⟨be, oe, ex, hea, hbe, HEX, ce⟩ := (HXE.out.turn HT.out).get hqt
          have hmem : ex ∈ evL E0 ofA ofB := by rw [HEX.out, List.getElem?_eq_getElem hqt]; exact List.getElem_mem hqt
          obtain ⟨hexb, hexh⟩ := evL_bd ex hmem
          have hnx : ((evL E0 ofA ofB).take (q + 1)) = (evL E0 ofA ofB).take q ++ [ex] := by
            rw [List.take_add_one, List.getElem?_eq_getElem hqt]
            have := HEX.out
            rw [List.getElem?_eq_getElem hqt] at this
            rw [this]; rfl
          have hsi := HSQ.out ex hexb.1 (fun x hx => by
            obtain ⟨j, hj⟩ := List.mem_iff_getElem?.1 hx
            rw [List.getElem?_take] at hj
            split at hj
            · rename_i hjq
              obtain ⟨l1, e1⟩ := List.getElem?_eq_some_iff.1 hj
              have h3 := List.pairwise_iff_getElem.1 (evL_inc E0 ofA ofB) j q l1 hqt hjq
              have := HEX.out
              rw [List.getElem?_eq_getElem hqt, Option.getD_some] at this
              rw [this, ← e1]; exact h3
            · cases hj)
          obtain ⟨e0, rfl⟩ : ∃ e0 : Nat, ex = e0 := ⟨ex.toNat, by omega⟩
          have he0 : e0 < E0 := by omega
          have HSI := Hid.of hsi
          have HNX : Hid (((evL E0 ofA ofB).take (q + 1)).foldl (bEv a b ofA ofB k ((x0 : Int), (y0 : Int))) s = bEv a b ofA ofB k ((x0 : Int), (y0 : Int)) (((evL E0 ofA ofB).take q).foldl (bEv a b ofA ofB k ((x0 : Int), (y0 : Int))) s) (e0 : Int)) := by show _ = _; rw [hnx, List.foldl_append]; rfl
          have HMON : Hid (∀ s2, s2 = ((evL E0 ofA ofB).take (q + 1)).foldl (bEv a b ofA ofB k ((x0 : Int), (y0 : Int))) s → bBig s2 = true → bBig ((evL E0 ofA ofB).foldl (bEv a b ofA ofB k ((x0 : Int), (y0 : Int))) s) = true) := fun s2 h1 h2 => by
            rw [← List.take_append_drop (q + 1) (evL E0 ofA ofB), List.foldl_append, ← h1]
            exact bBig_evs _ h2
          have HTK : Hid (∀ e : Int, (∀ x ∈ (evL E0 ofA ofB).take (q + 1), x < e) → (e0 : Int) < e) := fun e h => h _ (by rw [hnx]; simp)
          clear hsi hnx hmem
          have ia := place_lt hx0 he0
          have ib := place_lt hy0 he0
          rw [← HNA.out] at ia
          rw [← HNB.out] at ib
          obtain ⟨wa1, wa2⟩ := wrap_at ia hNA
          obtain ⟨wb1, wb2⟩ := wrap_at ib hNB
          obtain ⟨va1', va2'⟩ := iwrap_at ia hNA
          obtain ⟨vb1', vb2'⟩ := iwrap_at ib hNB
          obtain ⟨pa, Hpa⟩ : ∃ pa, Hid (pa = x0 * E0 + e0) := ⟨_, rfl⟩
          obtain ⟨qa, Hqa⟩ : ∃ qa, Hid (qa = y0 * E0 + e0) := ⟨_, rfl⟩
          rw [← Hpa.out] at ia wa2 va2'
          rw [← Hqa.out] at ib wb2 vb2'
          have HRA := Hid.of (HXA.out.turn HT.out)
          have HRB := Hid.of (HXB.out.turn HT.out)
          obtain ⟨aa, ac, ra1, ra2⟩ := HRA.out.row pa ia
          obtain ⟨ba, bc, rb1, rb2⟩ := HRB.out.row qa ib
          have RA2 := Hid.of ra2
          have RB2 := Hid.of rb2
          have HLA : Hid (TA pa = toL a.arrows ofA x0 e0) := by show _ = _; rw [Hpa.out]; exact eA.out x0 e0 hx0 he0
          have HLB : Hid (TB qa = toL b.arrows ofB y0 e0) := by show _ = _; rw [Hqa.out]; exact eB.out y0 e0 hy0 he0
          clear ra2 rb2
          obtain ⟨s1, HS1⟩ : ∃ s1, Hid (s1 = ((evL E0 ofA ofB).take q).foldl (bEv a b ofA ofB k ((x0 : Int), (y0 : Int))) s) := ⟨_, rfl⟩
          rw [← HS1.out] at HF HG HL HSI HNX
          have HFO : Hid ((crossP (TA pa) (TB qa)).foldl (bAdd k (e0 : Int)) s1 = bEv a b ofA ofB k ((x0 : Int), (y0 : Int)) s1 (e0 : Int)) := by
            show _ = _
            rw [HLA.out, HLB.out]
            unfold bEv
            rw [leadsP_to ma.out mb.out ofA ofB _ _ hexh]
          have HS2 : Hid (SI a b k ((e0 : Int) + 1) (bEv a b ofA ofB k ((x0 : Int), (y0 : Int)) s1 (e0 : Int))) := by
            rw [← HFO.out]
            refine HSI.out.fold (fun p hp => ?_)
            obtain ⟨h1, h2⟩ := (mem_crossP _ _ _).1 hp
            rw [HLA.out] at h1
            rw [HLB.out] at h2
            exact ⟨toL_bd ma.out ofA _ ⟨by omega, by rw [hSA]; omega⟩ _ h1, toL_bd mb.out ofB _ ⟨by omega, by rw [hSB]; omega⟩ _ h2⟩
          have HPX : Hid (∀ {F' : Nat → Prop} {Y : World}, Turn (FF bf br vs va1 ve vp1) F' X Y → Blk Y pb 114 #[.int .i64 x0, .int .i64 y0]) := fun {F' Y} t => (t.block pb HXP.out.lt HNF.out).trans HXP.out
          have b0 := (HPX.out HT.out).cell 0 rfl
          have b1 := (HPX.out HT.out).cell 1 rfl
          have f1 := HF.out.cells.2.1
          have lpb := (HPX.out HT.out).lt
          have lta := HRA.out.lt
          have ltb := HRB.out.lt
          have lbf := HF.out.blk.lt
          have HLEAD : Hid (Calls Tryd.prog 77 #[.pointer (some ⟨bf, 0, none⟩), .int .i64 k, .int .i64 e0, .slice aa (TA pa).length ac, .slice ba (TB qa).length bc] wr.drew fun r W' => LeadPost B wr.drew bf br (E0 : Int) vs va2 ve vp2 S E ((crossP (TA pa) (TB qa)).foldl (bAdd k (e0 : Int)) s1) r W') :=
            lead_any B wr.drew bf br (E0 : Int) vs va2 ve vp2 S E s1 a b k (e0 : Int) aa ba ac bc (TA pa) (TB qa) HF.out.drew HG HL HSI.out.lo (by omega) (by omega) (RA2.out.turn (Turn.refl _ _).drew) (RB2.out.turn (Turn.refl _ _).drew) (by rw [HLA.out]; exact toL_len ma.out _ _ _) (by rw [HLB.out]; exact toL_len mb.out _ _ _) (by rw [HLA.out]; exact toL_inc ma.out _ _ _) (by rw [HLB.out]; exact toL_inc mb.out _ _ _)
              (fun x hx => by rw [HLA.out] at hx; have := toL_bd ma.out ofA (s := (x0 : Int)) _ ⟨by omega, by rw [hSA]; omega⟩ x hx; rw [hSA] at this; omega) (fun x hx => by rw [HLB.out] at hx; have := toL_bd mb.out ofB (s := (y0 : Int)) _ ⟨by omega, by rw [hSB]; omega⟩ x hx; rw [hSB] at this; omega)
          rw [HFO.out] at HLEAD
          obtain ⟨s2, HS2e⟩ : ∃ s2, Hid (s2 = bEv a b ofA ofB k ((x0 : Int), (y0 : Int)) s1 (e0 : Int)) := ⟨_, rfl⟩
          rw [← HS2e.out] at HLEAD HS2 HNX
          clear HFO HLA HLB HSI HEX
          rw [hea]
          have HAFT : Hid (∀ (w1 : World) (va3 vp3 : Value), Turn (FF bf br vs va2 ve vp2) (FF bf br vs va3 ve vp3) wr.drew w1 → w1.cell? ⟨bf, 1, none⟩ = some (.int .i64 E0) → w1.cell? ⟨pb, 0, none⟩ = some (.int .i64 x0) ∧ w1.cell? ⟨pb, 1, none⟩ = some (.int .i64 y0) ∧ w1.cell? ⟨bf, 1, none⟩ = some (.int .i64 E0) ∧ w1.cell? ⟨ta, pa, none⟩ = some (.slice aa (TA pa).length ac) ∧ w1.cell? ⟨tb, qa, none⟩ = some (.slice ba (TB qa).length bc)) := fun w1 va3 vp3 t hbf => by
            have t' := HT.out.drew.trans t
            refine ⟨(HPX.out t').cell 0 rfl, (HPX.out t').cell 1 rfl, hbf, ?_, ?_⟩
            · exact (World.cell?_of_block (w := wr) (t.block ta HRA.out.lt HRA.out.nf)).trans ra1
            · exact (World.cell?_of_block (w := wr) (t.block tb HRB.out.lt HRB.out.nf)).trans rb1
          have hk8 : k ≤ 256 := by omega
          go_wp2_with fail
          cases hb2 : bBig s2 with
          | true =>
            have HNO : Hid (besideS a b ofA ofB = none) := by
              show _ = _
              rw [HE.out]
              refine go_big hp.out ?_ (by omega)
              rw [← bPair_ev hEa.out]
              exact HMON.out s2 HNX.out.symm hb2
            go_region_held3 (fun w' => w'.cell? ⟨pb, 0, none⟩ = some (.int .i64 x0) ∧ w'.cell? ⟨pb, 1, none⟩ = some (.int .i64 y0) ∧ w'.cell? ⟨bf, 1, none⟩ = some (.int .i64 E0) ∧ w'.cell? ⟨ta, pa, none⟩ = some (.slice aa (TA pa).length ac) ∧ w'.cell? ⟨tb, qa, none⟩ = some (.slice ba (TB qa).length bc)) (go_keep) (first | (go_at_call 77; refine HLEAD.out.mono ?_; rintro r w1 ⟨va3, vp3, rfl, hT3, hc3, hF3⟩; have T3 := Hid.of (HT.out.drew.trans hT3); have F3 := Hid.of hF3; rw [hb2]; obtain ⟨d0, d1, d2, d3, d4⟩ := HAFT.out w1 va3 vp3 hT3 hc3; clear hT3 hF3 hc3))
            go_wp2_with fail
            go_ret
            refine ⟨va3, vp3, HXT.out.trans T3.out, ?_⟩
            rw [HNO.out]; rfl
          | false =>
            go_region_held3 (fun w' => w'.cell? ⟨pb, 0, none⟩ = some (.int .i64 x0) ∧ w'.cell? ⟨pb, 1, none⟩ = some (.int .i64 y0) ∧ w'.cell? ⟨bf, 1, none⟩ = some (.int .i64 E0) ∧ w'.cell? ⟨ta, pa, none⟩ = some (.slice aa (TA pa).length ac) ∧ w'.cell? ⟨tb, qa, none⟩ = some (.slice ba (TB qa).length bc)) (go_keep) (first | (go_at_call 77; refine HLEAD.out.mono ?_; rintro r w1 ⟨va3, vp3, rfl, hT3, hc3, hF3⟩; have T3 := Hid.of (HT.out.drew.trans hT3); have F3 := Hid.of hF3; rw [hb2]; obtain ⟨d0, d1, d2, d3, d4⟩ := HAFT.out w1 va3 vp3 hT3 hc3; clear hT3 hF3 hc3))
            go_wp2_with fail
            go_roundw
            case rel => exact ⟨q + 1, va3, vp3, by omega, by go_num, by show FD _ _ _ _ _ _ _ _ _ _ _ _ _ _; rw [HNX.out]; exact (F3.out hb2).1, T3, by show _ = _; rw [HNX.out]; exact hb2, by show _ = _; rw [HNX.out]; exact (F3.out hb2).2, fun e he h => by rw [HNX.out]; exact HS2.out.mono (.inr ⟨rfl, by have := HTK.out e h; omega⟩)⟩
            case measure => simp [intOf]; omega
        · have hqq : q = (evL E0 ofA ofB).length := by omega
          rw [List.take_of_length_le (show (evL E0 ofA ofB).length ≤ q by omega)] at HF HG HL HSQ
          rw [bPair_ev hEa.out] at HF HG HL HSQ
          have HNG : Hid (besideS a b ofA ofB = bGo a b ofA ofB (300 - (k + 1)) (k + 1) (bEvs a b ofA ofB k ((x0 : Int), (y0 : Int)) s a.ev.toNat)) := by
            show _ = _
            rw [HE.out, go_next hp.out HG.out (by omega)]; rfl
          have hbs := bBig_some HG.out
          have HPS : Hid (k + 1 ≤ (bEvs a b ofA ofB k ((x0 : Int), (y0 : Int)) s a.ev.toNat).ps.length) := by
            obtain ⟨t, ht⟩ := bEvs_ps a b ofA ofB k ((x0 : Int), (y0 : Int)) s a.ev.toNat
            show _ ≤ _
            rw [ht, List.length_append]; omega
          have HSN : Hid (SI a b ((k + 1 : Nat) : Int) 0 (bEvs a b ofA ofB k ((x0 : Int), (y0 : Int)) s a.ev.toNat)) := (HSQ.out (E0 : Int) (by omega) (fun x hx => by have := (evL_bd x hx).1.2; omega)).mono (.inl (by omega))
          go_wp2_with fail
          go_roundw
          case rel => exact ⟨k + 1, _, va2, vp2, by go_num, HPS.out, hbs.1, HF, HXT.out.trans HT.out, HG, HL, HSN, HNG⟩
          case measure => simp [intOf]; omega
    · have HFIN : Hid (besideS a b ofA ofB = some s) := by show _ = _; rw [HE.out]; exact go_end hlt
      go_wp2_with fail
      go_ret
      refine ⟨va1, vp1, HT.out, ?_⟩
      rw [HFIN.out]
      exact ⟨rfl, HF.out, hps⟩

end Go.Proofs.YtcbdjjkebpncmaaDoor
namespace Go.Proofs.YtcbdjjkebpncmaaDoor
open Go.RowKit
set_option linter.unusedVariables false

section
variable {B : Nat} {W : World} {bf br : Nat} {st ev : Int} {vs va ve vp : Value} {S : List Int} {A : List Arr} {E : List Int} {P : List (Int × Int)}
theorem FD.setSt (h : FD B W bf br st ev vs va ve vp S A E P) (st' : Int) : FD B (W.setCell ⟨bf, 0, none⟩ (.int .i64 st')) bf br st' ev vs va ve vp S A E P := by
  obtain ⟨a1, a2⟩ := h.apart
  have key : ∀ v ∈ [vs, va, ve, vp], ∀ k, v.ownBlock = some k → (W.setCell ⟨bf, 0, none⟩ (.int .i64 st')).heap[k]? = W.heap[k]? := fun v hv k hk => Below.heap_setCell _ _ _ _ (fun e => (a2 v hv).1 (by rw [hk, e]))
  exact ⟨h.blk.set 0 _, own_same h.st (key vs (by simp)), own_same h.ar (key va (by simp)), own_same h.en (key ve (by simp)), own_same h.ps (key vp (by simp)), (Below.heap_setCell _ _ _ _ (Ne.symm a1)).trans h.mp, h.ne, h.nd, h.cr, h.lof, h.lor⟩
end
/-- What end leaves. -/
def EndPost (w0 : World) (bf br : Nat) (M ev : Int) (vs va vp : Value) (S : List Int) (A : List Arr) (E : List Int) (P : List (Int × Int)) (e : Ending) (W' : World) : Prop :=
  e = .returned (.tuple #[]) ∧ ∃ ve', FD w0.heap.size W' bf br M ev vs va ve' vp S A E P ∧ Below w0.heap.size w0 W'

set_option maxHeartbeats 8000000 in
set_option maxRecDepth 100000 in
theorem end_any (w0 W : World) (bf br : Nat) (ev : Int) (vs va vp : Value) (S : List Int) (A : List Arr) (P : List (Int × Int)) (a b : Mach) (ea eb : Option Addr) (ca cb : Nat) (M : Int)
    (hF : Hid (FD w0.heap.size W bf br P.length ev vs va (.slice none 0 0) vp S A [] P)) (hB : Hid (Below w0.heap.size w0 W)) (hA : Hid (At w0 ea a.ends)) (hb : Hid (At w0 eb b.ends)) (lA : Hid (a.ends.length ≤ maxLen)) (lB : Hid (b.ends.length ≤ maxLen)) (hP : P.length ≤ 256) (hM : (if (P.length : Int) < 1 then (1 : Int) else (P.length : Int)) = M) :
    Calls Tryd.prog 48 #[.pointer (some ⟨bf, 0, none⟩), .slice ea a.ends.length ca, .slice eb b.ends.length cb] W fun e W' => EndPost w0 bf br M ev vs va vp S A (endsP a b P P.length) P e W' := by
  obtain ⟨j0, ji, jz0, jz1, jz2⟩ := info_parts Tryd.infoInt
  obtain ⟨pa, pc, hvp, hpc1, hpc2, hpc3⟩ := own_form2 hF.out.ps
  have c5 := hF.out.cells.2.2.2.2.2.1
  have lb := hF.out.blk.lt
  rw [hvp] at c5
  have HVP := Hid.of hvp
  clear hvp
  go_enter Tryd.func48, Tryd.ntmps48
  go_wp2_with fail
  clear c5 lb
  go_loopw [13] (fun i wr => ∃ (n : Nat) (ve' : Value), n ≤ P.length ∧ i = .int .i64 n ∧ Hid (FD w0.heap.size wr bf br P.length ev vs va ve' vp S A (endsP a b P n) P) ∧ Hid (Below w0.heap.size w0 wr)) (fun i _ => P.length - (intOf i).toNat)
  case atStart => exact ⟨0, _, Nat.zero_le _, rfl, hF, hB⟩
  case round =>
    clear hF hB
    obtain ⟨n, ve1, hn, rfl, HF, HB⟩ := hrel
    by_cases hlt : n < P.length
    · obtain ⟨p, hp⟩ : ∃ p, Hid (P[n]? = some p) := ⟨_, List.getElem?_eq_getElem hlt⟩
      have HE := Hid.of (endsP_succ (a := a) (b := b) hp)
      obtain ⟨g, cap, hvp, hg1, hg2, p0, p1⟩ := HF.out.ps.cell hp.out
      have hva := HVP.out.symm.trans hvp
      simp only [Value.slice.injEq] at hva
      obtain ⟨rfl, -, rfl⟩ := hva
      clear hvp
      have HFA := Hid.of (HF.out.alloc (.cells #[.int .i64 p.1, .int .i64 p.2] 114))
      have HBA := Hid.of (HB.out.alloc HB.out.size (.cells #[.int .i64 p.1, .int .i64 p.2] 114))
      have KA := Hid.of (Blk.new wr 114 #[.int .i64 p.1, .int .i64 p.2])
      have HA1 : Hid (∀ V : World, Below w0.heap.size w0 V → Calls Tryd.prog 78 #[.slice ea a.ends.length ca, .int .i64 p.1] V fun e w' => e = .returned (.bool (hasB a.ends p.1)) ∧ w' = V) := fun V hV => rowHas_any ea ca a.ends p.1 V (hA.out.below hV (Nat.le_refl _)) lA.out
      have HB1 : Hid (∀ V : World, Below w0.heap.size w0 V → Calls Tryd.prog 78 #[.slice eb b.ends.length cb, .int .i64 p.2] V fun e w' => e = .returned (.bool (hasB b.ends p.2)) ∧ w' = V) := fun V hV => rowHas_any eb cb b.ends p.2 V (hb.out.below hV (Nat.le_refl _)) lB.out
      go_wp2_with fail
      refine (HA1.out _ HBA.out).mono ?_
      rintro e w1 ⟨rfl, rfl⟩
      clear p0 p1
      revert HFA HBA KA
      generalize wr.alloc (.cells #[.int .i64 p.1, .int .i64 p.2] 114) = V
      intro HFA HBA KA
      have k1 := KA.out.cell 1 rfl
      have lk := KA.out.lt
      cases h1 : hasB a.ends p.1 with
      | false =>
        rw [h1] at HE
        go_wp2_with fail
        go_roundw
        case rel => exact ⟨n + 1, ve1, by omega, by go_num, by show FD _ _ _ _ _ _ _ _ _ _ _ _ _ _; rw [HE.out]; exact HFA.out, HBA⟩
        case measure => simp [intOf]; omega
      | true =>
        rw [h1] at HE
        go_wp2_with fail
        refine (HB1.out _ HBA.out).mono ?_
        rintro e w1 ⟨rfl, rfl⟩
        cases h2 : hasB b.ends p.2 with
        | false =>
          rw [h2] at HE
          go_wp2_with fail
          go_roundw
          case rel => exact ⟨n + 1, ve1, by omega, by go_num, by show FD _ _ _ _ _ _ _ _ _ _ _ _ _ _; rw [HE.out]; exact HFA.out, HBA⟩
          case measure => simp [intOf]; omega
        | true =>
          rw [h2] at HE
          obtain ⟨qa, qc, hve, -, -, -⟩ := own_form2 HFA.out.en
          subst hve
          have c4 := HFA.out.cells.2.2.2.2.1
          have hel : (endsP a b P n).length ≤ 256 := Nat.le_trans (endsP_len a b P n) (by omega)
          have lbf := HFA.out.blk.lt
          clear k1
          go_wp2_with (at_builtin; refine wpList_append_block _ rfl (.tmp 33) (.tmp 35) 22 rfl w0.heap.size 3 j0 (.int .i64 0) 1 8 Tryd.underlying22 ji jz0 jz1 jz2 rfl (by decide) _ _ _ rfl (World.ownsRow.alloc HFA.out.en _) ⟨w1.heap.size, 0, none⟩ 1 1 [.int .i64 (n : Int)] rfl rfl (cell_one_new _ _ _) (by intro u hu; simp at hu; subst hu; rfl) (by decide) (by unfold maxLen; omega) (by omega) (by have := HBA.out.size; simp; omega) ?_)
          intro v9 w9 o9 g9 n9
          obtain ⟨ga, gc, hv9, -, -, -⟩ := own_form2 o9
          subst hv9
          obtain ⟨e1, e2, e3⟩ := HFA.out.pushE ((Below.refl _ _).alloc (Nat.le_refl _) _) o9 g9 (by rw [World.size_alloc]; exact n9)
          have E2 := Hid.of e2
          have B2 := Hid.of (HBA.out.trans (e3.below (fun j hj => (HFA.out.lt j hj).1) HBA.out.size))
          have z4 := e1.cell 4 rfl
          have zf := e1.frozen
          clear e2 e3 o9 g9 n9
          go_wp2_with fail
          go_roundw
          case rel => exact ⟨n + 1, _, by omega, by go_num, by show FD _ _ _ _ _ _ _ _ _ _ _ _ _ _; rw [HE.out]; exact E2.out, B2⟩
          case measure => simp [intOf]; omega
    · have hnn : n = P.length := by omega
      subst hnn
      have c0 := HF.out.cells.1
      have cf := HF.out.blk.frozen
      have lbf := HF.out.blk.lt
      have HFS := Hid.of (HF.out.setSt M)
      have HBS := Hid.of (HB.out.setCell (p := ⟨bf, 0, none⟩) HF.out.lof (.int .i64 M))
      have HMX : Hid (max (P.length : Int) 1 = M) := by show _ = _; rw [← hM]; split <;> omega
      go_wp2_with fail
      rw [HMX.out]
      go_end0
      exact ⟨rfl, ve1, HFS.out, HBS.out⟩

set_option maxHeartbeats 8000000 in
set_option maxRecDepth 100000 in
theorem list_any (B : Nat) (W : World) (bf br : Nat) (st ev : Int) (vs va ve vp : Value) (S : List Int) (A : List Arr) (E : List Int) (P : List (Int × Int)) (hF : Hid (FD B W bf br st ev vs va ve vp S A E P)) (hP : P.length ≤ 256) :
    Calls Tryd.prog 49 #[.pointer (some ⟨bf, 0, none⟩)] W fun e W' => ∃ v, e = .returned v ∧ Own2 W' W.heap.size v (prs P) ∧ Below W.heap.size W W' := by
  obtain ⟨i1, hi, hz0, hz1, hz2⟩ := info_parts Tryd.infoInts
  obtain ⟨pa, pc, hvp, hpc1, hpc2, hpc3⟩ := own_form2 hF.out.ps
  have c5 := hF.out.cells.2.2.2.2.2.1
  have lb := hF.out.blk.lt
  rw [hvp] at c5
  have HVP := Hid.of hvp
  clear hvp
  go_enter Tryd.func49, Tryd.ntmps49
  go_wp2_with fail
  clear c5 lb
  go_loopw [3, 11] (fun v i wr => ∃ (n : Nat), n ≤ P.length ∧ i = .int .i64 n ∧ Hid (Own2 wr W.heap.size v (prs (P.take n))) ∧ Hid (Below W.heap.size W wr)) (fun _ i _ => P.length - (intOf i).toNat)
  case atStart => exact ⟨0, Nat.zero_le _, rfl, own2_nil _ _, Below.refl _ _⟩
  case round =>
    obtain ⟨n, hn, rfl, HO, HB⟩ := hrel
    by_cases hlt : n < P.length
    · obtain ⟨p, hp⟩ : ∃ p, Hid (P[n]? = some p) := ⟨_, List.getElem?_eq_getElem hlt⟩
      have HN : Hid (prs (P.take (n + 1)) = prs (P.take n) ++ [[p.1, p.2]]) := by
        show _ = _
        rw [List.take_add_one, hp.out]
        exact prs_snoc _ _
      obtain ⟨g, cap, hvp, hg1, hg2, p0, p1⟩ := (hF.out.below HB.out).ps.cell hp.out
      have hva := HVP.out.symm.trans hvp
      simp only [Value.slice.injEq] at hva
      obtain ⟨rfl, -, rfl⟩ := hva
      clear hvp
      obtain ⟨vs1, ho, hin⟩ := HO.out
      have hpl : (prs (P.take n)).length ≤ 256 := by rw [prs_len, List.length_take]; omega
      have HO1 := Hid.of ho
      have HI1 := Hid.of hin
      clear ho hin
      have hbsz := HB.out.size
      go_wp2_with (at_builtin; refine wpList_append_block _ rfl (.tmp 15) (.tmp 21) 39 rfl W.heap.size 22 i1 (.slice none 0 0) 1 24 Tryd.underlying39 hi hz0 hz1 hz2 rfl (by decide) _ _ vs1 rfl (World.ownsRow.alloc (World.ownsRow.alloc (World.ownsRow.alloc HO1.out (.cells #[.int .i64 p.1, .int .i64 p.2] 114)) (.cells #[.int .i64 p.1, .int .i64 p.2] 3)) (.cells #[.slice (some ⟨wr.heap.size + 1, 0, none⟩) 2 2] 22)) ⟨wr.heap.size + 1 + 1, 0, none⟩ 1 1 [.slice (some ⟨wr.heap.size + 1, 0, none⟩) 2 2] rfl rfl ?c1 (by intro u hu; simp at hu; subst hu; rfl) (by decide) (by unfold maxLen; omega) (by omega) (by simp; omega) ?_)
      case c1 =>
        have := cell_one_new ((wr.alloc (.cells #[.int .i64 p.1, .int .i64 p.2] 114)).alloc (.cells #[.int .i64 p.1, .int .i64 p.2] 3)) (.slice (some ⟨wr.heap.size + 1, 0, none⟩) 2 2) 22
        rw [World.size_alloc, World.size_alloc] at this
        exact this
      intro v9 w9 o9 g9 n9
      have hlay : Below wr.heap.size wr (((wr.alloc (.cells #[.int .i64 p.1, .int .i64 p.2] 114)).alloc (.cells #[.int .i64 p.1, .int .i64 p.2] 3)).alloc (.cells #[.slice (some ⟨wr.heap.size + 1, 0, none⟩) 2 2] 22)) := (((Below.refl _ _).alloc (Nat.le_refl _) _).alloc (by simp) _).alloc (by simp; omega) _
      have hx : InnB (((wr.alloc (.cells #[.int .i64 p.1, .int .i64 p.2] 114)).alloc (.cells #[.int .i64 p.1, .int .i64 p.2] 3)).alloc (.cells #[.slice (some ⟨wr.heap.size + 1, 0, none⟩) 2 2] 22)) (.slice (some ⟨wr.heap.size + 1, 0, none⟩) 2 2) [p.1, p.2] := by
        have := innB_new (wr.alloc (.cells #[.int .i64 p.1, .int .i64 p.2] 114)) p.1 p.2
        rw [World.size_alloc] at this
        exact this.below ((Below.refl _ _).alloc (Nat.le_refl _) _)
      have hr : ∀ k, u3.ownBlock = some k → W.heap.size ≤ k := fun k hk => (HO1.out.lt k hk).1
      have HO2 : Hid (Own2 w9 W.heap.size v9 (prs (P.take (n + 1)))) := by
        show Own2 _ _ _ _
        rw [HN.out]
        exact Own2.snoc (World.ownsRow.alloc (World.ownsRow.alloc (World.ownsRow.alloc HO1.out _) _) _) (fun j x xs h1 h2 => (HI1.out j x xs h1 h2).below hlay) hx o9 g9
      have HB2 : Hid (Below W.heap.size W w9) := (HB.out.trans (hlay.mono HB.out.size)).grown g9 (Nat.le_trans HB.out.size hlay.size) hr
      clear hlay hx hr o9 g9 n9 p0 p1
      go_wp2_with fail
      go_roundw
      case rel => exact ⟨n + 1, by omega, by go_num, HO2, HB2⟩
      case measure => simp [intOf]; omega
    · have hnn : n = P.length := by omega
      subst hnn
      rw [List.take_of_length_le (Nat.le_refl _)] at HO
      go_wp2_with fail
      go_ret
      exact ⟨_, rfl, HO.out, HB.out⟩

end Go.Proofs.YtcbdjjkebpncmaaDoor
namespace Go.Proofs.YtcbdjjkebpncmaaDoor
open Go.RowKit
set_option linter.unusedVariables false

/-- What is wrong, but for the size. -/
def refC (a b : Mach) (ofA ofB : List Int) : Int :=
  if mayB a = false ∨ mayB b = false then 2 else if ¬ a.ev = b.ev then 3 else if rowB a.ev ofA = false ∨ rowB a.ev ofB = false then 2 else 0

theorem refC_a {a b : Mach} {ofA ofB : List Int} (h : mayB a = false) : 2 = refC a b ofA ofB := by unfold refC; rw [if_pos (.inl h)]
theorem refC_b {a b : Mach} {ofA ofB : List Int} (h : mayB b = false) : 2 = refC a b ofA ofB := by unfold refC; rw [if_pos (.inr h)]
theorem refC_k {a b : Mach} {ofA ofB : List Int} (h1 : mayB a = true) (h2 : mayB b = true) (h : ¬ a.ev = b.ev) : 3 = refC a b ofA ofB := by unfold refC; rw [if_neg (by simp [h1, h2]), if_pos h]
theorem refC_r {a b : Mach} {ofA ofB : List Int} (h1 : mayB a = true) (h2 : mayB b = true) (h : a.ev = b.ev) : refC a b ofA ofB = if rowB a.ev ofA = false ∨ rowB a.ev ofB = false then 2 else 0 := by unfold refC; rw [if_neg (by simp [h1, h2]), if_neg (by simp [h])]

set_option maxRecDepth 100000 in
set_option maxHeartbeats 4000000 in
theorem refuse_any (a b : Mach) (la lb : ML) (fa ga : Option Addr) (fc gc : Nat) (ofA ofB : List Int) (w : World) (ha : Hid (MAt w a la)) (hb : Hid (MAt w b lb)) (hA : Hid (At w fa ofA)) (lA : Hid (ofA.length ≤ maxLen)) (hB : Hid (At w ga ofB)) (lB : Hid (ofB.length ≤ maxLen)) :
    Calls Tryd.prog 43 #[mval a la, mval b lb, .slice fa ofA.length fc, .slice ga ofB.length gc] w fun e w' => e = .returned (.int .i64 (refC a b ofA ofB)) ∧ Below w.heap.size w w' := by
  have B0 : Hid (Below w.heap.size w ((w.alloc (.cells (mcells a la) 25)).alloc (.cells (mcells b lb) 25))) := ((Below.refl _ _).alloc (Nat.le_refl _) _).alloc (by simp) _
  have KA0 : Hid (Blk ((w.alloc (.cells (mcells a la) 25)).alloc (.cells (mcells b lb) 25)) w.heap.size 25 (mcells a la)) := (Blk.new w _ _).alloc _
  have KB0 : Hid (Blk ((w.alloc (.cells (mcells a la) 25)).alloc (.cells (mcells b lb) 25)) (w.heap.size + 1) 25 (mcells b lb)) := by
    have := Blk.new (w.alloc (.cells (mcells a la) 25)) 25 (mcells b lb)
    rwa [World.size_alloc] at this
  go_enter Tryd.func43, Tryd.ntmps43
  go_wp2_with fail
  revert B0 KA0 KB0
  generalize (w.alloc (.cells (mcells a la) 25)).alloc (.cells (mcells b lb) 25) = V0
  intro B0 KA0 KB0
  refine (pMay_any a la _ (ha.out.below B0.out (Nat.le_refl _))).mono ?_
  rintro e V1 ⟨rfl, hb1⟩
  have B1 := Hid.of (B0.out.trans (hb1.mono B0.out.size))
  have KA1 := Hid.of (KA0.out.below hb1 KA0.out.lt)
  have KB1 := Hid.of (KB0.out.below hb1 KB0.out.lt)
  clear hb1 B0 KA0 KB0
  obtain ⟨x0, x1, x2, x3, x4⟩ := mcell_at KA1.out
  obtain ⟨y0, y1, y2, y3, y4⟩ := mcell_at KB1.out
  have lk := KA1.out.lt
  have lk2 := KB1.out.lt
  cases ma : mayB a with
  | false =>
    go_wp2_with fail
    go_ret
    exact ⟨ret_int (refC_a ma), B1.out⟩
  | true =>
    go_wp2_with fail
    refine (pMay_any b lb _ (hb.out.below B1.out (Nat.le_refl _))).mono ?_
    rintro e V2 ⟨rfl, hb1⟩
    have B2 := Hid.of (B1.out.trans (hb1.mono B1.out.size))
    have KA2 := Hid.of (KA1.out.below hb1 KA1.out.lt)
    have KB2 := Hid.of (KB1.out.below hb1 KB1.out.lt)
    clear hb1 B1 KA1 KB1 x0 x1 x2 x3 x4 y0 y1 y2 y3 y4 lk lk2
    obtain ⟨x0, x1, x2, x3, x4⟩ := mcell_at KA2.out
    obtain ⟨y0, y1, y2, y3, y4⟩ := mcell_at KB2.out
    have lk := KA2.out.lt
    have lk2 := KB2.out.lt
    cases mb : mayB b with
    | false =>
      go_wp2_with fail
      go_ret
      exact ⟨ret_int (refC_b mb), B2.out⟩
    | true =>
      by_cases ne : a.ev = b.ev
      · have HR : Hid (refC a b ofA ofB = if rowB a.ev ofA = false ∨ rowB a.ev ofB = false then 2 else 0) := refC_r ma mb ne
        rw [← ne] at y1
        clear ne
        cases ra : rowB a.ev ofA with
        | false =>
          go_wp2_with fail
          refine (rowIs_any fa fc ofA a.ev _ (hA.out.below B2.out (Nat.le_refl _)) lA.out).mono ?_
          rintro e V3 ⟨rfl, rfl⟩
          rw [ra]
          go_wp2_with fail
          go_ret
          exact ⟨ret_int (by rw [HR.out, if_pos (.inl ra)]), B2.out⟩
        | true =>
          cases rb : rowB a.ev ofB with
          | false =>
            go_wp2_with fail
            refine (rowIs_any fa fc ofA a.ev _ (hA.out.below B2.out (Nat.le_refl _)) lA.out).mono ?_
            rintro e V3 ⟨rfl, rfl⟩
            rw [ra]
            go_wp2_with fail
            refine (rowIs_any ga gc ofB a.ev _ (hB.out.below B2.out (Nat.le_refl _)) lB.out).mono ?_
            rintro e V3 ⟨rfl, rfl⟩
            rw [rb]
            go_wp2_with fail
            go_ret
            exact ⟨ret_int (by rw [HR.out, if_pos (.inr rb)]), B2.out⟩
          | true =>
            go_wp2_with fail
            refine (rowIs_any fa fc ofA a.ev _ (hA.out.below B2.out (Nat.le_refl _)) lA.out).mono ?_
            rintro e V3 ⟨rfl, rfl⟩
            rw [ra]
            go_wp2_with fail
            refine (rowIs_any ga gc ofB a.ev _ (hB.out.below B2.out (Nat.le_refl _)) lB.out).mono ?_
            rintro e V3 ⟨rfl, rfl⟩
            rw [rb]
            go_wp2_with fail
            go_ret
            exact ⟨ret_int (by rw [HR.out, if_neg (by simp [ra, rb])]), B2.out⟩
      · have d : (a.ev != b.ev) = true := by simpa using ne
        go_wp2_with fail
        go_ret
        exact ⟨ret_int (refC_k ma mb ne), B2.out⟩

end Go.Proofs.YtcbdjjkebpncmaaDoor
namespace Go.Proofs.YtcbdjjkebpncmaaDoor
open Go.RowKit
set_option linter.unusedVariables false

/-- Of the blocks of which K holds each is as it was. -/
structure Kept (K : Nat → Prop) (w w' : World) : Prop where
  os : w'.os = w.os
  tape : w'.tape = w.tape
  output : w'.output = w.output
  size : w.heap.size ≤ w'.heap.size
  block : ∀ k, K k → w'.heap[k]? = w.heap[k]?

theorem Kept.refl (K : Nat → Prop) (w : World) : Kept K w w := ⟨rfl, rfl, rfl, Nat.le_refl _, fun _ _ => rfl⟩
theorem Kept.trans {K : Nat → Prop} {a b c : World} (h : Kept K a b) (k : Kept K b c) : Kept K a c :=
  ⟨k.os.trans h.os, k.tape.trans h.tape, k.output.trans h.output, Nat.le_trans h.size k.size, fun i hi => (k.block i hi).trans (h.block i hi)⟩
theorem Kept.mono {K K' : Nat → Prop} {w w' : World} (h : Kept K w w') (hB : ∀ k, K' k → K k) : Kept K' w w' := ⟨h.os, h.tape, h.output, h.size, fun k hk => h.block k (hB k hk)⟩
theorem Kept.cell {K : Nat → Prop} {w w' : World} (h : Kept K w w') {p : Addr} (hp : K p.block) : w'.cell? p = w.cell? p := World.cell?_of_block (w := w) (h.block p.block hp)
theorem Kept.frozen {K : Nat → Prop} {w w' : World} (h : Kept K w w') {p : Addr} (hp : K p.block) : w'.frozen? p = w.frozen? p := World.frozen?_of_block (w := w) (h.block p.block hp)
theorem Kept.setCell {K : Nat → Prop} {a w : World} (h : Kept K a w) {p : Addr} (hp : ¬ K p.block) (u : Value) : Kept K a (w.setCell p u) :=
  h.trans ⟨rfl, rfl, rfl, by simp [World.setCell], fun k hk => Below.heap_setCell _ _ _ _ (fun e => hp (e ▸ hk))⟩
theorem Kept.below {K : Nat → Prop} {w w' : World} (h : Kept K w w') {B : Nat} (hB : ∀ k, k < B → K k) : Below B w w' := ⟨h.os, h.tape, h.output, h.size, fun k hk => h.block k (hB k hk)⟩

/-- The slice 'a' of block number less than B reads as xs. -/
def AtB (w : World) (B : Nat) (a : Option Addr) (xs : List Int) : Prop := xs = [] ∨ ∃ b off, a = some ⟨b, off, none⟩ ∧ b < B ∧ Cells w b off xs

theorem AtB.kept {w w' : World} {B : Nat} {a : Option Addr} {xs : List Int} {K : Nat → Prop} (h : AtB w B a xs) (hk : Kept K w w') (hB : ∀ k, k < B → K k) : AtB w' B a xs := by
  rcases h with h | ⟨b, off, rfl, hlt, hc⟩
  · exact .inl h
  · exact .inr ⟨b, off, rfl, hlt, fun j hj => by rw [hk.cell (p := ⟨b, off + j, none⟩) (hB b hlt)]; exact hc j hj⟩

/-- What the call knows of a finder: the place where it stands (all ahead of it is below n), and its list. -/
structure FI (w : World) (B pa pl : Nat) (a : Option Addr) (cap : Nat) (xs : List Int) (n : Int) (k : Nat) : Prop where
  le : k ≤ xs.length
  low : ∀ j, j < k → xs[j]?.getD 0 < n
  cur : w.cell? ⟨pa, 0, none⟩ = some (.int .i64 k)
  free : w.frozen? ⟨pa, 0, none⟩ = false
  lst : w.cell? ⟨pl, 0, none⟩ = some (.slice a xs.length cap)
  ne : pa ≠ pl
  ba : B ≤ pa
  bl : B ≤ pl
  row : AtB w B a xs
  small : xs.length ≤ 9223372036854775807

theorem FI.step {w : World} {B pa pl : Nat} {a : Option Addr} {cap : Nat} {xs : List Int} {n : Int} {k : Nat} (h : FI w B pa pl a cap xs n k) (hlt : k < xs.length) (hx : xs[k]?.getD 0 < n) :
    FI (w.setCell ⟨pa, 0, none⟩ (.int .i64 ((k : Int) + 1))) B pa pl a cap xs n (k + 1) where
  le := hlt
  low := fun j hj => by
    by_cases e : j = k
    · subst e; exact hx
    · exact h.low j (by omega)
  cur := by rw [World.cell?_setCell_same _ _ _ h.cur]; simp
  free := (World.frozen?_setCell _ _ _ _).trans h.free
  lst := (World.cell?_setCell_other _ _ _ _ (by simp; intro e; exact (h.ne e).elim)).trans h.lst
  ne := h.ne
  ba := h.ba
  bl := h.bl
  row := h.row.kept (K := fun k => k < B) ((Kept.refl _ _).setCell (by have := h.ba; show ¬ pa < B; omega) _) (fun _ h => h)
  small := h.small

theorem FI.mono {w : World} {B pa pl : Nat} {a : Option Addr} {cap : Nat} {xs : List Int} {n m : Int} {k : Nat} (h : FI w B pa pl a cap xs n k) (hm : n ≤ m) : FI w B pa pl a cap xs m k :=
  ⟨h.le, fun j hj => by have := h.low j hj; omega, h.cur, h.free, h.lst, h.ne, h.ba, h.bl, h.row, h.small⟩

theorem FI.kept {w w' : World} {B pa pl : Nat} {a : Option Addr} {cap : Nat} {xs : List Int} {n : Int} {k : Nat} {K : Nat → Prop} (h : FI w B pa pl a cap xs n k) (hk : Kept K w w') (h1 : K pa) (h2 : K pl) (hB : ∀ k, k < B → K k) : FI w' B pa pl a cap xs n k :=
  ⟨h.le, h.low, (hk.cell (p := ⟨pa, 0, none⟩) h1).trans h.cur, (hk.frozen (p := ⟨pa, 0, none⟩) h1).trans h.free, (hk.cell (p := ⟨pl, 0, none⟩) h2).trans h.lst, h.ne, h.ba, h.bl, h.row.kept hk hB, h.small⟩

/-- Where a finder stands. -/
def atOf (p : Nat) (w : World) : Nat := (intOf ((w.cell? ⟨p, 0, none⟩).getD (.int .i64 0))).toNat

theorem FI.atOf {w : World} {B pa pl : Nat} {a : Option Addr} {cap : Nat} {xs : List Int} {n : Int} {k : Nat} (h : FI w B pa pl a cap xs n k) : atOf pa w = k := by
  unfold YtcbdjjkebpncmaaDoor.atOf; rw [h.cur]; simp [intOf]

theorem find_yes {xs : List Int} {k : Nat} {n x : Int} (h : k < xs.length) (hx : Hid (x = xs[k]?.getD 0)) (e : x = n) : true = hasB xs n := by
  have hx := hx.out
  rw [List.getElem?_eq_getElem h, Option.getD_some] at hx
  simp only [hasB]
  rw [eq_comm, List.contains_iff_mem, ← e, hx]
  exact List.getElem_mem h
theorem find_no {xs : List Int} {k : Nat} {n x : Int} (hi : Inc xs) (h : k < xs.length) (hx : Hid (x = xs[k]?.getD 0)) (e : n < x) (low : ∀ j, j < k → xs[j]?.getD 0 < n) : false = hasB xs n := by
  have hx := hx.out
  rw [List.getElem?_eq_getElem h, Option.getD_some] at hx
  simp only [hasB]
  rw [eq_comm, ← Bool.not_eq_true, List.contains_iff_mem]
  intro m
  obtain ⟨j, hj, hjn⟩ := List.getElem_of_mem m
  by_cases c : j < k
  · have := low j c; rw [List.getElem?_eq_getElem hj, Option.getD_some] at this; omega
  · by_cases c' : j = k
    · subst c'; omega
    · have := (List.pairwise_iff_getElem.1 hi) k j h hj (by omega); omega
theorem find_out {xs : List Int} {k : Nat} {n : Int} (h : ¬ k < xs.length) (low : ∀ j, j < k → xs[j]?.getD 0 < n) : false = hasB xs n := by
  simp only [hasB]
  rw [eq_comm, ← Bool.not_eq_true, List.contains_iff_mem]
  intro m
  obtain ⟨j, hj, hjn⟩ := List.getElem_of_mem m
  have := low j (by omega); rw [List.getElem?_eq_getElem hj, Option.getD_some] at this; omega

set_option maxHeartbeats 1000000 in
theorem rowFind_any (w : World) (B pa pl : Nat) (a : Option Addr) (cap : Nat) (xs : List Int) (n : Int) (k0 : Nat) (hi : Inc xs) (hf : FI w B pa pl a cap xs n k0) :
    Calls Tryd.prog 99 #[.int .i64 n, .pointer (some ⟨pa, 0, none⟩), .pointer (some ⟨pl, 0, none⟩)] w fun e w' => e = .returned (.bool (hasB xs n)) ∧ (∃ k, FI w' B pa pl a cap xs n k) ∧ Kept (fun k => k ≠ pa) w w' := by
  have HI : Hid (Inc xs) := hi
  have hsm := hf.small
  clear hi
  go_enter Tryd.func99, Tryd.ntmps99
  go_wp2
  go_loopw [] (fun wr => ∃ k, FI wr B pa pl a cap xs n k ∧ Kept (fun k => k ≠ pa) w wr) (fun wr => xs.length - atOf pa wr)
  case atStart => exact ⟨k0, hf, Kept.refl _ _⟩
  case round =>
    obtain ⟨k, hk, hkept⟩ := hrel
    have hcur := hk.cur
    have hlst := hk.lst
    have hfree := hk.free
    have hle := hk.le
    by_cases hlt : k < xs.length
    · rcases hk.row with h0 | ⟨b, off, rfl, hb, hc⟩
      · subst h0; simp at hlt
      · obtain ⟨x, HX, hcx⟩ := hc.at hlt
        by_cases c1 : x < n
        · have hst := hk.step hlt (by have := HX.out; omega)
          have hme := hst.atOf
          have hme0 := hk.atOf
          have hkp := hkept.setCell (p := ⟨pa, 0, none⟩) (by simp) (.int .i64 ((k : Int) + 1))
          have H1 : Hid (atOf pa (wr.setCell ⟨pa, 0, none⟩ (.int .i64 ((k : Int) + 1))) = k + 1) := hme
          have H0 : Hid (atOf pa wr = k) := hme0
          clear hme hme0
          go_wp2
          go_roundw
          case rel => exact ⟨k + 1, hst, hkp⟩
          case measure => rw [H1.out, H0.out]; omega
        · by_cases c2 : x = n
          · have HE : Hid (x = n) := c2
            have d : (x == n) = true := by simp [c2]
            clear c2
            go_wp2
            go_ret
            exact ⟨ret_bool (find_yes hlt HX HE.out), ⟨k, hk⟩, hkept⟩
          · have d : (x == n) = false := by simp [c2]
            go_wp2
            go_ret
            exact ⟨ret_bool (find_no HI.out hlt HX (by omega) hk.low), ⟨k, hk⟩, hkept⟩
    · go_wp2
      go_ret
      exact ⟨ret_bool (find_out hlt hk.low), ⟨k, hk⟩, hkept⟩

theorem At.atB {w : World} {a : Option Addr} {xs : List Int} (h : At w a xs) : AtB w w.heap.size a xs := h

theorem kept_alloc (w : World) (o : Obj) {K : Nat → Prop} (hK : ∀ k, K k → k < w.heap.size) : Kept K w (w.alloc o) := ⟨rfl, rfl, rfl, by simp, fun k hk => Below.heap_alloc _ _ _ (hK k hk)⟩

theorem fi_new (w : World) (B : Nat) (a : Option Addr) (cap : Nat) (xs : List Int) (n : Int) (hs : AtB w B a xs) (hB : B ≤ w.heap.size) (hl : xs.length ≤ maxLen) :
    FI ((w.alloc (.cells #[.slice a xs.length cap] 22)).alloc (.cells #[.int .i64 0] 3)) B (w.heap.size + 1) w.heap.size a cap xs n 0 where
  le := Nat.zero_le _
  low := fun j hj => by omega
  cur := by rw [World.cell?_alloc_at _ _ _ _ (by simp)]; rfl
  free := World.frozen?_alloc_at _ _ _ _ (by simp)
  lst := by rw [World.cell?_alloc_past _ _ _ (by simp), World.cell?_alloc_at _ _ _ _ rfl]; rfl
  ne := by omega
  ba := by omega
  bl := hB
  row := (hs.kept (kept_alloc w _ (K := fun k => k < w.heap.size) (fun _ h => h)) (fun k h => by omega)).kept (kept_alloc _ _ (K := fun k => k < w.heap.size + 1) (fun k h => by simpa using h)) (fun k h => by omega)
  small := hl

set_option maxHeartbeats 400000 in
theorem finder_any (a : Option Addr) (cap : Nat) (xs : List Int) (w : World) :
    Calls Tryd.prog 72 #[.slice a xs.length cap] w fun e w' => e = .returned (.func (.func 99) #[] #[.pointer (some ⟨w.heap.size + 1, 0, none⟩), .pointer (some ⟨w.heap.size, 0, none⟩)]) ∧ (w.alloc (.cells #[.slice a xs.length cap] 22)).alloc (.cells #[.int .i64 0] 3) = w' := by
  have hmf : ∀ (fn : Fn) (first cap : Array Value) (w : World), (Instr.makeFunc fn first cap).run Tryd.prog w = .ok (.func fn first cap) w := fun _ _ _ _ => rfl
  go_enter Tryd.func72, Tryd.ntmps72
  go_wp2
  go_ret
  exact ⟨rfl, rfl⟩

/-- What is known of the two finders that Join, Meet and Less lay: from block B on: the first list, its place; the second list, its place; the two variables that hold them. -/
structure PI (w : World) (B : Nat) (a1 : Option Addr) (c1 : Nat) (xs : List Int) (a2 : Option Addr) (c2 : Nat) (ys : List Int) (n : Int) : Prop where
  f1 : ∃ k, FI w B (B + 1) B a1 c1 xs n k
  f2 : ∃ k, FI w B (B + 3) (B + 2) a2 c2 ys n k
  qa : w.cell? ⟨B + 4, 0, none⟩ = some (.func (.func 99) #[] #[.pointer (some ⟨B + 1, 0, none⟩), .pointer (some ⟨B, 0, none⟩)])
  qb : w.cell? ⟨B + 5, 0, none⟩ = some (.func (.func 99) #[] #[.pointer (some ⟨B + 3, 0, none⟩), .pointer (some ⟨B + 2, 0, none⟩)])

theorem PI.mono {w : World} {B : Nat} {a1 : Option Addr} {c1 : Nat} {xs : List Int} {a2 : Option Addr} {c2 : Nat} {ys : List Int} {n m : Int} (h : PI w B a1 c1 xs a2 c2 ys n) (hm : n ≤ m) : PI w B a1 c1 xs a2 c2 ys m :=
  ⟨h.f1.imp fun _ h => h.mono hm, h.f2.imp fun _ h => h.mono hm, h.qa, h.qb⟩

theorem PI.kept {w w' : World} {B : Nat} {a1 : Option Addr} {c1 : Nat} {xs : List Int} {a2 : Option Addr} {c2 : Nat} {ys : List Int} {n : Int} (h : PI w B a1 c1 xs a2 c2 ys n) (hk : Kept (fun k => k < B + 6) w w') : PI w' B a1 c1 xs a2 c2 ys n := by
  obtain ⟨k1, h1⟩ := h.f1
  obtain ⟨k2, h2⟩ := h.f2
  exact ⟨⟨k1, h1.kept hk (by omega) (by omega) (fun k h => by omega)⟩, ⟨k2, h2.kept hk (by omega) (by omega) (fun k h => by omega)⟩, (hk.cell (p := ⟨B + 4, 0, none⟩) (by show B + 4 < B + 6; omega)).trans h.qa, (hk.cell (p := ⟨B + 5, 0, none⟩) (by show B + 5 < B + 6; omega)).trans h.qb⟩

theorem PI.first {w w' : World} {B : Nat} {a1 : Option Addr} {c1 : Nat} {xs : List Int} {a2 : Option Addr} {c2 : Nat} {ys : List Int} {n : Int} (h : PI w B a1 c1 xs a2 c2 ys n) (h1 : ∃ k, FI w' B (B + 1) B a1 c1 xs n k) (hk : Kept (fun k => k ≠ B + 1) w w') : PI w' B a1 c1 xs a2 c2 ys n := by
  obtain ⟨k2, h2⟩ := h.f2
  exact ⟨h1, ⟨k2, h2.kept hk (by omega) (by omega) (fun k h => by omega)⟩, (hk.cell (p := ⟨B + 4, 0, none⟩) (by show B + 4 ≠ B + 1; omega)).trans h.qa, (hk.cell (p := ⟨B + 5, 0, none⟩) (by show B + 5 ≠ B + 1; omega)).trans h.qb⟩

theorem PI.second {w w' : World} {B : Nat} {a1 : Option Addr} {c1 : Nat} {xs : List Int} {a2 : Option Addr} {c2 : Nat} {ys : List Int} {n : Int} (h : PI w B a1 c1 xs a2 c2 ys n) (h2 : ∃ k, FI w' B (B + 3) (B + 2) a2 c2 ys n k) (hk : Kept (fun k => k ≠ B + 3) w w') : PI w' B a1 c1 xs a2 c2 ys n := by
  obtain ⟨k1, h1⟩ := h.f1
  exact ⟨⟨k1, h1.kept hk (by omega) (by omega) (fun k h => by omega)⟩, h2, (hk.cell (p := ⟨B + 4, 0, none⟩) (by show B + 4 ≠ B + 3; omega)).trans h.qa, (hk.cell (p := ⟨B + 5, 0, none⟩) (by show B + 5 ≠ B + 3; omega)).trans h.qb⟩

end Go.Proofs.YtcbdjjkebpncmaaDoor
