/-
  The walk of jalousieref16.Parse: the loop.
-/
import Derived.Deep.RegionHeld3
import Derived.Test.YtbgiliophmofgaaDR16C1
import Derived.Test.YtbgiliophmofgaaDR16C2
import Derived.Test.YtbgiliophmofgaaDR16C3
import Derived.Test.YtbgiliophmofgaaDR16C4
import Derived.Test.YtbgiliophmofgaaDR16C5
import Derived.Test.YtbgiliophmofgaaDR16C6
import Derived.Test.YtbgiliophmofgaaDR16C7
import Derived.Test.YtbgiliophmofgaaDR16C8
import Derived.Test.YtbgiliophmofgaaDR16CX
import Derived.Test.YtbgiliophmofgaaDR16CE
namespace Go.Proofs.Ytbgiliophmofgaa
open Go.RowKit
set_option linter.unusedVariables false

set_option maxRecDepth 1000000 in
set_option maxHeartbeats 16000000 in
theorem cs_round (s : Str) (w : World) (tl : List Tok) (la : Option Addr) (lc pb : Nat) (ol : List Int) (oa : Option Addr) (oc : Nat) (c : Nat → Value) (K : Act → World → Prop) (a : Act) (wr : World)
    (hTl : tl.length ≤ 4000) (HRE : Hid (ol.length = tl.length)) (HPR : Hid (parseL s = match psGo ps0 (ol.zip tl) with | .error e => (proj0, e) | .ok q => (psEnd q, 0, 0))) (HOB : Hid (∀ k ∈ ol, -1 ≤ k ∧ k ≤ 8))
    (hK : ∀ a w', WF s w tl la lc pb ol oa oc c (RX s w tl la lc pb ol oa oc) a w' → K a w') (hI : WF s w tl la lc pb ol oa oc c (RI s w tl la lc pb ol oa oc) a wr) :
    Code.wp Try.prog (bodyF Try.f8.body) (Exit.then (fun a' w'' => WF s w tl la lc pb ol oa oc c (RI s w tl la lc pb ol oa oc) a' w'' ∧ Wmu tl a' < Wmu tl a) (Exit.inBlock 0 (Exit.then K (bodyPost Try.prog Try.f8 fun e w' => ParPost w s e w')))) a wr := by
  obtain ⟨u, tv, fv, iv, hrel, rfl⟩ := hI
  obtain ⟨i, vs, ve, va, rv, q, rfl, hil, htv, rfl, hq1, hq2, hq3, hq4, HR5, HRT, PP, HG⟩ := hrel
  by_cases hlt : i < tl.length
  · obtain ⟨t, HTI⟩ : ∃ t, Hid (tl[i]? = some t) := ⟨_, List.getElem?_eq_getElem hlt⟩
    have hlo : i < ol.length := by rw [HRE.out]; exact hlt
    obtain ⟨kk, HKI⟩ : ∃ kk, Hid (ol[i]? = some kk) := ⟨_, List.getElem?_eq_getElem hlo⟩
    have HX : Hid ((ol.zip tl)[i]? = some (kk, t)) := by
      show _ = _
      rw [List.getElem?_zip_eq_some]
      exact ⟨HKI.out, HTI.out⟩
    have hkb := HOB.out kk (List.mem_of_getElem? HKI.out)
    obtain ⟨gl, gc, hge, -, hct⟩ := OwnTk.cellsT PP.out.tk (by omega)
    cases hge
    have cc := hct i t HTI.out
    rw [Nat.zero_add] at cc
    have c1 := cc.2.1
    have c2 := cc.2.2
    have ho := PP.out.rr 10 (by omega)
    rw [HRT.out, lsP_ten] at ho
    obtain ⟨go, hgo⟩ : ∃ go, oa = some ⟨go, 0, none⟩ := by
      rcases Own.cells_of ho with ⟨h1, h2⟩ | ⟨g1, c1, h1, -⟩
      · rw [h2] at hlo; simp at hlo
      · cases h1; exact ⟨g1, rfl⟩
    subst hgo
    have ck := Own.cellAt ho hlo
    rw [HKI.out, Option.getD_some] at ck
    have hiI : (i : Int) < (tl.length : Int) := by omega
    have hoI : (i : Int) < (ol.length : Int) := by omega
    clear ho hct cc
    have hcase : kk = -1 ∨ kk = 0 ∨ kk = 1 ∨ (2 ≤ kk ∧ kk < 5) ∨ (5 ≤ kk ∧ kk < 8) ∨ kk = 8 := by omega
    rcases hcase with hk | hk | hk | hk | hk | hk
    · subst hk
      exact cs_none s w tl gl lc pb ol go oc c u K wr i vs ve va tv rv q t hTl HRE HPR hil htv hq1 hq2 hq3 hq4 HR5 HRT PP HG hlt HTI hlo HKI HX c1 c2 ck hiI hoI
    · subst hk
      exact cs_state s w tl gl lc pb ol go oc c u K wr i vs ve va tv rv q t hTl HRE HPR hil htv hq1 hq2 hq3 hq4 HR5 HRT PP HG hlt HTI hlo HKI HX c1 c2 ck hiI hoI
    · subst hk
      exact cs_event s w tl gl lc pb ol go oc c u K wr i vs ve va tv rv q t hTl HRE HPR hil htv hq1 hq2 hq3 hq4 HR5 HRT PP HG hlt HTI hlo HKI HX c1 c2 ck hiI hoI
    · obtain ⟨kn, rfl⟩ : ∃ kn : Nat, kk = (kn : Int) := ⟨kk.toNat, by omega⟩
      exact cs_seen s w tl gl lc pb ol go oc c u K wr i vs ve va tv rv q t kn hTl HRE HPR hil htv hq1 hq2 hq3 hq4 HR5 HRT PP HG hlt HTI hlo HKI HX c1 c2 ck hiI hoI hk
    · obtain ⟨kn, rfl⟩ : ∃ kn : Nat, kk = (kn : Int) := ⟨kk.toNat, by omega⟩
      exact cs_rows s w tl gl lc pb ol go oc c u K wr i vs ve va tv rv q t kn hTl HRE HPR hil htv hq1 hq2 hq3 hq4 HR5 HRT PP HG hlt HTI hlo HKI HX c1 c2 ck hiI hoI hk
    · subst hk
      have h3 : q.three = [] ∨ (∃ a, q.three = [a]) ∨ ∃ a b, q.three = [a, b] := by
        match hq : q.three, hq3 with
        | [], _ => exact .inl rfl
        | [a], _ => exact .inr (.inl ⟨a, rfl⟩)
        | [a, b], _ => exact .inr (.inr ⟨a, b, rfl⟩)
        | a :: b :: c :: r, h => simp at h
      rcases h3 with h3 | ⟨a, h3⟩ | ⟨a, b, h3⟩
      · exact cs_from s w tl gl lc pb ol go oc c u K wr i vs ve va tv rv q t hTl HRE HPR hil htv hq1 hq2 hq3 hq4 HR5 HRT PP HG hlt HTI hlo HKI HX c1 c2 ck hiI hoI h3
      · exact cs_by s w tl gl lc pb ol go oc c u K wr i vs ve va tv rv q t a hTl HRE HPR hil htv hq1 hq2 hq3 hq4 HR5 HRT PP HG hlt HTI hlo HKI HX c1 c2 ck hiI hoI h3
      · exact cs_to s w tl gl lc pb ol go oc c u K wr i vs ve va tv rv q t a b hTl HRE HPR hil htv hq1 hq2 hq3 hq4 HR5 HRT PP HG hlt HTI hlo HKI HX c1 c2 ck hiI hoI h3
  · exact cs_exit s w tl la lc pb ol oa oc c u K wr i vs ve va tv rv q hTl HRE hil hq1 hq2 hq4 HR5 PP HG hlt hK
set_option maxRecDepth 1000000 in
set_option maxHeartbeats 16000000 in
theorem cs_endX (s : Str) (w : World) (tl : List Tok) (la : Option Addr) (lc pb : Nat) (ol : List Int) (oa : Option Addr) (oc : Nat) (c : Nat → Value) (a : Act) (wr : World) (HPR : Hid (parseL s = match psGo ps0 (ol.zip tl) with | .error e => (proj0, e) | .ok q => (psEnd q, 0, 0))) (hX : WF s w tl la lc pb ol oa oc c (RX s w tl la lc pb ol oa oc) a wr) : Code.wp Try.prog (endF Try.f8.body) (bodyPost Try.prog Try.f8 fun e w' => ParPost w s e w') a wr := by
  obtain ⟨u, tv, fv, iv, hr, rfl⟩ := hX
  obtain ⟨vs, ve, va, rv, q, h1, h2, h3, h4, h5, h6⟩ := hr
  exact cs_end s w tl la lc pb ol oa oc c u wr tv fv iv vs ve va rv q (by show _ = _; rw [HPR.out, h6.out]) h1 h2 h3 h4 h5
set_option maxRecDepth 1000000 in
set_option maxHeartbeats 16000000 in
theorem cs_loop (s : Str) (w : World) (tl : List Tok) (la : Option Addr) (lc pb : Nat) (ol : List Int) (oa : Option Addr) (oc : Nat) (c : Nat → Value) (K : Act → World → Prop) (a : Act) (wr : World)
    (hTl : tl.length ≤ 4000) (HRE : Hid (ol.length = tl.length)) (HPR : Hid (parseL s = match psGo ps0 (ol.zip tl) with | .error e => (proj0, e) | .ok q => (psEnd q, 0, 0))) (HOB : Hid (∀ k ∈ ol, -1 ≤ k ∧ k ≤ 8))
    (hK : ∀ a w', WF s w tl la lc pb ol oa oc c (RX s w tl la lc pb ol oa oc) a w' → K a w') (hI : WF s w tl la lc pb ol oa oc c (RI s w tl la lc pb ol oa oc) a wr) :
    Code.wp Try.prog (Code.loop (bodyF Try.f8.body)) (Exit.inBlock 0 (Exit.then K (bodyPost Try.prog Try.f8 fun e w' => ParPost w s e w'))) a wr :=
  wp_loop (WF s w tl la lc pb ol oa oc c (RI s w tl la lc pb ol oa oc)) (fun a _ => Wmu tl a) hI (fun a' w' h => cs_round s w tl la lc pb ol oa oc c K a' w' hTl HRE HPR HOB hK h)
set_option maxRecDepth 1000000 in
set_option maxHeartbeats 16000000 in
theorem cs_all (s : Str) (w : World) (tl : List Tok) (la : Option Addr) (lc pb : Nat) (ol : List Int) (oa : Option Addr) (oc : Nat) (c0 c1 c6 c8 c9 c23 c24 c25 c26 c27 c28 c29 c30 c31 c32 c33 c34 c35 c36 c37 c38 c39 c40 c41 c42 c43 c44 c45 c46 c47 c48 c49 c50 c51 c52 c53 c54 c55 c56 c57 c58 c59 c60 c61 c62 c63 c215 c216 c217 c218 c219 c220 c221 c222 c223 c224 c225 c226 c227 c228 c229 c230 c231 c232 c233 c234 c235 c236 c237 c238 c239 c240 c241 c242 c243 c244 c245 c246 c247 c248 c249 c250 c251 c252 c253 c254 c255 c256 c257 c258 c259 c260 c261 c262 c263 c264 u15 u16 u17 u18 u19 u20 u21 u22 u64 u65 u66 u67 u68 u69 u70 u71 u72 u73 u74 u75 u76 u77 u78 u79 u80 u81 u82 u83 u84 u85 u86 u87 u88 u89 u90 u91 u92 u93 u94 u95 u96 u97 u98 u99 u100 u101 u102 u103 u104 u105 u106 u107 u108 u109 u110 u111 u112 u113 u114 u115 u116 u117 u118 u119 u120 u121 u122 u123 u124 u125 u126 u127 u128 u129 u130 u131 u132 u133 u134 u135 u136 u137 u138 u139 u140 u141 u142 u143 u144 u145 u146 u147 u148 u149 u150 u151 u152 u153 u154 u155 u156 u157 u158 u159 u160 u161 u162 u163 u164 u165 u166 u167 u168 u169 u170 u171 u172 u173 u174 u175 u176 u177 u178 u179 u180 u181 u182 u183 u184 u185 u186 u187 u188 u189 u190 u191 u192 u193 u194 u195 u196 u197 u198 u199 u200 u201 u202 u203 u204 u205 u206 u207 u208 u209 u210 u211 u212 u213 u214 tv fv iv : Value) (K : Act → World → Prop) (wr : World)
    (hcont : ∀ a w', Code.wp Try.prog (endF Try.f8.body) (bodyPost Try.prog Try.f8 fun e w' => ParPost w s e w') a w' → K a w')
    (hTl : tl.length ≤ 4000) (HRE : Hid (ol.length = tl.length)) (HPR : Hid (parseL s = match psGo ps0 (ol.zip tl) with | .error e => (proj0, e) | .ok q => (psEnd q, 0, 0))) (HOB : Hid (∀ k ∈ ol, -1 ≤ k ∧ k ≤ 8))
    (hrel : RI s w tl la lc pb ol oa oc tv fv iv wr) :
    Code.wp Try.prog (Code.loop (bodyF Try.f8.body)) (Exit.inBlock 0 (Exit.then K (bodyPost Try.prog Try.f8 fun e w' => ParPost w s e w'))) ⟨#[c0, c1, .pointer (some ⟨w.heap.size, 0, none⟩), .pointer (some ⟨w.heap.size + 1, 0, none⟩), .pointer (some ⟨w.heap.size + 1 + 1, 0, none⟩), .slice la tl.length lc, c6, .slice oa ol.length oc, c8, c9, .pointer (some ⟨pb, 0, none⟩), .slice (some ⟨pb + 1, 0, none⟩) 9 9, tv, fv, iv, u15, u16, u17, u18, u19, u20, u21, u22, c23, c24, c25, c26, c27, c28, c29, c30, c31, c32, c33, c34, c35, c36, c37, c38, c39, c40, c41, c42, c43, c44, c45, c46, c47, c48, c49, c50, c51, c52, c53, c54, c55, c56, c57, c58, c59, c60, c61, c62, c63, u64, u65, u66, u67, u68, u69, u70, u71, u72, u73, u74, u75, u76, u77, u78, u79, u80, u81, u82, u83, u84, u85, u86, u87, u88, u89, u90, u91, u92, u93, u94, u95, u96, u97, u98, u99, u100, u101, u102, u103, u104, u105, u106, u107, u108, u109, u110, u111, u112, u113, u114, u115, u116, u117, u118, u119, u120, u121, u122, u123, u124, u125, u126, u127, u128, u129, u130, u131, u132, u133, u134, u135, u136, u137, u138, u139, u140, u141, u142, u143, u144, u145, u146, u147, u148, u149, u150, u151, u152, u153, u154, u155, u156, u157, u158, u159, u160, u161, u162, u163, u164, u165, u166, u167, u168, u169, u170, u171, u172, u173, u174, u175, u176, u177, u178, u179, u180, u181, u182, u183, u184, u185, u186, u187, u188, u189, u190, u191, u192, u193, u194, u195, u196, u197, u198, u199, u200, u201, u202, u203, u204, u205, u206, u207, u208, u209, u210, u211, u212, u213, u214, c215, c216, c217, c218, c219, c220, c221, c222, c223, c224, c225, c226, c227, c228, c229, c230, c231, c232, c233, c234, c235, c236, c237, c238, c239, c240, c241, c242, c243, c244, c245, c246, c247, c248, c249, c250, c251, c252, c253, c254, c255, c256, c257, c258, c259, c260, c261, c262, c263, c264], []⟩ wr := by
  refine cs_loop s w tl la lc pb ol oa oc (fun n => (#[c0, c1, undef, undef, undef, undef, c6, undef, c8, c9, undef, undef, undef, undef, undef, undef, undef, undef, undef, undef, undef, undef, undef, c23, c24, c25, c26, c27, c28, c29, c30, c31, c32, c33, c34, c35, c36, c37, c38, c39, c40, c41, c42, c43, c44, c45, c46, c47, c48, c49, c50, c51, c52, c53, c54, c55, c56, c57, c58, c59, c60, c61, c62, c63, undef, undef, undef, undef, undef, undef, undef, undef, undef, undef, undef, undef, undef, undef, undef, undef, undef, undef, undef, undef, undef, undef, undef, undef, undef, undef, undef, undef, undef, undef, undef, undef, undef, undef, undef, undef, undef, undef, undef, undef, undef, undef, undef, undef, undef, undef, undef, undef, undef, undef, undef, undef, undef, undef, undef, undef, undef, undef, undef, undef, undef, undef, undef, undef, undef, undef, undef, undef, undef, undef, undef, undef, undef, undef, undef, undef, undef, undef, undef, undef, undef, undef, undef, undef, undef, undef, undef, undef, undef, undef, undef, undef, undef, undef, undef, undef, undef, undef, undef, undef, undef, undef, undef, undef, undef, undef, undef, undef, undef, undef, undef, undef, undef, undef, undef, undef, undef, undef, undef, undef, undef, undef, undef, undef, undef, undef, undef, undef, undef, undef, undef, undef, undef, undef, undef, undef, undef, undef, undef, undef, undef, undef, undef, undef, undef, undef, undef, undef, undef, undef, undef, c215, c216, c217, c218, c219, c220, c221, c222, c223, c224, c225, c226, c227, c228, c229, c230, c231, c232, c233, c234, c235, c236, c237, c238, c239, c240, c241, c242, c243, c244, c245, c246, c247, c248, c249, c250, c251, c252, c253, c254, c255, c256, c257, c258, c259, c260, c261, c262, c263, c264] : Array Value).getD n undef) K _ wr hTl HRE HPR HOB (fun a w' hX => ?_) (wf_mk hrel)
  exact hcont a w' (cs_endX s w tl la lc pb ol oa oc _ a w' HPR hX)

end Go.Proofs.Ytbgiliophmofgaa
