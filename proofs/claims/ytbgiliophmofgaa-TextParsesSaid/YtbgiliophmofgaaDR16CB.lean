/-
  The walk of jalousieref16.Parse: the loop's body, its frame.
-/
import Derived.Deep.RegionHeld3
import Derived.Test.YtbgiliophmofgaaH08
import Derived.Test.YtbgiliophmofgaaH05
import Derived.Test.YtbgiliophmofgaaH07
import Derived.Test.YtbgiliophmofgaaH04
import Derived.Test.YtbgiliophmofgaaH03
import Derived.Test.YtbgiliophmofgaaH13
namespace Go.Proofs.Ytbgiliophmofgaa
open Go.RowKit
set_option linter.unusedVariables false

theorem rows9 (rv : Nat → Value) {k : Nat} (h : k < 9) : (#[rv 0, rv 1, rv 2, rv 3, rv 4, rv 5, rv 6, rv 7, rv 8])[k]? = some (rv k) := by
  have h : k = 0 ∨ k = 1 ∨ k = 2 ∨ k = 3 ∨ k = 4 ∨ k = 5 ∨ k = 6 ∨ k = 7 ∨ k = 8 := by omega
  rcases h with rfl | rfl | rfl | rfl | rfl | rfl | rfl | rfl | rfl <;> rfl
def loopOf : Code → Option Code
  | .loop c => some c
  | .seq a b => match loopOf a with
    | some c => some c
    | none => loopOf b
  | .block _ c => loopOf c
  | .scope c => loopOf c
  | .cond _ a b => match loopOf a with
    | some c => some c
    | none => loopOf b
  | _ => none
/-- What stands behind the first loop. -/
def behOf : Code → Option Code
  | .seq a b => match loopOf a with
    | some _ => (match behOf a with
      | some c => some c
      | none => some b)
    | none => behOf b
  | .block _ c => behOf c
  | .scope c => behOf c
  | _ => none
def bodyF (o : Option Code) : Code := (o.bind loopOf).getD .skip
def endF (o : Option Code) : Code := (o.bind behOf).getD .skip
set_option maxRecDepth 1000000 in
/-- The frame at the loop's head, and what holds of the slots that it speaks of. -/
def WF (s : Str) (w : World) (tl : List Tok) (la : Option Addr) (lc pb : Nat) (ol : List Int) (oa : Option Addr) (oc : Nat) (c : Nat → Value) (R : Value → Value → Value → World → Prop) (a : Act) (w' : World) : Prop :=
  ∃ (u : Nat → Value) (tv fv iv : Value), R tv fv iv w' ∧ a = ⟨#[c 0, c 1, .pointer (some ⟨w.heap.size, 0, none⟩), .pointer (some ⟨w.heap.size + 1, 0, none⟩), .pointer (some ⟨w.heap.size + 1 + 1, 0, none⟩), .slice la tl.length lc, c 6, .slice oa ol.length oc, c 8, c 9, .pointer (some ⟨pb, 0, none⟩), .slice (some ⟨pb + 1, 0, none⟩) 9 9, tv, fv, iv, u 15, u 16, u 17, u 18, u 19, u 20, u 21, u 22, c 23, c 24, c 25, c 26, c 27, c 28, c 29, c 30, c 31, c 32, c 33, c 34, c 35, c 36, c 37, c 38, c 39, c 40, c 41, c 42, c 43, c 44, c 45, c 46, c 47, c 48, c 49, c 50, c 51, c 52, c 53, c 54, c 55, c 56, c 57, c 58, c 59, c 60, c 61, c 62, c 63, u 64, u 65, u 66, u 67, u 68, u 69, u 70, u 71, u 72, u 73, u 74, u 75, u 76, u 77, u 78, u 79, u 80, u 81, u 82, u 83, u 84, u 85, u 86, u 87, u 88, u 89, u 90, u 91, u 92, u 93, u 94, u 95, u 96, u 97, u 98, u 99, u 100, u 101, u 102, u 103, u 104, u 105, u 106, u 107, u 108, u 109, u 110, u 111, u 112, u 113, u 114, u 115, u 116, u 117, u 118, u 119, u 120, u 121, u 122, u 123, u 124, u 125, u 126, u 127, u 128, u 129, u 130, u 131, u 132, u 133, u 134, u 135, u 136, u 137, u 138, u 139, u 140, u 141, u 142, u 143, u 144, u 145, u 146, u 147, u 148, u 149, u 150, u 151, u 152, u 153, u 154, u 155, u 156, u 157, u 158, u 159, u 160, u 161, u 162, u 163, u 164, u 165, u 166, u 167, u 168, u 169, u 170, u 171, u 172, u 173, u 174, u 175, u 176, u 177, u 178, u 179, u 180, u 181, u 182, u 183, u 184, u 185, u 186, u 187, u 188, u 189, u 190, u 191, u 192, u 193, u 194, u 195, u 196, u 197, u 198, u 199, u 200, u 201, u 202, u 203, u 204, u 205, u 206, u 207, u 208, u 209, u 210, u 211, u 212, u 213, u 214, c 215, c 216, c 217, c 218, c 219, c 220, c 221, c 222, c 223, c 224, c 225, c 226, c 227, c 228, c 229, c 230, c 231, c 232, c 233, c 234, c 235, c 236, c 237, c 238, c 239, c 240, c 241, c 242, c 243, c 244, c 245, c 246, c 247, c 248, c 249, c 250, c 251, c 252, c 253, c 254, c 255, c 256, c 257, c 258, c 259, c 260, c 261, c 262, c 263, c 264], []⟩
set_option maxRecDepth 1000000 in
theorem wf_mk {s : Str} {w : World} {tl : List Tok} {la : Option Addr} {lc pb : Nat} {ol : List Int} {oa : Option Addr} {oc : Nat} {c : Nat → Value} {R : Value → Value → Value → World → Prop} {w' : World} {u15 u16 u17 u18 u19 u20 u21 u22 u64 u65 u66 u67 u68 u69 u70 u71 u72 u73 u74 u75 u76 u77 u78 u79 u80 u81 u82 u83 u84 u85 u86 u87 u88 u89 u90 u91 u92 u93 u94 u95 u96 u97 u98 u99 u100 u101 u102 u103 u104 u105 u106 u107 u108 u109 u110 u111 u112 u113 u114 u115 u116 u117 u118 u119 u120 u121 u122 u123 u124 u125 u126 u127 u128 u129 u130 u131 u132 u133 u134 u135 u136 u137 u138 u139 u140 u141 u142 u143 u144 u145 u146 u147 u148 u149 u150 u151 u152 u153 u154 u155 u156 u157 u158 u159 u160 u161 u162 u163 u164 u165 u166 u167 u168 u169 u170 u171 u172 u173 u174 u175 u176 u177 u178 u179 u180 u181 u182 u183 u184 u185 u186 u187 u188 u189 u190 u191 u192 u193 u194 u195 u196 u197 u198 u199 u200 u201 u202 u203 u204 u205 u206 u207 u208 u209 u210 u211 u212 u213 u214 tv fv iv : Value} (h : R tv fv iv w') : WF s w tl la lc pb ol oa oc c R ⟨#[c 0, c 1, .pointer (some ⟨w.heap.size, 0, none⟩), .pointer (some ⟨w.heap.size + 1, 0, none⟩), .pointer (some ⟨w.heap.size + 1 + 1, 0, none⟩), .slice la tl.length lc, c 6, .slice oa ol.length oc, c 8, c 9, .pointer (some ⟨pb, 0, none⟩), .slice (some ⟨pb + 1, 0, none⟩) 9 9, tv, fv, iv, u15, u16, u17, u18, u19, u20, u21, u22, c 23, c 24, c 25, c 26, c 27, c 28, c 29, c 30, c 31, c 32, c 33, c 34, c 35, c 36, c 37, c 38, c 39, c 40, c 41, c 42, c 43, c 44, c 45, c 46, c 47, c 48, c 49, c 50, c 51, c 52, c 53, c 54, c 55, c 56, c 57, c 58, c 59, c 60, c 61, c 62, c 63, u64, u65, u66, u67, u68, u69, u70, u71, u72, u73, u74, u75, u76, u77, u78, u79, u80, u81, u82, u83, u84, u85, u86, u87, u88, u89, u90, u91, u92, u93, u94, u95, u96, u97, u98, u99, u100, u101, u102, u103, u104, u105, u106, u107, u108, u109, u110, u111, u112, u113, u114, u115, u116, u117, u118, u119, u120, u121, u122, u123, u124, u125, u126, u127, u128, u129, u130, u131, u132, u133, u134, u135, u136, u137, u138, u139, u140, u141, u142, u143, u144, u145, u146, u147, u148, u149, u150, u151, u152, u153, u154, u155, u156, u157, u158, u159, u160, u161, u162, u163, u164, u165, u166, u167, u168, u169, u170, u171, u172, u173, u174, u175, u176, u177, u178, u179, u180, u181, u182, u183, u184, u185, u186, u187, u188, u189, u190, u191, u192, u193, u194, u195, u196, u197, u198, u199, u200, u201, u202, u203, u204, u205, u206, u207, u208, u209, u210, u211, u212, u213, u214, c 215, c 216, c 217, c 218, c 219, c 220, c 221, c 222, c 223, c 224, c 225, c 226, c 227, c 228, c 229, c 230, c 231, c 232, c 233, c 234, c 235, c 236, c 237, c 238, c 239, c 240, c 241, c 242, c 243, c 244, c 245, c 246, c 247, c 248, c 249, c 250, c 251, c 252, c 253, c 254, c 255, c 256, c 257, c 258, c 259, c 260, c 261, c 262, c 263, c 264], []⟩ w' :=
  ⟨fun n => (#[undef, undef, undef, undef, undef, undef, undef, undef, undef, undef, undef, undef, undef, undef, undef, u15, u16, u17, u18, u19, u20, u21, u22, undef, undef, undef, undef, undef, undef, undef, undef, undef, undef, undef, undef, undef, undef, undef, undef, undef, undef, undef, undef, undef, undef, undef, undef, undef, undef, undef, undef, undef, undef, undef, undef, undef, undef, undef, undef, undef, undef, undef, undef, undef, u64, u65, u66, u67, u68, u69, u70, u71, u72, u73, u74, u75, u76, u77, u78, u79, u80, u81, u82, u83, u84, u85, u86, u87, u88, u89, u90, u91, u92, u93, u94, u95, u96, u97, u98, u99, u100, u101, u102, u103, u104, u105, u106, u107, u108, u109, u110, u111, u112, u113, u114, u115, u116, u117, u118, u119, u120, u121, u122, u123, u124, u125, u126, u127, u128, u129, u130, u131, u132, u133, u134, u135, u136, u137, u138, u139, u140, u141, u142, u143, u144, u145, u146, u147, u148, u149, u150, u151, u152, u153, u154, u155, u156, u157, u158, u159, u160, u161, u162, u163, u164, u165, u166, u167, u168, u169, u170, u171, u172, u173, u174, u175, u176, u177, u178, u179, u180, u181, u182, u183, u184, u185, u186, u187, u188, u189, u190, u191, u192, u193, u194, u195, u196, u197, u198, u199, u200, u201, u202, u203, u204, u205, u206, u207, u208, u209, u210, u211, u212, u213, u214] : Array Value).getD n undef, tv, fv, iv, h, rfl⟩
def Wmu (tl : List Tok) (a : Act) : Nat := tl.length - (intOf (a.tmps.getD 14 undef)).toNat
def RI (s : Str) (w : World) (tl : List Tok) (la : Option Addr) (lc pb : Nat) (ol : List Int) (oa : Option Addr) (oc : Nat) : Value → Value → Value → World → Prop := fun tv fv iv wr => ∃ (i : Nat) (vs ve va : Value) (rv : Nat → Value) (q : Ps), iv = .int .i64 i ∧ i ≤ tl.length ∧ tv = rv 9 ∧ fv = .int .i64 (q.first : Int) ∧ q.states.length ≤ 6 ∧ q.events.length ≤ 8 ∧ q.three.length ≤ 2 ∧ q.arrows.length ≤ i ∧ Hid (∀ j, (q.rows j).length ≤ i) ∧ Hid (rv 10 = .slice oa ol.length oc) ∧ Hid (PK w wr (.slice la tl.length lc) tl pb (pb + 1) vs ve va rv q.states q.events (lsP q ol) q.arrows) ∧ Hid (psGo ps0 (ol.zip tl) = psGo q ((ol.zip tl).drop i))
def RX (s : Str) (w : World) (tl : List Tok) (la : Option Addr) (lc pb : Nat) (ol : List Int) (oa : Option Addr) (oc : Nat) : Value → Value → Value → World → Prop := fun tv fv iv wr => ∃ (vs ve va : Value) (rv : Nat → Value) (q : Ps), q.states.length ≤ 6 ∧ q.events.length ≤ 8 ∧ q.arrows.length ≤ 4000 ∧ Hid (∀ j, (q.rows j).length ≤ 4000) ∧ Hid (PK w wr (.slice la tl.length lc) tl pb (pb + 1) vs ve va rv q.states q.events (lsP q ol) q.arrows) ∧ Hid (psGo ps0 (ol.zip tl) = .ok q)

end Go.Proofs.Ytbgiliophmofgaa
