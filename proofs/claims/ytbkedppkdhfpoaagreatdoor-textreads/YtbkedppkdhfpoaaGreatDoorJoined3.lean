/- Clauses, as plain data and as they lie there; the program's Check of them. The contracts of the library that the program calls, laid at this program in plain words. Texts: what is written of terms, and the name of one. Texts: terms written to a builder. A list of terms of the call's own, and what lies behind each of them. What stands fast within one round of the document's own order: what the round reads, and where it lies. A list of bindings of the call's own. A list of literals of the call's own; literals appended to it. Literals that are needed: without those that can't be so, and those that one ahead is, too. -/
import Derived.Deep.AppendLies
import Derived.Deep.CutBlock
import Derived.Deep.DeepCutAuto
import Derived.Deep.DrawnRows
import Derived.Deep.RegionHeld3
import Derived.Deep.RegionLaw
import Derived.Laws.AppendOwnNone
import Derived.Lib.LaidTab
import Derived.Lib.SlicesCompact
import Derived.Maps.AppendAt
import Derived.Shelf.Small.Wraps
import Derived.Shelf.Strconv.Atoi
import Derived.Shelf.Strconv.Itoa3
import Derived.Shelf.Strings.Builder1
import Derived.Shelf.Strings.OnBuilder
import Derived.Test.YtbkedppkdhfpoaaGreatDoorProg
import Derived.Test.YtbkedppkdhfpoaaGreatDoorJoined2
namespace Go.Proofs.YtbkedppkdhfpoaaGreatDoor
open Go.RowKit

/-- A literal: yes or no, and its sides. -/
abbrev Lit := Bool × T × T
/-- Seven cells a literal, and its terms behind them. -/
def LitsP (w : World) : List Lit → Option Addr → Prop
  | [], _ => True
  | x :: c, a => ∃ b off a1 c1 a2 c2, a = some ⟨b, off, none⟩ ∧ w.cell? ⟨b, off, none⟩ = some (.bool x.1) ∧ w.cell? ⟨b, off + 1, none⟩ = some (.int .i64 x.2.1.v) ∧ w.cell? ⟨b, off + 2, none⟩ = some (.int .i64 x.2.1.f) ∧ w.cell? ⟨b, off + 3, none⟩ = some (.slice a1 x.2.1.args.length c1) ∧
      w.cell? ⟨b, off + 4, none⟩ = some (.int .i64 x.2.2.v) ∧ w.cell? ⟨b, off + 5, none⟩ = some (.int .i64 x.2.2.f) ∧ w.cell? ⟨b, off + 6, none⟩ = some (.slice a2 x.2.2.args.length c2) ∧ InL w x.2.1.args a1 ∧ InL w x.2.2.args a2 ∧ LitsP w c (some ⟨b, off + 7, none⟩)
theorem LitsP_below {w w' : World} (hb : Below w.heap.size w w') : ∀ {c : List Lit} {a : Option Addr}, LitsP w c a → LitsP w' c a := by
  intro c
  induction c with
  | nil => intro a _; trivial
  | cons x c ih =>
    intro a h
    obtain ⟨b, off, a1, c1, a2, c2, rfl, h0, h1, h2, h3, h4, h5, h6, i1, i2, hr⟩ := h
    exact ⟨b, off, a1, c1, a2, c2, rfl, cellB hb h0, cellB hb h1, cellB hb h2, cellB hb h3, cellB hb h4, cellB hb h5, cellB hb h6, InP_below hb i1, InP_below hb i2, ih hr⟩
theorem LitsP_some {w : World} {c : List Lit} {a : Option Addr} (h : LitsP w c a) (hp : 0 < c.length) : ∃ b off, a = some ⟨b, off, none⟩ := by
  cases c with
  | nil => simp at hp
  | cons x c => obtain ⟨b, off, _, _, _, _, rfl, _⟩ := h; exact ⟨b, off, rfl⟩
theorem LitsP_at {w : World} : ∀ {c : List Lit} {b off k : Nat} {x : Lit}, LitsP w c (some ⟨b, off, none⟩) → c[k]? = some x →
    ∃ a1 c1 a2 c2, w.cell? ⟨b, off + k * 7, none⟩ = some (.bool x.1) ∧ w.cell? ⟨b, off + k * 7 + 1, none⟩ = some (.int .i64 x.2.1.v) ∧ w.cell? ⟨b, off + k * 7 + 2, none⟩ = some (.int .i64 x.2.1.f) ∧ w.cell? ⟨b, off + k * 7 + 3, none⟩ = some (.slice a1 x.2.1.args.length c1) ∧
      w.cell? ⟨b, off + k * 7 + 4, none⟩ = some (.int .i64 x.2.2.v) ∧ w.cell? ⟨b, off + k * 7 + 5, none⟩ = some (.int .i64 x.2.2.f) ∧ w.cell? ⟨b, off + k * 7 + 6, none⟩ = some (.slice a2 x.2.2.args.length c2) ∧ InL w x.2.1.args a1 ∧ InL w x.2.2.args a2 := by
  intro c
  induction c with
  | nil => intro b off k x _ h; simp at h
  | cons y c ih =>
    intro b off k x h hk
    obtain ⟨b', off', a1, c1, a2, c2, hb, h0, h1, h2, h3, h4, h5, h6, i1, i2, hr⟩ := h
    simp only [Option.some.injEq, Addr.mk.injEq] at hb
    obtain ⟨rfl, rfl, _⟩ := hb
    cases k with
    | zero =>
      simp at hk; subst hk
      exact ⟨a1, c1, a2, c2, by simpa using h0, by simpa using h1, by simpa using h2, by simpa using h3, by simpa using h4, by simpa using h5, by simpa using h6, i1, i2⟩
    | succ k =>
      have h9 := ih hr (by simpa using hk)
      rw [show off + (k + 1) * 7 = off + 7 + k * 7 by omega]
      exact h9
/-- What is wrong with literals, one behind the other. -/
def litsErr (ar : List Int) : List Lit → Int
  | [] => 0
  | x :: c => if termErr ar x.2.1 = 0 then (if termErr ar x.2.2 = 0 then litsErr ar c else termErr ar x.2.2) else termErr ar x.2.1
def clauseErr (ar : List Int) (c : List Lit) : Int := if 8 < c.length then 2 else litsErr ar c
def clErr (ar : List Int) : List (List Lit) → Int
  | [] => 0
  | c :: cs => if clauseErr ar c = 0 then clErr ar cs else clauseErr ar c
def clausesErr (ar : List Int) (cs : List (List Lit)) : Int := if sigErr ar = 0 then (if 60 < cs.length then 2 else clErr ar cs) else sigErr ar
theorem litsErr_drop {ar : List Int} {c : List Lit} {k : Nat} {x : Lit} (hx : c[k]? = some x) : litsErr ar (c.drop k) = if termErr ar x.2.1 = 0 then (if termErr ar x.2.2 = 0 then litsErr ar (c.drop (k + 1)) else termErr ar x.2.2) else termErr ar x.2.1 := by
  have hlt := (List.getElem?_eq_some_iff.1 hx).1
  have e : c.drop k = x :: c.drop (k + 1) := by
    rw [List.getElem?_eq_getElem hlt] at hx
    simp at hx
    rw [← hx, List.getElem_cons_drop]
  rw [e, litsErr]
end Go.Proofs.YtbkedppkdhfpoaaGreatDoor

namespace Go.Proofs
open Go.Shelf
def Tryz.lays169_ren : Go.Shelf.Ren := ⟨fun | 169 => 40 | n => n, fun | 70 => 69 | 9 => 9 | 0 => 0 | 72 => 72 | 37 => 70 | 127 => 94 | 3 => 3 | 5 => 5 | n => n, fun | n => n⟩
theorem Tryz.lays169 : Go.Proofs.Lays.n169 Tryz.prog Tryz.lays169_ren := {
  mixed := by kernel_rfl
  f169 := Tryz.func40.trans (congrArg some (by kernel_rfl))
  t0 := Tryz.underlying0
  a0 := Tryz.isAgg0
  z0 := Tryz.sizeOf0
  v0 := Tryz.zeroValue0
  t3 := Tryz.underlying3
  a3 := Tryz.isAgg3
  z3 := Tryz.sizeOf3
  v3 := Tryz.zeroValue3
  t9 := Tryz.underlying9
  a9 := Tryz.isAgg9
  z9 := Tryz.sizeOf9
  v9 := Tryz.zeroValue9
  t37 := Tryz.underlying70
  a37 := Tryz.isAgg70
  z37 := Tryz.sizeOf70
  v37 := Tryz.zeroValue70
  t70 := Tryz.underlying69
  a70 := Tryz.isAgg69
  z70 := Tryz.sizeOf69
  v70 := Tryz.zeroValue69
  t72 := Tryz.underlying72
  a72 := Tryz.isAgg72
  z72 := Tryz.sizeOf72
  v72 := Tryz.zeroValue72
  t127 := Tryz.underlying94
  a127 := Tryz.isAgg94
  z127 := Tryz.sizeOf94
  v127 := Tryz.zeroValue94 }
theorem Tryz.Builder_Extra_169 : Builder.Extra Tryz.prog Tryz.lays169_ren := {
  sizeBuilder := by kernel_rfl
  liesBuilder := by kernel_rfl
  t5 := Tryz.underlying5
  a5 := Tryz.isAgg5
  z5 := Tryz.sizeOf5
  v5 := Tryz.zeroValue5
  infoByte := by kernel_rfl
  cellsByte := by kernel_rfl
  sizeByte := by kernel_rfl
  neB5 := by decide }
open Go.RowKit in
theorem Tryz.Builder_String_any (B b : Nat) (l : List UInt8) (w : World) (h : Lib.IsBuilder 72 5 B b (Lib.byteCells l) w) (hBw : B ≤ w.heap.size) :
    Calls Tryz.prog 40 #[.pointer (some ⟨b, 0, none⟩)] w fun e w' => e = .returned (.string ⟨l.toArray⟩) ∧ Below B w w' := Any.Builder_String_any Tryz.lays169 Tryz.Builder_Extra_169 B b l w h hBw
def Tryz.lays156_ren : Go.Shelf.Ren := ⟨fun | 156 => 23 | 165 => 41 | 166 => 42 | 169 => 40 | 240 => 54 | 241 => 55 | 276 => 61 | 277 => 62 | n => n, fun | 31 => 50 | 9 => 9 | 3 => 3 | 4 => 4 | 0 => 0 | 20 => 20 | 72 => 72 | 76 => 78 | 70 => 69 | 37 => 70 | 75 => 77 | 127 => 94 | 164 => 98 | 5 => 5 | 80 => 74 | n => n, fun | n => n⟩
theorem Tryz.lays156 : Go.Proofs.Lays.n156 Tryz.prog Tryz.lays156_ren := {
  mixed := by kernel_rfl
  f156 := Tryz.func23.trans (congrArg some (by kernel_rfl))
  f165 := Tryz.func41.trans (congrArg some (by kernel_rfl))
  f166 := Tryz.func42.trans (congrArg some (by kernel_rfl))
  f169 := Tryz.func40.trans (congrArg some (by kernel_rfl))
  f240 := Tryz.func54.trans (congrArg some (by kernel_rfl))
  f241 := Tryz.func55.trans (congrArg some (by kernel_rfl))
  f276 := Tryz.func61.trans (congrArg some (by kernel_rfl))
  f277 := Tryz.func62.trans (congrArg some (by kernel_rfl))
  t0 := Tryz.underlying0
  a0 := Tryz.isAgg0
  z0 := Tryz.sizeOf0
  v0 := Tryz.zeroValue0
  t3 := Tryz.underlying3
  a3 := Tryz.isAgg3
  z3 := Tryz.sizeOf3
  v3 := Tryz.zeroValue3
  t4 := Tryz.underlying4
  a4 := Tryz.isAgg4
  z4 := Tryz.sizeOf4
  v4 := Tryz.zeroValue4
  t9 := Tryz.underlying9
  a9 := Tryz.isAgg9
  z9 := Tryz.sizeOf9
  v9 := Tryz.zeroValue9
  t20 := Tryz.underlying20
  a20 := Tryz.isAgg20
  z20 := Tryz.sizeOf20
  v20 := Tryz.zeroValue20
  t31 := Tryz.underlying50
  a31 := Tryz.isAgg50
  z31 := Tryz.sizeOf50
  v31 := Tryz.zeroValue50
  t37 := Tryz.underlying70
  a37 := Tryz.isAgg70
  z37 := Tryz.sizeOf70
  v37 := Tryz.zeroValue70
  t70 := Tryz.underlying69
  a70 := Tryz.isAgg69
  z70 := Tryz.sizeOf69
  v70 := Tryz.zeroValue69
  t72 := Tryz.underlying72
  a72 := Tryz.isAgg72
  z72 := Tryz.sizeOf72
  v72 := Tryz.zeroValue72
  t75 := Tryz.underlying77
  a75 := Tryz.isAgg77
  z75 := Tryz.sizeOf77
  v75 := Tryz.zeroValue77
  t76 := Tryz.underlying78
  a76 := Tryz.isAgg78
  z76 := Tryz.sizeOf78
  v76 := Tryz.zeroValue78
  t127 := Tryz.underlying94
  a127 := Tryz.isAgg94
  z127 := Tryz.sizeOf94
  v127 := Tryz.zeroValue94
  t164 := Tryz.underlying98
  a164 := Tryz.isAgg98
  z164 := Tryz.sizeOf98
  v164 := Tryz.zeroValue98 }
theorem Tryz.Builder_Extra_156 : Builder.Extra Tryz.prog Tryz.lays156_ren := {
  sizeBuilder := by kernel_rfl
  liesBuilder := by kernel_rfl
  t5 := Tryz.underlying5
  a5 := Tryz.isAgg5
  z5 := Tryz.sizeOf5
  v5 := Tryz.zeroValue5
  infoByte := by kernel_rfl
  cellsByte := by kernel_rfl
  sizeByte := by kernel_rfl
  neB5 := by decide }
open Go.RowKit in
theorem Tryz.strings_Join (bk o c : Nat) (xs : List ByteArray) (sep : ByteArray) (w : World) (hcells : ∀ (j : Nat) x, xs[j]? = some x → w.cell? ⟨bk, o + j, none⟩ = some (.string x)) (hbk : bk < w.heap.size) (hN : xs.length ≤ 140737488355328) (hcap : xs.length ≤ c) (hlen : (Lib.join (xs.map (·.data.toList)) sep.data.toList).length ≤ 140737488355328) :
    Calls Tryz.prog 23 #[.slice (some ⟨bk, o, none⟩) xs.length c, .string sep] w fun e w' => e = .returned (.string ⟨(Lib.join (xs.map (·.data.toList)) sep.data.toList).toArray⟩) ∧ Below w.heap.size w w' := Any.strings_Join Tryz.lays156 Tryz.Builder_Extra_156 bk o c xs sep w hcells hbk hN hcap hlen
def Tryz.lays103_ren : Go.Shelf.Ren := ⟨fun | 103 => 56 | 210 => 63 | 206 => 75 | n => n, fun | 9 => 9 | 4 => 4 | 24 => 95 | 3 => 3 | n => n, fun | n => n⟩
theorem Tryz.lays103 : Go.Proofs.Lays.n103 Tryz.prog Tryz.lays103_ren := {
  mixed := by kernel_rfl
  f103 := Tryz.func56.trans (congrArg some (by kernel_rfl))
  f206 := Tryz.func75.trans (congrArg some (by kernel_rfl))
  f210 := Tryz.func63.trans (congrArg some (by kernel_rfl))
  t3 := Tryz.underlying3
  a3 := Tryz.isAgg3
  z3 := Tryz.sizeOf3
  v3 := Tryz.zeroValue3
  t4 := Tryz.underlying4
  a4 := Tryz.isAgg4
  z4 := Tryz.sizeOf4
  v4 := Tryz.zeroValue4
  t9 := Tryz.underlying9
  a9 := Tryz.isAgg9
  z9 := Tryz.sizeOf9
  v9 := Tryz.zeroValue9
  t24 := Tryz.underlying95
  a24 := Tryz.isAgg95
  z24 := Tryz.sizeOf95
  v24 := Tryz.zeroValue95 }
open Go.RowKit in
theorem Tryz.strings_CutPrefix (s p : ByteArray) (w : World) :
    Calls Tryz.prog 56 #[.string s, .string p] w fun e w' => e = .returned (.tuple #[.string ⟨(Lib.trimPrefix s.data.toList p.data.toList).toArray⟩, .bool (Lib.hasPrefix s.data.toList p.data.toList)]) ∧ w' = w := Any.strings_CutPrefix Tryz.lays103 s p w
def Tryz.lays172_ren : Go.Shelf.Ren := ⟨fun | 172 => 58 | 244 => 68 | 245 => 69 | 247 => 79 | 279 => 80 | 280 => 81 | 281 => 82 | 282 => 83 | 287 => 88 | 316 => 89 | 171 => 60 | 205 => 90 | 321 => 99 | 322 => 100 | 243 => 74 | 246 => 85 | 283 => 91 | 284 => 92 | 285 => 93 | 286 => 94 | 129 => 102 | 317 => 101 | 318 => 103 | 319 => 104 | 320 => 105 | 337 => 107 | 338 => 108 | n => n, fun | 9 => 9 | 3 => 3 | 75 => 77 | 76 => 78 | 4 => 4 | 5 => 5 | 167 => 117 | 37 => 70 | 0 => 0 | 85 => 118 | 2 => 2 | 168 => 120 | 53 => 126 | 175 => 127 | 46 => 129 | 210 => 132 | 127 => 94 | 145 => 150 | 143 => 148 | 21 => 21 | 171 => 134 | 173 => 137 | 212 => 152 | 51 => 153 | 20 => 20 | 213 => 154 | 232 => 158 | 233 => 159 | 80 => 74 | n => n, fun | 15 => 1 | 16 => 2 | 17 => 5 | 18 => 6 | 19 => 7 | n => n⟩
theorem Tryz.lays172 : Go.Proofs.Lays.n172 Tryz.prog Tryz.lays172_ren := {
  mixed := by kernel_rfl
  f129 := Tryz.func102.trans (congrArg some (by kernel_rfl))
  f171 := Tryz.func60.trans (congrArg some (by kernel_rfl))
  f172 := Tryz.func58.trans (congrArg some (by kernel_rfl))
  f205 := Tryz.func90.trans (congrArg some (by kernel_rfl))
  f243 := Tryz.func74.trans (congrArg some (by kernel_rfl))
  f244 := Tryz.func68.trans (congrArg some (by kernel_rfl))
  f245 := Tryz.func69.trans (congrArg some (by kernel_rfl))
  f246 := Tryz.func85.trans (congrArg some (by kernel_rfl))
  f247 := Tryz.func79.trans (congrArg some (by kernel_rfl))
  f279 := Tryz.func80.trans (congrArg some (by kernel_rfl))
  f280 := Tryz.func81.trans (congrArg some (by kernel_rfl))
  f281 := Tryz.func82.trans (congrArg some (by kernel_rfl))
  f282 := Tryz.func83.trans (congrArg some (by kernel_rfl))
  f283 := Tryz.func91.trans (congrArg some (by kernel_rfl))
  f284 := Tryz.func92.trans (congrArg some (by kernel_rfl))
  f285 := Tryz.func93.trans (congrArg some (by kernel_rfl))
  f286 := Tryz.func94.trans (congrArg some (by kernel_rfl))
  f287 := Tryz.func88.trans (congrArg some (by kernel_rfl))
  f316 := Tryz.func89.trans (congrArg some (by kernel_rfl))
  f317 := Tryz.func101.trans (congrArg some (by kernel_rfl))
  f318 := Tryz.func103.trans (congrArg some (by kernel_rfl))
  f319 := Tryz.func104.trans (congrArg some (by kernel_rfl))
  f320 := Tryz.func105.trans (congrArg some (by kernel_rfl))
  f321 := Tryz.func99.trans (congrArg some (by kernel_rfl))
  f322 := Tryz.func100.trans (congrArg some (by kernel_rfl))
  f337 := Tryz.func107.trans (congrArg some (by kernel_rfl))
  f338 := Tryz.func108.trans (congrArg some (by kernel_rfl))
  t0 := Tryz.underlying0
  a0 := Tryz.isAgg0
  z0 := Tryz.sizeOf0
  v0 := Tryz.zeroValue0
  t2 := Tryz.underlying2
  a2 := Tryz.isAgg2
  z2 := Tryz.sizeOf2
  v2 := Tryz.zeroValue2
  t3 := Tryz.underlying3
  a3 := Tryz.isAgg3
  z3 := Tryz.sizeOf3
  v3 := Tryz.zeroValue3
  t4 := Tryz.underlying4
  a4 := Tryz.isAgg4
  z4 := Tryz.sizeOf4
  v4 := Tryz.zeroValue4
  t5 := Tryz.underlying5
  a5 := Tryz.isAgg5
  z5 := Tryz.sizeOf5
  v5 := Tryz.zeroValue5
  t9 := Tryz.underlying9
  a9 := Tryz.isAgg9
  z9 := Tryz.sizeOf9
  v9 := Tryz.zeroValue9
  t20 := Tryz.underlying20
  a20 := Tryz.isAgg20
  z20 := Tryz.sizeOf20
  v20 := Tryz.zeroValue20
  t21 := Tryz.underlying21
  a21 := Tryz.isAgg21
  z21 := Tryz.sizeOf21
  v21 := Tryz.zeroValue21
  t37 := Tryz.underlying70
  a37 := Tryz.isAgg70
  z37 := Tryz.sizeOf70
  v37 := Tryz.zeroValue70
  t46 := Tryz.underlying129
  a46 := Tryz.isAgg129
  z46 := Tryz.sizeOf129
  v46 := Tryz.zeroValue129
  t51 := Tryz.underlying153
  a51 := Tryz.isAgg153
  z51 := Tryz.sizeOf153
  v51 := Tryz.zeroValue153
  t53 := Tryz.underlying126
  a53 := Tryz.isAgg126
  z53 := Tryz.sizeOf126
  v53 := Tryz.zeroValue126
  t75 := Tryz.underlying77
  a75 := Tryz.isAgg77
  z75 := Tryz.sizeOf77
  v75 := Tryz.zeroValue77
  t76 := Tryz.underlying78
  a76 := Tryz.isAgg78
  z76 := Tryz.sizeOf78
  v76 := Tryz.zeroValue78
  t85 := Tryz.underlying118
  a85 := Tryz.isAgg118
  z85 := Tryz.sizeOf118
  v85 := Tryz.zeroValue118
  t127 := Tryz.underlying94
  a127 := Tryz.isAgg94
  z127 := Tryz.sizeOf94
  v127 := Tryz.zeroValue94
  t143 := Tryz.underlying148
  a143 := Tryz.isAgg148
  z143 := Tryz.sizeOf148
  v143 := Tryz.zeroValue148
  t145 := Tryz.underlying150
  a145 := Tryz.isAgg150
  z145 := Tryz.sizeOf150
  v145 := Tryz.zeroValue150
  t167 := Tryz.underlying117
  a167 := Tryz.isAgg117
  z167 := Tryz.sizeOf117
  v167 := Tryz.zeroValue117
  t168 := Tryz.underlying120
  a168 := Tryz.isAgg120
  z168 := Tryz.sizeOf120
  v168 := Tryz.zeroValue120
  t171 := Tryz.underlying134
  a171 := Tryz.isAgg134
  z171 := Tryz.sizeOf134
  v171 := Tryz.zeroValue134
  t173 := Tryz.underlying137
  a173 := Tryz.isAgg137
  z173 := Tryz.sizeOf137
  v173 := Tryz.zeroValue137
  t175 := Tryz.underlying127
  a175 := Tryz.isAgg127
  z175 := Tryz.sizeOf127
  v175 := Tryz.zeroValue127
  t210 := Tryz.underlying132
  a210 := Tryz.isAgg132
  z210 := Tryz.sizeOf132
  v210 := Tryz.zeroValue132
  t212 := Tryz.underlying152
  a212 := Tryz.isAgg152
  z212 := Tryz.sizeOf152
  v212 := Tryz.zeroValue152
  t213 := Tryz.underlying154
  a213 := Tryz.isAgg154
  z213 := Tryz.sizeOf154
  t232 := Tryz.underlying158
  a232 := Tryz.isAgg158
  z232 := Tryz.sizeOf158
  v232 := Tryz.zeroValue158
  t233 := Tryz.underlying159
  a233 := Tryz.isAgg159
  z233 := Tryz.sizeOf159
  v233 := Tryz.zeroValue159
  g15 := by kernel_rfl
  g16 := by kernel_rfl
  g17 := by kernel_rfl
  g18 := by kernel_rfl
  g19 := by kernel_rfl }
open Go.RowKit in
theorem Tryz.strconv_Atoi (s : ByteArray) (n : Int) (hl : s.size ≤ 18) (h : Lib.atoi s.data.toList = some n) (w : World) :
    Calls Tryz.prog 58 #[.string s] w fun e w' => e = .returned (.tuple #[.int .i64 n, .nilIface]) ∧ ∃ t, w' = Lib.bytesWorld w 5 t := Any.strconv_Atoi Tryz.lays172 s n hl h w
def Tryz.laysM171_ren : Go.Shelf.Ren := ⟨fun | 171 => 60 | 243 => 74 | 246 => 85 | 283 => 91 | 284 => 92 | 285 => 93 | 286 => 94 | 129 => 102 | 317 => 101 | 318 => 103 | 319 => 104 | 320 => 105 | 337 => 107 | 338 => 108 | n => n, fun | 3 => 3 | 9 => 9 | 2 => 2 | 4 => 4 | 171 => 134 | 0 => 0 | 53 => 126 | 37 => 70 | 5 => 5 | 173 => 137 | 212 => 152 | 51 => 153 | 20 => 20 | 213 => 154 | 46 => 129 | 232 => 158 | 233 => 159 | n => n, fun | 17 => 5 | 18 => 6 | 19 => 7 | n => n⟩
theorem Tryz.laysM171 : Go.Proofs.LaysM.n171 Tryz.prog Tryz.laysM171_ren := {
  mixed := by kernel_rfl
  f129 := Tryz.func102.trans (congrArg some (by kernel_rfl))
  f171 := Tryz.func60.trans (congrArg some (by kernel_rfl))
  f243 := Tryz.func74.trans (congrArg some (by kernel_rfl))
  f246 := Tryz.func85.trans (congrArg some (by kernel_rfl))
  f283 := Tryz.func91.trans (congrArg some (by kernel_rfl))
  f284 := Tryz.func92.trans (congrArg some (by kernel_rfl))
  f285 := Tryz.func93.trans (congrArg some (by kernel_rfl))
  f286 := Tryz.func94.trans (congrArg some (by kernel_rfl))
  f317 := Tryz.func101.trans (congrArg some (by kernel_rfl))
  f318 := Tryz.func103.trans (congrArg some (by kernel_rfl))
  f319 := Tryz.func104.trans (congrArg some (by kernel_rfl))
  f320 := Tryz.func105.trans (congrArg some (by kernel_rfl))
  f337 := Tryz.func107.trans (congrArg some (by kernel_rfl))
  f338 := Tryz.func108.trans (congrArg some (by kernel_rfl))
  t0 := Tryz.underlying0
  a0 := Tryz.isAgg0
  z0 := Tryz.sizeOf0
  v0 := Tryz.zeroValue0
  t2 := Tryz.underlying2
  a2 := Tryz.isAgg2
  z2 := Tryz.sizeOf2
  v2 := Tryz.zeroValue2
  t3 := Tryz.underlying3
  a3 := Tryz.isAgg3
  z3 := Tryz.sizeOf3
  v3 := Tryz.zeroValue3
  t4 := Tryz.underlying4
  a4 := Tryz.isAgg4
  z4 := Tryz.sizeOf4
  v4 := Tryz.zeroValue4
  t5 := Tryz.underlying5
  a5 := Tryz.isAgg5
  z5 := Tryz.sizeOf5
  v5 := Tryz.zeroValue5
  t9 := Tryz.underlying9
  a9 := Tryz.isAgg9
  z9 := Tryz.sizeOf9
  v9 := Tryz.zeroValue9
  t20 := Tryz.underlying20
  a20 := Tryz.isAgg20
  z20 := Tryz.sizeOf20
  v20 := Tryz.zeroValue20
  t37 := Tryz.underlying70
  a37 := Tryz.isAgg70
  z37 := Tryz.sizeOf70
  v37 := Tryz.zeroValue70
  t46 := Tryz.underlying129
  a46 := Tryz.isAgg129
  z46 := Tryz.sizeOf129
  v46 := Tryz.zeroValue129
  t51 := Tryz.underlying153
  a51 := Tryz.isAgg153
  z51 := Tryz.sizeOf153
  v51 := Tryz.zeroValue153
  t53 := Tryz.underlying126
  a53 := Tryz.isAgg126
  z53 := Tryz.sizeOf126
  v53 := Tryz.zeroValue126
  t171 := Tryz.underlying134
  a171 := Tryz.isAgg134
  z171 := Tryz.sizeOf134
  v171 := Tryz.zeroValue134
  t173 := Tryz.underlying137
  a173 := Tryz.isAgg137
  z173 := Tryz.sizeOf137
  v173 := Tryz.zeroValue137
  t212 := Tryz.underlying152
  a212 := Tryz.isAgg152
  z212 := Tryz.sizeOf152
  v212 := Tryz.zeroValue152
  t213 := Tryz.underlying154
  a213 := Tryz.isAgg154
  z213 := Tryz.sizeOf154
  t232 := Tryz.underlying158
  a232 := Tryz.isAgg158
  z232 := Tryz.sizeOf158
  v232 := Tryz.zeroValue158
  t233 := Tryz.underlying159
  a233 := Tryz.isAgg159
  z233 := Tryz.sizeOf159
  v233 := Tryz.zeroValue159
  g17 := by kernel_rfl
  g18 := by kernel_rfl
  g19 := by kernel_rfl
  i0 := by kernel_rfl
  i2 := by kernel_rfl
  i3 := by kernel_rfl
  i4 := by kernel_rfl
  i5 := by kernel_rfl
  i9 := by kernel_rfl
  i20 := by kernel_rfl
  i37 := by kernel_rfl
  i46 := by kernel_rfl
  i51 := by kernel_rfl
  i53 := by kernel_rfl
  i171 := by kernel_rfl
  i173 := by kernel_rfl
  i212 := by kernel_rfl
  i232 := by kernel_rfl
  i233 := by kernel_rfl
  m17 := by kernel_rfl
  m18 := by kernel_rfl
  m19 := by kernel_rfl }
open Go.RowKit Go.Sort Go.Lib in
theorem Tryz.strconv_Itoa (n : Int) (h0 : -9223372036854775808 ≤ n) (h1 : n ≤ 9223372036854775807) (w : World) (htab : Lib.TabIs Tryz.prog w "internal/strconv.uint64pow10" .u64 Lib.pow10Tab) :
    Calls Tryz.prog 60 #[.int .i64 n] w fun e w' => e = .returned (.string ⟨(Lib.itoa n).toArray⟩) ∧ ∃ k os, w' = grow (w.drewN k) os := Any.strconv_Itoa Tryz.laysM171 n h0 h1 w htab
end Go.Proofs

namespace Go.Proofs.YtbkedppkdhfpoaaGreatDoor
open Go.RowKit

/-- The name of a term, in bytes. -/
def nameL (t : T) : List UInt8 := if t.v ≠ 0 then 88 :: Lib.itoa t.v else 102 :: Lib.itoa t.f
/-- The text of a term. -/
def textT : T → List UInt8
  | ⟨v, f, args⟩ => nameL ⟨v, f, []⟩ ++ (if args.isEmpty then [] else 40 :: (textL args ++ [41]))
  where
  /-- Of terms with commas between. -/
  textL : List T → List UInt8
    | [] => []
    | t :: ts => textT t ++ textC ts
  /-- A comma ahead of each. -/
  textC : List T → List UInt8
    | [] => []
    | t :: ts => 44 :: (textT t ++ textC ts)
theorem textT_eq (t : T) : textT t = nameL t ++ (if t.args.isEmpty then [] else 40 :: (textT.textL t.args ++ [41])) := by cases t; rfl
theorem textC_append (a b : List T) : textT.textC (a ++ b) = textT.textC a ++ textT.textC b := by
  induction a with
  | nil => rfl
  | cons t a ih => rw [List.cons_append, textT.textC, textT.textC, ih]; simp
theorem textL_step {ts : List T} {k : Nat} {t : T} (h : ts[k]? = some t) : textT.textL (ts.take (k + 1)) = textT.textL (ts.take k) ++ ((if k = 0 then [] else [44]) ++ textT t) := by
  cases ts with
  | nil => simp at h
  | cons x ts =>
    cases k with
    | zero =>
      rw [List.getElem?_cons_zero] at h
      obtain rfl := Option.some.inj h
      simp [textT.textL, textT.textC]
    | succ k =>
      rw [List.getElem?_cons_succ] at h
      rw [List.take_succ_cons, List.take_succ_cons, textT.textL, textT.textL, List.take_add_one, h, textC_append]
      simp [textT.textC]
theorem dec_len : ∀ (u : Nat), (Lib.decDigits u).length ≤ u + 1 := by
  intro u
  induction u using Nat.strongRecOn with
  | _ u ih =>
    rw [Lib.decDigits]
    split
    · simp
    · have := ih (u / 10) (by omega)
      rw [List.length_append]
      simp
      omega
theorem itoa_len {n : Int} (h0 : 0 ≤ n) (h1 : n ≤ 1000) : (Lib.itoa n).length ≤ 1001 := by
  rw [Lib.itoa, if_neg (by omega)]
  have := dec_len n.toNat
  omega
/-- The numbers of a right term are small. -/
theorem ok_nums {ar : List Int} {t : T} (har : ar.length ≤ 12) (h : okP ar t) : (0 ≤ t.v ∧ t.v ≤ 1000) ∧ 0 ≤ t.f ∧ t.f ≤ 1000 := by
  have h1 := (okP_iff.1 h).1
  rw [partErr] at h1
  by_cases hv : t.v = 0
  · rw [if_neg (by simpa using hv)] at h1
    split at h1
    · cases h1
    · omega
  · rw [if_pos hv] at h1
    by_cases h2 : t.v < 1 ∨ 1000 < t.v
    · rw [if_pos h2] at h1; cases h1
    · rw [if_neg h2] at h1
      by_cases h3 : t.args.length ≠ 0 ∨ t.f ≠ 0
      · rw [if_pos h3] at h1; cases h1
      · rw [not_or] at h3
        have : t.f = 0 := Decidable.not_not.1 h3.2
        omega
theorem nameL_len {ar : List Int} {t : T} (har : ar.length ≤ 12) (h : okP ar t) : (nameL t).length ≤ 1002 := by
  obtain ⟨⟨h1, h2⟩, h3, h4⟩ := ok_nums har h
  rw [nameL]
  split
  · rw [List.length_cons]; have := itoa_len h1 h2; omega
  · rw [List.length_cons]; have := itoa_len h3 h4; omega
theorem tab_below {w w' : World} {B : Nat} {name : String} {k : IntKind} {zs : List Int} (hb : Below B w w') (hg : ∀ g, Tryz.prog.globalNamed name = some g → g < B) (h : Lib.TabIs Tryz.prog w name k zs) : Lib.TabIs Tryz.prog w' name k zs := by
  unfold Lib.TabIs World.var? at h ⊢
  cases hn : Tryz.prog.globalNamed name with
  | none => rw [hn] at h; exact h
  | some g =>
    rw [hn] at h
    simp only [Option.bind_some] at h ⊢
    rw [hb.block g (hg g hn)]
    exact h
theorem belowG (w : World) (k : Nat) (os : Array Obj) : Below w.heap.size w (Sort.grow (w.drewN k) os) :=
  ⟨rfl, rfl, rfl, by simp [Sort.grow], fun j hj => by
    show (w.heap ++ os)[j]? = w.heap[j]?
    rw [Array.getElem?_append_left hj]⟩
/-- The table of the library that numbers are written by. -/
def Tab (w : World) : Prop := Lib.TabIs Tryz.prog w "internal/strconv.uint64pow10" .u64 Lib.pow10Tab
set_option maxRecDepth 100000 in
set_option maxHeartbeats 1000000 in
theorem name_any (ar : List Int) (t : T) (a : Option Addr) (cap : Nat) (w : World) (har : ar.length ≤ 12) (hok : okP ar t) (htab : Tab (w.alloc (.cells #[.int .i64 t.v, .int .i64 t.f, .slice a t.args.length cap] 27))) :
    Calls Tryz.prog 53 #[.agg #[.int .i64 t.v, .int .i64 t.f, .slice a t.args.length cap]] w fun e w' => e = .returned (.string ⟨(nameL t).toArray⟩) ∧ Below w.heap.size w w' := by
  obtain ⟨⟨h1, h2⟩, h3, h4⟩ := ok_nums har hok
  have HI := hide (fun (n : Int) (h0 : 0 ≤ n) (h1 : n ≤ 1000) => Go.Proofs.Tryz.strconv_Itoa n (by omega) (by omega) _ htab)
  obtain ⟨W1, hW1⟩ : ∃ W1, W1 = w.alloc (.cells #[.int .i64 t.v, .int .i64 t.f, .slice a t.args.length cap] 27) := ⟨_, rfl⟩
  rw [← hW1] at HI
  have HbW : Hid (Below w.heap.size w W1) := by rw [hW1]; exact below1 _ _
  have HW1 := hide hW1
  have c0 : W1.cell? ⟨w.heap.size, 0, none⟩ = some (.int .i64 t.v) := by rw [hW1]; exact cell_new 0 rfl
  have c1 : W1.cell? ⟨w.heap.size, 1, none⟩ = some (.int .i64 t.f) := by rw [hW1]; exact cell_new 1 rfl
  clear hW1 hok
  by_cases hv : t.v = 0
  · have HN : Hid (nameL t = 102 :: Lib.itoa t.f) := by show _ = _; rw [nameL, if_neg (by simpa using hv)]
    rw [hv] at c0
    have HI1 := hide (HI.out t.f h3 h4)
    have hlen := itoa_len h3 h4
    clear hv HI h1 h2 h3 h4
    go_enter Tryz.func53, Tryz.ntmps53
    go_upto_region 1 with fail
    rw [← HW1.out]
    go_wp2_with fail
    refine HI1.out.mono ?_
    rintro e w2 ⟨rfl, k, os, rfl⟩
    have Hf := hide (HbW.out.trans ((belowG W1 k os).mono HbW.out.size))
    go_wp2_with fail
    go_ret
    rw [HN.out]
    exact ⟨rfl, Hf.out⟩
  · have HN : Hid (nameL t = 88 :: Lib.itoa t.v) := by show _ = _; rw [nameL, if_pos hv]
    have HI1 := hide (HI.out t.v h1 h2)
    have hlen := itoa_len h1 h2
    have hv' : (t.v != 0) = true := by simpa using hv
    clear hv HI h1 h2 h3 h4
    go_enter Tryz.func53, Tryz.ntmps53
    go_upto_region 1 with fail
    rw [← HW1.out]
    go_wp2_with fail
    refine HI1.out.mono ?_
    rintro e w2 ⟨rfl, k, os, rfl⟩
    have Hf := hide (HbW.out.trans ((belowG W1 k os).mono HbW.out.size))
    go_wp2_with fail
    go_ret
    rw [HN.out]
    exact ⟨rfl, Hf.out⟩
end Go.Proofs.YtbkedppkdhfpoaaGreatDoor

namespace Go.Proofs.YtbkedppkdhfpoaaGreatDoor
open Go.RowKit

/-- A builder that holds these bytes. -/
abbrev IsB (B b : Nat) (l : List UInt8) (w : World) : Prop := Lib.IsBuilder 72 5 B b (Lib.byteCells l) w
theorem isB_below {B b : Nat} {l : List UInt8} {w w' : World} (h : IsB B b l w) (hb : Below w.heap.size w w') : IsB B b l w' := by
  have hh : ∀ p, Lib.BuilderAt 72 5 B b p (Lib.byteCells l) w → Lib.BuilderAt 72 5 B b p (Lib.byteCells l) w' := fun p h => by
    have hl := h.lt
    obtain ⟨hB, v, hbk, hown, hne⟩ := h
    exact ⟨hB, v, by rw [hb.block b hl]; exact hbk, own_same hown (fun g hg => hb.block g (own_lt hown g hg).2), hne⟩
  exact h.imp (hh _) (hh _)
/-- A text written behind what is there. -/
theorem ws_any {B b : Nat} {l : List UInt8} (s : List UInt8) (w : World) (h : IsB B b l w) (hlen : l.length + s.length ≤ 1000000000) (hBw : B ≤ w.heap.size) :
    Calls Tryz.prog 42 #[.pointer (some ⟨b, 0, none⟩), .string ⟨s.toArray⟩] w fun e w' => (∃ n, e = .returned (.tuple #[.int .i64 n, .nilIface])) ∧ IsB B b (l ++ s) w' ∧ Below B w w' ∧ Wrt b w w' := by
  refine (writeString_any B b (Lib.byteCells l) ⟨s.toArray⟩ w h (by rw [Lib.byteCells_length]; show l.length + s.toArray.size ≤ _; simp; omega) hBw).mono ?_
  rintro e w' ⟨rfl, h1, h2, h3⟩
  refine ⟨⟨_, rfl⟩, Or.inr ?_, h2, h3⟩
  rw [Lib.byteCells_append]
  exact h1
theorem term_len {ar : List Int} (har : ar.length ≤ 12) : ∀ (N : Nat), (∀ t : T, t.sz ≤ N → okP ar t → (textT t).length + 1 ≤ 1006 * t.sz) ∧ (∀ ts : List T, T.sz.szL ts ≤ N → (∀ t, t ∈ ts → okP ar t) → (textT.textL ts).length ≤ 1006 * T.sz.szL ts ∧ (textT.textC ts).length ≤ 1006 * T.sz.szL ts) := by
  intro N
  induction N with
  | zero =>
    refine ⟨fun t h => by have := t.sz_pos; omega, fun ts h _ => ?_⟩
    cases ts with
    | nil => exact ⟨Nat.le_refl _, Nat.le_refl _⟩
    | cons t ts => have := t.sz_pos; rw [T.szL_cons] at h; omega
  | succ N ih =>
    have h1 : ∀ t : T, t.sz ≤ N + 1 → okP ar t → (textT t).length + 1 ≤ 1006 * t.sz := fun t h ht => by
      have he := T.sz_eq t
      have hn := nameL_len har ht
      have hl := (ih.2 t.args (by omega) (fun a ha => okArg ht ha)).1
      rw [textT_eq, List.length_append]
      split
      · simp; omega
      · rw [List.length_cons, List.length_append]; simp; omega
    refine ⟨h1, fun ts => ?_⟩
    induction ts with
    | nil => intro _ _; exact ⟨Nat.le_refl _, Nat.le_refl _⟩
    | cons t ts iht =>
      intro h ho
      rw [T.szL_cons] at h ⊢
      have ht := h1 t (by omega) (ho t List.mem_cons_self)
      obtain ⟨q1, q2⟩ := iht (by omega) (fun x hx => ho x (List.mem_cons_of_mem _ hx))
      have hp := t.sz_pos
      rw [textT.textL, textT.textC, List.length_append, List.length_cons, List.length_append]
      omega
attribute [local go_sem ↓] Go.wp_at_zero Go.wp_at_succ
set_option maxRecDepth 100000 in
set_option maxHeartbeats 4000000 in
theorem write_any (ar : List Int) (har : ar.length ≤ 12) (B b : Nat) (hglob : ∀ g, Tryz.prog.globalNamed "internal/strconv.uint64pow10" = some g → g < B) (N : Nat) : ∀ (ts : List T) (a : Option Addr) (cap : Nat) (l : List UInt8) (w : World), T.sz.szL ts < N → T.sz.szL ts ≤ 1000 → (∀ t, t ∈ ts → okP ar t) → l.length + 3000 * T.sz.szL ts ≤ 100000000 → B ≤ w.heap.size → IsB B b l w → Tab w → InP (fun k => k < B) w ts a →
    Calls Tryz.prog 39 #[.pointer (some ⟨b, 0, none⟩), .slice a ts.length cap] w fun e w' => e = .returned (.tuple #[]) ∧ IsB B b (l ++ textT.textL ts) w' ∧ Below B w w' ∧ Wrt b w w' := by
  induction N with
  | zero => intro ts a cap l w h; omega
  | succ N ih =>
    intro ts a cap l w hN hsz hok hlen hBw hbu htab hin
    have Hih := hide ih
    have Hok := hide hok
    have Hbu := hide hbu
    have Htab := hide htab
    have Hin := hide hin
    have hlts : ts.length ≤ 1000 := Nat.le_trans (T.length_le ts) hsz
    clear ih hok hbu htab hin
    go_enter Tryz.func39, Tryz.ntmps39
    go_wp2_with fail
    go_loopw [8] (fun i wr => ∃ k : Nat, k ≤ ts.length ∧ i = .int .i64 k ∧ Hid (IsB B b (l ++ textT.textL (ts.take k)) wr) ∧ Hid (Below B w wr) ∧ Hid (Wrt b w wr)) (fun i _ => ts.length - (intOf i).toNat)
    case atStart => exact ⟨0, Nat.zero_le _, rfl, (by rw [List.take_zero]; show IsB B b (l ++ []) w; rw [List.append_nil]; exact Hbu.out), Below.refl _ _, Wrt.refl _ _⟩
    case round =>
      obtain ⟨k, hk, rfl, Hk, Hb, Hw⟩ := hrel
      have hzr := Hb.out.size
      by_cases hlt : k < ts.length
      · obtain ⟨ba, off, rfl⟩ := InP_some Hin.out (by omega)
        obtain ⟨x, hx⟩ : ∃ x, ts[k]? = some x := ⟨ts[k], List.getElem?_eq_getElem hlt⟩
        obtain ⟨a1, cap1, hpb, k0, k1, k2, hinx⟩ := InP_at Hin.out hx
        have hxm := List.mem_of_getElem? hx
        have hxo := Hok.out x hxm
        have hxs : x.sz ≤ T.sz.szL ts := T.szL_mem hxm
        have c0 : wr.cell? ⟨ba, off + k * 3, none⟩ = some (.int .i64 x.v) := by rw [Hb.out.cell (p := ⟨ba, off + k * 3, none⟩) hpb]; exact k0
        have c1 : wr.cell? ⟨ba, off + k * 3 + 1, none⟩ = some (.int .i64 x.f) := by rw [Hb.out.cell (p := ⟨ba, off + k * 3 + 1, none⟩) hpb]; exact k1
        have c2 : wr.cell? ⟨ba, off + k * 3 + 2, none⟩ = some (.slice a1 x.args.length cap1) := by rw [Hb.out.cell (p := ⟨ba, off + k * 3 + 2, none⟩) hpb]; exact k2
        obtain ⟨W1, hW1⟩ : ∃ W1, W1 = wr.alloc (.cells #[.int .i64 x.v, .int .i64 x.f, .slice a1 x.args.length cap1] 27) := ⟨_, rfl⟩
        have HW1 := hide hW1
        have Hst := hide (textL_step hx)
        obtain ⟨P, hP⟩ : ∃ P, P = T.sz.szL (ts.take k) := ⟨_, rfl⟩
        have hPx : P + x.sz ≤ T.sz.szL ts := by
          have h2 := T.szL_append (ts.take (k + 1)) (ts.drop (k + 1))
          rw [List.take_append_drop, List.take_add_one, hx] at h2
          have h3 := T.szL_append (ts.take k) [x]
          rw [T.szL_cons] at h3
          have h4 : ts.take k ++ (some x).toList = ts.take k ++ [x] := rfl
          rw [h4] at h2
          omega
        have hkI : (k : Int) < ts.length := by omega
        have hk0 : (0 : Int) ≤ k := by omega
        have Hxo := hide hxo
        have Hinx := hide hinx
        clear hx hxm hxo hinx k0 k1 k2 hW1
        have HbW : Hid (Below wr.heap.size wr W1) := by rw [HW1.out]; exact below1 _ _
        have hzW : W1.heap.size = wr.heap.size + 1 := by rw [HW1.out]; simp
        have HnB : Hid (∀ w', w'.heap[wr.heap.size]? = W1.heap[wr.heap.size]? → Three w' wr.heap.size (.int .i64 x.v) (.int .i64 x.f) (.slice a1 x.args.length cap1) ∧ NoBytes w' wr.heap.size) := fun w' h => by
          have e : W1.heap[wr.heap.size]? = some (.cells #[.int .i64 x.v, .int .i64 x.f, .slice a1 x.args.length cap1] 27) := by rw [HW1.out]; exact heap_alloc_new _ _
          refine ⟨(show Three W1 wr.heap.size _ _ _ by rw [HW1.out]; exact Three.new _ rfl).same h, fun cs fz h2 => ?_⟩
          rw [h, e] at h2
          simp at h2
        have hbl : b < wr.heap.size := by
          rcases Hk.out with h | h <;> exact lt_of_cell h.cell0
        have Hbn := hide (show wr.heap.size ≠ b by omega)
        obtain ⟨L1, hL1⟩ : ∃ L1, L1 = l ++ textT.textL (ts.take k) := ⟨_, rfl⟩
        rw [← hL1] at Hk
        have hlL : L1.length ≤ l.length + 1006 * P := by
          rw [hL1, List.length_append, hP]
          have h1 := ((term_len har _).2 (ts.take k) (Nat.le_refl _) (fun t ht => Hok.out t (List.mem_of_mem_take ht))).1
          omega
        have HL1 := hide hL1
        have HIs1 := hide (isB_below Hk.out HbW.out)
        have HBW := hide (Hb.out.trans (HbW.out.mono (by omega)))
        have HwW := hide (Hw.out.trans (Wrt.of_below HbW.out))
        have hzB : B ≤ W1.heap.size := by omega
        have hnl := nameL_len har Hxo.out
        have htl := (term_len har _).1 x (Nat.le_refl _) Hxo.out
        have htx : (textT x) = nameL x ++ (if x.args.isEmpty then [] else 40 :: (textT.textL x.args ++ [41])) := textT_eq x
        have Htx := hide htx
        clear hL1 htx hP
        by_cases hk00 : k = 0
        case' pos =>
          have HS0 : Hid (∀ s, L1 ++ ([] ++ s) = L1 ++ ((if k = 0 then [] else [44]) ++ s)) := fun s => by rw [if_pos hk00]
          have hkd : ¬ (0 : Int) < k := by omega
          obtain ⟨wa, hwa⟩ : ∃ wa, wa = W1 := ⟨_, rfl⟩
          obtain ⟨L2, hL2⟩ : ∃ L2, L2 = L1 := ⟨_, rfl⟩
          have HisA : Hid (IsB B b L2 wa) := by rw [hwa, hL2]; exact HIs1.out
          have HLA : Hid (∀ s, L2 ++ s = L1 ++ ((if k = 0 then [] else [44]) ++ s)) := fun s => by rw [hL2, if_pos hk00]; rfl
          have HBA : Hid (Below B w wa) := by rw [hwa]; exact HBW.out
          have HwA : Hid (Wrt b w wa) := by rw [hwa]; exact HwW.out
          have HtA : Hid (wa.heap[wr.heap.size]? = W1.heap[wr.heap.size]?) := by rw [hwa]; rfl
          have hzA : wr.heap.size + 1 ≤ wa.heap.size := by rw [hwa]; omega
          have hlA : L2.length ≤ L1.length + 1 := by rw [hL2]; omega
          clear hk00 HS0
          go_wp2_with fail
          rw [← HW1.out, ← hwa]
          clear hwa hL2
        case' neg =>
          have hkd : (0 : Int) < k := by omega
          have HLA : Hid (∀ s, (L1 ++ [44]) ++ s = L1 ++ ((if k = 0 then [] else [44]) ++ s)) := fun s => by rw [if_neg hk00]; simp
          have HWs := hide (ws_any [44] W1 HIs1.out (by simp; omega) hzB)
          clear hk00
          go_wp2_with fail
          rw [← HW1.out]
          refine HWs.out.mono ?_
          rintro e wa ⟨⟨nn, rfl⟩, hisA, hbA, hwA⟩
          obtain ⟨L2, hL2⟩ : ∃ L2, L2 = L1 ++ [44] := ⟨_, rfl⟩
          rw [← hL2] at hisA HLA
          have HisA := hide hisA
          have HBA := hide (HBW.out.trans hbA)
          have HwA := hide (HwW.out.trans hwA)
          have HtA : Hid (wa.heap[wr.heap.size]? = W1.heap[wr.heap.size]?) := hwA.block _ (by omega) Hbn.out (HnB.out W1 rfl).2
          have hzA : wr.heap.size + 1 ≤ wa.heap.size := by have := hwA.size; omega
          have hlA : L2.length ≤ L1.length + 1 := by rw [hL2, List.length_append]; simp
          clear hisA hbA hwA hL2 HWs
          obtain ⟨t0, t1, t2, _, _, _⟩ := (HnB.out wa HtA.out).1
          go_wp2_with fail
          clear t0 t1 t2
        all_goals (
          have HT := hide (fun (w' : World) (hb : Below B w w') => (show Tab w' from tab_below hb hglob Htab.out))
          have HNm := hide (name_any ar x a1 cap1 wa har Hxo.out (HT.out _ (HBA.out.trans ((below1 wa _).mono (by omega)))))
          refine HNm.out.mono ?_
          rintro e wb ⟨rfl, hbB⟩
          have HisB := hide (isB_below HisA.out hbB)
          have HBB := hide (HBA.out.trans (hbB.mono (by omega)))
          have HwB := hide (HwA.out.trans (Wrt.of_below hbB))
          have HtB : Hid (wb.heap[wr.heap.size]? = W1.heap[wr.heap.size]?) := by show _ = _; rw [hbB.block _ (by omega)]; exact HtA.out
          have hzBb : wr.heap.size + 1 ≤ wb.heap.size := by have := hbB.size; omega
          have HWs := hide (ws_any (nameL x) wb HisB.out (by omega) (by omega))
          clear hbB HNm HisA HBA HwA HtA
          go_wp2_with fail
          refine HWs.out.mono ?_
          rintro e wc ⟨⟨nc, rfl⟩, hisC, hbC, hwC⟩
          have HisC := hide hisC
          have HBC := hide (HBB.out.trans hbC)
          have HwC := hide (HwB.out.trans hwC)
          have HtC : Hid (wc.heap[wr.heap.size]? = W1.heap[wr.heap.size]?) := by show _ = _; rw [hwC.block _ (by omega) Hbn.out (HnB.out wb HtB.out).2]; exact HtB.out
          have hzC : wr.heap.size + 1 ≤ wc.heap.size := by have := hwC.size; omega
          clear hisC hbC hwC HWs HisB HBB HwB HtB
          obtain ⟨t0, t1, t2, _, _, _⟩ := (HnB.out wc HtC.out).1
          cases hxa : x.args with
          | nil =>
            have hx0 : x.args.length = 0 := by rw [hxa]; rfl
            have HF : Hid (IsB B b (l ++ textT.textL (ts.take (k + 1))) wc) := by
              show IsB _ _ _ _
              rw [Hst.out, ← List.append_assoc, ← HL1.out, ← HLA.out, Htx.out, hxa]
              simp
              exact HisC.out
            rw [hx0] at t2
            clear hxa hx0
            go_wp2_with fail
            go_roundw
            case rel => exact ⟨k + 1, by omega, by go_num, HF, HBC, HwC⟩
            case measure => simp [intOf]; omega
          | cons y ys =>
            have hxn : (0 : Int) < x.args.length := by rw [hxa, List.length_cons]; omega
            have HtE : Hid (textT x = nameL x ++ (40 :: (textT.textL x.args ++ [41]))) := by show _ = _; rw [Htx.out, hxa]; rfl
            have hse := T.sz_eq x
            have htA := ((term_len har _).2 x.args (Nat.le_refl _) (fun t ht => okArg Hxo.out ht)).1
            have HWs := hide (ws_any [40] wc HisC.out (by simp; omega) (by omega))
            clear hxa
            go_wp2_with fail
            refine HWs.out.mono ?_
            rintro e wd ⟨⟨nd, rfl⟩, hisD, hbD, hwD⟩
            have HisD := hide hisD
            have HBD := hide (HBC.out.trans hbD)
            have HwD := hide (HwC.out.trans hwD)
            have HtD : Hid (wd.heap[wr.heap.size]? = W1.heap[wr.heap.size]?) := by show _ = _; rw [hwD.block _ (by omega) Hbn.out (HnB.out wc HtC.out).2]; exact HtC.out
            have hzD : wr.heap.size + 1 ≤ wd.heap.size := by have := hwD.size; omega
            have HR := hide (Hih.out x.args a1 cap1 (L2 ++ nameL x ++ [40]) wd (by omega) (by omega) (fun t ht => okArg Hxo.out ht) (by rw [List.length_append, List.length_append]; simp; omega) (by omega) HisD.out (HT.out _ HBD.out) (InP_mono (fun q o v hp hv => ⟨hp, by rw [HBD.out.cell (p := ⟨q, o, none⟩) hp]; exact hv⟩) _ _ _ (Nat.le_refl _) Hinx.out))
            clear hisD hbD hwD HWs HisC HBC HwC HtC t0 t1 t2
            obtain ⟨t0, t1, t2, _, _, _⟩ := (HnB.out wd HtD.out).1
            go_wp2_with fail
            refine HR.out.mono ?_
            rintro e we ⟨rfl, hisE, hbE, hwE⟩
            have HisE := hide hisE
            have HBE := hide (HBD.out.trans hbE)
            have HwE := hide (HwD.out.trans hwE)
            have hzE : wr.heap.size + 1 ≤ we.heap.size := by have := hwE.size; omega
            have HWs := hide (ws_any [41] we HisE.out (by rw [List.length_append, List.length_append, List.length_append]; simp; omega) (by omega))
            clear hisE hbE hwE HR HisD HBD HwD HtD t0 t1 t2
            go_wp2_with fail
            refine HWs.out.mono ?_
            rintro e wf ⟨⟨nf, rfl⟩, hisF, hbF, hwF⟩
            have HF : Hid (IsB B b (l ++ textT.textL (ts.take (k + 1))) wf) := by
              show IsB _ _ _ _
              rw [Hst.out, ← List.append_assoc, ← HL1.out, ← HLA.out, HtE.out]
              have e : L2 ++ (nameL x ++ 40 :: (textT.textL x.args ++ [41])) = L2 ++ nameL x ++ [40] ++ textT.textL x.args ++ [41] := by simp
              rw [e]
              exact hisF
            have HBF := hide (HBE.out.trans hbF)
            have HwF := hide (HwE.out.trans hwF)
            clear hisF hbF hwF HWs
            go_wp2_with fail
            go_roundw
            case rel => exact ⟨k + 1, by omega, by go_num, HF, HBF, HwF⟩
            case measure => simp [intOf]; omega)
      · have hk2 : k = ts.length := by omega
        subst hk2
        rw [List.take_length] at Hk
        have hkI : ¬ (ts.length : Int) < ts.length := by omega
        go_wp2_with fail
        go_end0
        exact ⟨rfl, Hk.out, Hb.out, Hw.out⟩
end Go.Proofs.YtbkedppkdhfpoaaGreatDoor

namespace Go.Proofs.YtbkedppkdhfpoaaGreatDoor
open Go.RowKit

/-- Three cells a term, and its arguments. -/
def Kids (p : Nat → Prop) (w : World) : List T → List Value → Prop
  | [], cs => cs = []
  | t :: ts, cs => ∃ a cap rest, cs = .int .i64 t.v :: .int .i64 t.f :: .slice a t.args.length cap :: rest ∧ InP p w t.args a ∧ Kids p w ts rest
theorem Kids_append {p : Nat → Prop} {w : World} {ts us : List T} : ∀ {cs ds : List Value}, Kids p w ts cs → Kids p w us ds → Kids p w (ts ++ us) (cs ++ ds) := by
  induction ts with
  | nil => intro cs ds h1 h2; rw [show cs = [] from h1]; exact h2
  | cons t ts ih =>
    intro cs ds h1 h2
    obtain ⟨a, cap, rest, rfl, h0, h⟩ := h1
    exact ⟨a, cap, rest ++ ds, rfl, h0, ih h h2⟩
theorem Kids_mono {p q : Nat → Prop} {w w' : World} {ts : List T} (hs : ∀ k, p k → k < w.heap.size → q k ∧ w'.heap[k]? = w.heap[k]?) : ∀ {cs : List Value}, Kids p w ts cs → Kids q w' ts cs := by
  induction ts with
  | nil => intro cs h; exact h
  | cons t ts ih =>
    intro cs h
    obtain ⟨a, cap, rest, rfl, h0, h⟩ := h
    exact ⟨a, cap, rest, rfl, InP_mono (fun b o v hp hv => ⟨(hs b hp (lt_of_cell hv)).1, by rw [World.cell?_of_block (w := w) (a := ⟨b, o, none⟩) (hs b hp (lt_of_cell hv)).2]; exact hv⟩) _ _ _ (Nat.le_refl _) h0, ih h⟩

/-- A list of the call's own that holds these terms; nothing that lies behind them lies in the list's own block. -/
def Outs (q : Nat → Prop) (base : Nat) (w : World) (l : Value) (ts : List T) : Prop :=
  ∃ xs, w.ownsRow base 27 3 l ts.length xs ∧ Kids (fun k => (q k ∨ base ≤ k) ∧ l.ownBlock ≠ some k) w ts xs

theorem Outs_nil {q : Nat → Prop} {base : Nat} {w : World} : Outs q base w (.slice none 0 0) [] := ⟨[], ⟨rfl, Or.inl ⟨rfl, rfl⟩⟩, rfl⟩
theorem Outs_same {q : Nat → Prop} {base : Nat} {w w' : World} {l : Value} {ts : List T} (h : Outs q base w l ts) (hs : ∀ k, (q k ∨ base ≤ k) → k < w.heap.size → w'.heap[k]? = w.heap[k]?) : Outs q base w' l ts := by
  obtain ⟨xs, h1, h2⟩ := h
  exact ⟨xs, own_same h1 (fun g hg => hs g (Or.inr (own_lt h1 g hg).1) (own_lt h1 g hg).2), Kids_mono (fun k hk hlt => ⟨hk, hs k hk.1 hlt⟩) h2⟩
theorem Outs_below {q : Nat → Prop} {base : Nat} {w w' : World} {l : Value} {ts : List T} (h : Outs q base w l ts) (hb : Below w.heap.size w w') : Outs q base w' l ts := Outs_same h (fun k _ hk => hb.block k hk)
theorem Outs_step {q : Nat → Prop} {base : Nat} {w w' : World} {l : Value} {ts : List T} {c : T} {xs : List Value} {a : Option Addr} {cap g cap2 : Nat} (hk : Kids (fun k => (q k ∨ base ≤ k) ∧ l.ownBlock ≠ some k) w ts xs)
    (hc : InP (fun k => (q k ∨ base ≤ k) ∧ l.ownBlock ≠ some k) w c.args a)
    (hown : w'.ownsRow base 27 3 (.slice (some ⟨g, 0, none⟩) (ts.length + 1) cap2) (ts.length + 1) (xs ++ [.int .i64 c.v, .int .i64 c.f, .slice a c.args.length cap])) (hg : w.grownBy w' l.ownBlock) (hat : l.ownBlock = some g ∨ g = w.heap.size) :
    Outs q base w' (.slice (some ⟨g, 0, none⟩) (ts.length + 1) cap2) (ts ++ [c]) := by
  refine ⟨_, by rw [List.length_append]; exact hown, Kids_mono (p := fun k => (q k ∨ base ≤ k) ∧ l.ownBlock ≠ some k) (w := w) (fun k hp hlt => ⟨⟨hp.1, ?_⟩, hg.block k hlt (fun e => hp.2 e.symm)⟩) (Kids_append hk ⟨a, cap, [], rfl, hc, rfl⟩)⟩
  rcases hat with hat | hat
  · rw [show (Value.slice (some ⟨g, 0, none⟩) (ts.length + 1) cap2).ownBlock = some g from rfl, ← hat]; exact hp.2
  · show some g ≠ some k
    intro e; cases e; omega
theorem Kids_in {p : Nat → Prop} {w : World} {g : Nat} (hpg : p g) {ts : List T} : ∀ {off : Nat} {cs : List Value}, Kids p w ts cs → (∀ j u, cs[j]? = some u → w.cell? ⟨g, off + j, none⟩ = some u) → InP p w ts (some ⟨g, off, none⟩) := by
  induction ts with
  | nil => intro off cs _ _; exact InP_nil
  | cons t ts ih =>
    intro off cs h hc
    obtain ⟨a, cap, rest, rfl, h0, h⟩ := h
    refine InP_cons.2 ⟨g, off, .slice a t.args.length cap, rfl, hpg, hc 0 _ rfl, hc 1 _ rfl, hc 2 _ rfl, In_iff.2 ⟨a, cap, rfl, h0⟩, ih h fun j u hu => ?_⟩
    rw [show off + 3 + j = off + (j + 3) from by omega]
    exact hc (j + 3) u (by simpa using hu)
theorem Outs_end {q : Nat → Prop} {base : Nat} {w : World} {l : Value} {ts : List T} (h : Outs q base w l ts) : ∃ a cap, l = .slice a ts.length cap ∧ InP (fun k => q k ∨ base ≤ k) w ts a := by
  obtain ⟨xs, h1, h2⟩ := h
  by_cases h0 : 0 < ts.length
  · obtain ⟨g, cap, rfl, hb, hlt, hcell⟩ := own_cells h1 h0
    exact ⟨_, cap, rfl, Kids_in (Or.inr hb) (Kids_mono (fun k hk _ => ⟨hk.1, rfl⟩) h2) (fun j u hu => by rw [Nat.zero_add]; exact hcell j u hu)⟩
  · obtain ⟨a, c, rfl⟩ := own_shape h1
    have : ts = [] := List.length_eq_zero_iff.1 (by omega)
    subst this
    exact ⟨a, c, rfl, InP_nil⟩

end Go.Proofs.YtbkedppkdhfpoaaGreatDoor

namespace Go.Proofs.YtbkedppkdhfpoaaGreatDoor
open Go.RowKit

theorem cell_below {w w' : World} {b o : Nat} {v : Value} (hb : Below w.heap.size w w') (h : w.cell? ⟨b, o, none⟩ = some v) : w'.cell? ⟨b, o, none⟩ = some v := by
  rw [hb.cell (p := ⟨b, o, none⟩) (lt_of_cell h)]; exact h
end Go.Proofs.YtbkedppkdhfpoaaGreatDoor

namespace Go.Proofs.YtbkedppkdhfpoaaGreatDoor
open Go.RowKit

theorem own_cellsN {w : World} {base n : Nat} {e : TypeId} {sz : Nat} {v : Value} {xs : List Value} (h : w.ownsRow base e sz v n xs) (hn : 0 < n) : ∃ g cap, v = .slice (some ⟨g, 0, none⟩) n cap ∧ base ≤ g ∧ g < w.heap.size ∧ ∀ j u, xs[j]? = some u → w.cell? ⟨g, j, none⟩ = some u := by
  rcases h.2 with ⟨_, h0⟩ | ⟨g, cap, cur, rfl, hb, hg, hc, hm, hs, ht⟩
  · omega
  refine ⟨g, cap, rfl, hb, ?_, fun j u hu => ?_⟩
  · rcases Nat.lt_or_ge g w.heap.size with h | h
    · exact h
    · rw [Array.getElem?_eq_none h] at hg; cases hg
  · have hj : j < xs.length := by
      rcases Nat.lt_or_ge j xs.length with h | h
      · exact h
      · rw [List.getElem?_eq_none h] at hu; cases hu
    have e1 : cur[j]? = some u := by
      have h2 : (cur.toList.take (n * sz))[j]? = some u := by rw [ht]; exact hu
      rw [List.getElem?_take_of_lt (by have := h.1; omega)] at h2
      simpa using h2
    simp [World.cell?, hg, e1]
end Go.Proofs.YtbkedppkdhfpoaaGreatDoor

namespace Go.Proofs.YtbkedppkdhfpoaaGreatDoor
open Go.RowKit

/-- Seven cells a literal, and its terms behind them, where p says. -/
def LitsQ (p : Nat → Prop) (w : World) : List Lit → Option Addr → Prop
  | [], _ => True
  | x :: c, a => ∃ b off a1 c1 a2 c2, a = some ⟨b, off, none⟩ ∧ p b ∧ w.cell? ⟨b, off, none⟩ = some (.bool x.1) ∧ w.cell? ⟨b, off + 1, none⟩ = some (.int .i64 x.2.1.v) ∧ w.cell? ⟨b, off + 2, none⟩ = some (.int .i64 x.2.1.f) ∧ w.cell? ⟨b, off + 3, none⟩ = some (.slice a1 x.2.1.args.length c1) ∧
      w.cell? ⟨b, off + 4, none⟩ = some (.int .i64 x.2.2.v) ∧ w.cell? ⟨b, off + 5, none⟩ = some (.int .i64 x.2.2.f) ∧ w.cell? ⟨b, off + 6, none⟩ = some (.slice a2 x.2.2.args.length c2) ∧ InP p w x.2.1.args a1 ∧ InP p w x.2.2.args a2 ∧ LitsQ p w c (some ⟨b, off + 7, none⟩)
theorem LitsQ_lits {p : Nat → Prop} {w : World} : ∀ {c : List Lit} {a : Option Addr}, LitsQ p w c a → LitsP w c a := by
  intro c
  induction c with
  | nil => intro a _; trivial
  | cons x c ih =>
    intro a h
    obtain ⟨b, off, a1, c1, a2, c2, rfl, _, h0, h1, h2, h3, h4, h5, h6, i1, i2, hr⟩ := h
    exact ⟨b, off, a1, c1, a2, c2, rfl, h0, h1, h2, h3, h4, h5, h6, InP_imp (fun _ _ => trivial) i1, InP_imp (fun _ _ => trivial) i2, ih hr⟩
theorem LitsQ_mono {p q : Nat → Prop} {w w' : World} (hs : ∀ k, p k → k < w.heap.size → q k ∧ w'.heap[k]? = w.heap[k]?) : ∀ {c : List Lit} {a : Option Addr}, LitsQ p w c a → LitsQ q w' c a := by
  intro c
  induction c with
  | nil => intro a _; trivial
  | cons x c ih =>
    intro a h
    obtain ⟨b, off, a1, c1, a2, c2, rfl, hp, h0, h1, h2, h3, h4, h5, h6, i1, i2, hr⟩ := h
    have hI : ∀ {ts : List T} {y : Option Addr}, InP p w ts y → InP q w' ts y := fun hi => InP_mono (fun b o v hp hv => ⟨(hs b hp (lt_of_cell hv)).1, by rw [World.cell?_of_block (w := w) (a := ⟨b, o, none⟩) (hs b hp (lt_of_cell hv)).2]; exact hv⟩) _ _ _ (Nat.le_refl _) hi
    have hC : ∀ {o : Nat} {v : Value}, w.cell? ⟨b, o, none⟩ = some v → w'.cell? ⟨b, o, none⟩ = some v := fun {o v} hv => by rw [World.cell?_of_block (w := w) (a := ⟨b, o, none⟩) (hs b hp (lt_of_cell hv)).2]; exact hv
    exact ⟨b, off, a1, c1, a2, c2, rfl, (hs b hp (lt_of_cell h0)).1, hC h0, hC h1, hC h2, hC h3, hC h4, hC h5, hC h6, hI i1, hI i2, ih hr⟩
theorem LitsQ_below {p : Nat → Prop} {w w' : World} (hb : Below w.heap.size w w') {c : List Lit} {a : Option Addr} (h : LitsQ p w c a) : LitsQ p w' c a := LitsQ_mono (fun k hp hk => ⟨hp, hb.block k hk⟩) h
theorem LitsQ_imp {p q : Nat → Prop} {w : World} (hpq : ∀ k, p k → q k) {c : List Lit} {a : Option Addr} (h : LitsQ p w c a) : LitsQ q w c a := LitsQ_mono (fun k hp _ => ⟨hpq k hp, rfl⟩) h
theorem LitsP_lt {w : World} : ∀ {c : List Lit} {a : Option Addr}, LitsP w c a → LitsQ (fun k => k < w.heap.size) w c a := by
  intro c
  induction c with
  | nil => intro a _; trivial
  | cons x c ih =>
    intro a h
    obtain ⟨b, off, a1, c1, a2, c2, rfl, h0, h1, h2, h3, h4, h5, h6, i1, i2, hr⟩ := h
    exact ⟨b, off, a1, c1, a2, c2, rfl, lt_of_cell h0, h0, h1, h2, h3, h4, h5, h6, InP_imp (fun _ h => h.2) (InP_lt i1), InP_imp (fun _ h => h.2) (InP_lt i2), ih hr⟩
theorem LitsQ_at {p : Nat → Prop} {w : World} : ∀ {c : List Lit} {b off k : Nat} {x : Lit}, LitsQ p w c (some ⟨b, off, none⟩) → c[k]? = some x →
    ∃ a1 c1 a2 c2, p b ∧ w.cell? ⟨b, off + k * 7, none⟩ = some (.bool x.1) ∧ w.cell? ⟨b, off + k * 7 + 1, none⟩ = some (.int .i64 x.2.1.v) ∧ w.cell? ⟨b, off + k * 7 + 2, none⟩ = some (.int .i64 x.2.1.f) ∧ w.cell? ⟨b, off + k * 7 + 3, none⟩ = some (.slice a1 x.2.1.args.length c1) ∧
      w.cell? ⟨b, off + k * 7 + 4, none⟩ = some (.int .i64 x.2.2.v) ∧ w.cell? ⟨b, off + k * 7 + 5, none⟩ = some (.int .i64 x.2.2.f) ∧ w.cell? ⟨b, off + k * 7 + 6, none⟩ = some (.slice a2 x.2.2.args.length c2) ∧ InP p w x.2.1.args a1 ∧ InP p w x.2.2.args a2 := by
  intro c
  induction c with
  | nil => intro b off k x _ h; simp at h
  | cons y c ih =>
    intro b off k x h hk
    obtain ⟨b', off', a1, c1, a2, c2, hb, hp, h0, h1, h2, h3, h4, h5, h6, i1, i2, hr⟩ := h
    simp only [Option.some.injEq, Addr.mk.injEq] at hb
    obtain ⟨rfl, rfl, _⟩ := hb
    cases k with
    | zero =>
      simp at hk; subst hk
      exact ⟨a1, c1, a2, c2, hp, by simpa using h0, by simpa using h1, by simpa using h2, by simpa using h3, by simpa using h4, by simpa using h5, by simpa using h6, i1, i2⟩
    | succ k =>
      have h9 := ih hr (by simpa using hk)
      rw [show off + (k + 1) * 7 = off + 7 + k * 7 by omega]
      exact h9

/-- The cells of literals, and what lies behind them. -/
def KidsL (p : Nat → Prop) (w : World) : List Lit → List Value → Prop
  | [], cs => cs = []
  | x :: c, cs => ∃ a1 c1 a2 c2 rest, cs = .bool x.1 :: .int .i64 x.2.1.v :: .int .i64 x.2.1.f :: .slice a1 x.2.1.args.length c1 :: .int .i64 x.2.2.v :: .int .i64 x.2.2.f :: .slice a2 x.2.2.args.length c2 :: rest ∧ InP p w x.2.1.args a1 ∧ InP p w x.2.2.args a2 ∧ KidsL p w c rest
theorem KidsL_append {p : Nat → Prop} {w : World} {c d : List Lit} : ∀ {cs ds : List Value}, KidsL p w c cs → KidsL p w d ds → KidsL p w (c ++ d) (cs ++ ds) := by
  induction c with
  | nil => intro cs ds h1 h2; rw [show cs = [] from h1]; exact h2
  | cons x c ih =>
    intro cs ds h1 h2
    obtain ⟨a1, c1, a2, c2, rest, rfl, h0, h0', h⟩ := h1
    exact ⟨a1, c1, a2, c2, rest ++ ds, rfl, h0, h0', ih h h2⟩
theorem KidsL_mono {p q : Nat → Prop} {w w' : World} {c : List Lit} (hs : ∀ k, p k → k < w.heap.size → q k ∧ w'.heap[k]? = w.heap[k]?) : ∀ {cs : List Value}, KidsL p w c cs → KidsL q w' c cs := by
  induction c with
  | nil => intro cs h; exact h
  | cons x c ih =>
    intro cs h
    obtain ⟨a1, c1, a2, c2, rest, rfl, h0, h0', h⟩ := h
    have hI : ∀ {ts : List T} {y : Option Addr}, InP p w ts y → InP q w' ts y := fun hi => InP_mono (fun b o v hp hv => ⟨(hs b hp (lt_of_cell hv)).1, by rw [World.cell?_of_block (w := w) (a := ⟨b, o, none⟩) (hs b hp (lt_of_cell hv)).2]; exact hv⟩) _ _ _ (Nat.le_refl _) hi
    exact ⟨a1, c1, a2, c2, rest, rfl, hI h0, hI h0', ih h⟩
theorem KidsL_in {p : Nat → Prop} {w : World} {g : Nat} (hpg : p g) {c : List Lit} : ∀ {off : Nat} {cs : List Value}, KidsL p w c cs → (∀ j u, cs[j]? = some u → w.cell? ⟨g, off + j, none⟩ = some u) → LitsQ p w c (some ⟨g, off, none⟩) := by
  induction c with
  | nil => intro off cs _ _; trivial
  | cons x c ih =>
    intro off cs h hc
    obtain ⟨a1, c1, a2, c2, rest, rfl, h0, h0', h⟩ := h
    refine ⟨g, off, a1, c1, a2, c2, rfl, hpg, hc 0 _ rfl, hc 1 _ rfl, hc 2 _ rfl, hc 3 _ rfl, hc 4 _ rfl, hc 5 _ rfl, hc 6 _ rfl, h0, h0', ih h fun j u hu => ?_⟩
    rw [show off + 7 + j = off + (j + 7) from by omega]
    exact hc (j + 7) u (by simpa using hu)
/-- A list of the call's own that holds these literals; nothing that lies behind them lies in the list's own block. -/
def OutsL (q : Nat → Prop) (base : Nat) (w : World) (l : Value) (c : List Lit) : Prop :=
  ∃ xs, w.ownsRow base 52 7 l c.length xs ∧ KidsL (fun k => (q k ∨ base ≤ k) ∧ l.ownBlock ≠ some k) w c xs
theorem OutsL_nil {q : Nat → Prop} {base : Nat} {w : World} : OutsL q base w (.slice none 0 0) [] := ⟨[], ⟨rfl, Or.inl ⟨rfl, rfl⟩⟩, rfl⟩
theorem OutsL_same {q : Nat → Prop} {base : Nat} {w w' : World} {l : Value} {c : List Lit} (h : OutsL q base w l c) (hs : ∀ k, (q k ∨ base ≤ k) → k < w.heap.size → w'.heap[k]? = w.heap[k]?) : OutsL q base w' l c := by
  obtain ⟨xs, h1, h2⟩ := h
  exact ⟨xs, own_same h1 (fun g hg => hs g (Or.inr (own_lt h1 g hg).1) (own_lt h1 g hg).2), KidsL_mono (fun k hk hlt => ⟨hk, hs k hk.1 hlt⟩) h2⟩
theorem OutsL_below {q : Nat → Prop} {base : Nat} {w w' : World} {l : Value} {c : List Lit} (h : OutsL q base w l c) (hb : Below w.heap.size w w') : OutsL q base w' l c := OutsL_same h (fun k _ hk => hb.block k hk)
theorem OutsL_step {q : Nat → Prop} {base : Nat} {w w' : World} {l : Value} {c : List Lit} {x : Lit} {xs : List Value} {a1 : Option Addr} {c1 : Nat} {a2 : Option Addr} {c2 g cap2 : Nat} (hk : KidsL (fun k => (q k ∨ base ≤ k) ∧ l.ownBlock ≠ some k) w c xs)
    (hc : InP (fun k => (q k ∨ base ≤ k) ∧ l.ownBlock ≠ some k) w x.2.1.args a1) (hc2 : InP (fun k => (q k ∨ base ≤ k) ∧ l.ownBlock ≠ some k) w x.2.2.args a2)
    (hown : w'.ownsRow base 52 7 (.slice (some ⟨g, 0, none⟩) (c.length + 1) cap2) (c.length + 1) (xs ++ [.bool x.1, .int .i64 x.2.1.v, .int .i64 x.2.1.f, .slice a1 x.2.1.args.length c1, .int .i64 x.2.2.v, .int .i64 x.2.2.f, .slice a2 x.2.2.args.length c2])) (hg : w.grownBy w' l.ownBlock) (hat : l.ownBlock = some g ∨ g = w.heap.size) :
    OutsL q base w' (.slice (some ⟨g, 0, none⟩) (c.length + 1) cap2) (c ++ [x]) := by
  refine ⟨_, by rw [List.length_append]; exact hown, KidsL_mono (p := fun k => (q k ∨ base ≤ k) ∧ l.ownBlock ≠ some k) (w := w) (fun k hp hlt => ⟨⟨hp.1, ?_⟩, hg.block k hlt (fun e => hp.2 e.symm)⟩) (KidsL_append hk ⟨a1, c1, a2, c2, [], rfl, hc, hc2, rfl⟩)⟩
  rcases hat with hat | hat
  · rw [show (Value.slice (some ⟨g, 0, none⟩) (c.length + 1) cap2).ownBlock = some g from rfl, ← hat]; exact hp.2
  · show some g ≠ some k
    intro e; cases e; omega
theorem OutsL_end {q : Nat → Prop} {base : Nat} {w : World} {l : Value} {c : List Lit} (h : OutsL q base w l c) : ∃ a cap, l = .slice a c.length cap ∧ LitsQ (fun k => q k ∨ base ≤ k) w c a := by
  obtain ⟨xs, h1, h2⟩ := h
  by_cases h0 : 0 < c.length
  · obtain ⟨g, cap, rfl, hb, hlt, hcell⟩ := own_cellsN h1 h0
    exact ⟨_, cap, rfl, KidsL_in (Or.inr hb) (KidsL_mono (fun k hk _ => ⟨hk.1, rfl⟩) h2) (fun j u hu => by rw [Nat.zero_add]; exact hcell j u hu)⟩
  · obtain ⟨a, c', rfl⟩ := own_shape h1
    have : c = [] := List.length_eq_zero_iff.1 (by omega)
    subst this
    exact ⟨a, c', rfl, trivial⟩

theorem Tryz.info52 : (Tryz.prog.info? 52).map (fun i => (i.zero, i.size, i.bytes)) = some (some (.agg #[.bool false, .int .i64 0, .int .i64 0, .slice none 0 0, .int .i64 0, .int .i64 0, .slice none 0 0]), 7, 88) := by kernel_rfl
/-- What is appended: nothing, or the cells that lie at an address. -/
def SrcL (w : World) (x : Value) (m : Nat) (news : List Value) : Prop :=
  (x = .slice none 0 0 ∧ m = 0 ∧ news = []) ∨ ∃ b off c, x = .slice (some ⟨b, off, none⟩) m c ∧ news.length = m * 7 ∧ (∀ j u, news[j]? = some u → w.cell? ⟨b, off + j, none⟩ = some u) ∧ ∀ u, u ∈ news → u.oneCell' = true
theorem seven_new {w : World} {v0 v1 v2 v3 v4 v5 v6 : Value} {e : TypeId} {n : Nat} (hn : n = w.heap.size) : ∀ (j : Nat) (u : Value), [v0, v1, v2, v3, v4, v5, v6][j]? = some u →
    (w.alloc (.cells #[v0, v1, v2, v3, v4, v5, v6] e)).cell? ⟨n, 0 + j, none⟩ = some u := by
  intro j u hu
  rw [Nat.zero_add, cell_new j hn]
  simpa using hu
end Go.Proofs.YtbkedppkdhfpoaaGreatDoor

namespace Go.Proofs.YtbkedppkdhfpoaaGreatDoor
open Go.RowKit

/-- Seven cells of a literal. -/
structure L7 (w : World) (b o : Nat) (x : Lit) (a1 : Option Addr) (c1 : Nat) (a2 : Option Addr) (c2 : Nat) : Prop where
  e0 : w.cell? ⟨b, o, none⟩ = some (.bool x.1)
  e1 : w.cell? ⟨b, o + 1, none⟩ = some (.int .i64 x.2.1.v)
  e2 : w.cell? ⟨b, o + 2, none⟩ = some (.int .i64 x.2.1.f)
  e3 : w.cell? ⟨b, o + 3, none⟩ = some (.slice a1 x.2.1.args.length c1)
  e4 : w.cell? ⟨b, o + 4, none⟩ = some (.int .i64 x.2.2.v)
  e5 : w.cell? ⟨b, o + 5, none⟩ = some (.int .i64 x.2.2.f)
  e6 : w.cell? ⟨b, o + 6, none⟩ = some (.slice a2 x.2.2.args.length c2)
theorem L7.below {w w' : World} {b o : Nat} {x : Lit} {a1 : Option Addr} {c1 : Nat} {a2 : Option Addr} {c2 : Nat} (h : L7 w b o x a1 c1 a2 c2) (hb : Below w.heap.size w w') : L7 w' b o x a1 c1 a2 c2 :=
  ⟨cellB hb h.e0, cellB hb h.e1, cellB hb h.e2, cellB hb h.e3, cellB hb h.e4, cellB hb h.e5, cellB hb h.e6⟩
theorem L7.new {w : World} {x : Lit} {a1 : Option Addr} {c1 : Nat} {a2 : Option Addr} {c2 n : Nat} (e : TypeId) (hn : n = w.heap.size) : L7 (w.alloc (.cells #[.bool x.1, .int .i64 x.2.1.v, .int .i64 x.2.1.f, .slice a1 x.2.1.args.length c1, .int .i64 x.2.2.v, .int .i64 x.2.2.f, .slice a2 x.2.2.args.length c2] e)) n 0 x a1 c1 a2 c2 :=
  ⟨cell_new 0 hn, cell_new 1 hn, cell_new 2 hn, cell_new 3 hn, cell_new 4 hn, cell_new 5 hn, cell_new 6 hn⟩
abbrev litV (x : Lit) (a1 : Option Addr) (c1 : Nat) (a2 : Option Addr) (c2 : Nat) : Value := .agg #[.bool x.1, .int .i64 x.2.1.v, .int .i64 x.2.1.f, .slice a1 x.2.1.args.length c1, .int .i64 x.2.2.v, .int .i64 x.2.2.f, .slice a2 x.2.2.args.length c2]
/-- Its terms are not too great. -/
def LitSz (x : Lit) : Prop := x.2.1.sz ≤ 1000 ∧ x.2.2.sz ≤ 1000

attribute [local go_sem ↓] Go.wp_at_zero Go.wp_at_succ
end Go.Proofs.YtbkedppkdhfpoaaGreatDoor
