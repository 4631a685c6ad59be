/- What stands fast within one round of the document's own order: what the round reads, and where it lies. The document's own order, in pieces: of one part's arguments, is one greater than the other part, or the same? Is one part greater than all arguments of the other one? The document's own order: two of one function: of the first arguments that are not the same, is that of the first one greater? -/
import Derived.BigQuiet
import Derived.Deep.CutBlock
import Derived.Deep.DeepCutAuto
import Derived.Deep.RegionHeld3
import Derived.Test.YtbkedppkdhfpoaaJoined9
namespace Go.Proofs.Ytbkedppkdhfpoaa
open Go.RowKit

theorem cell_below {w w' : World} {b o : Nat} {v : Value} (hb : Below w.heap.size w w') (h : w.cell? ⟨b, o, none⟩ = some v) : w'.cell? ⟨b, o, none⟩ = some v := by
  rw [hb.cell (p := ⟨b, o, none⟩) (lt_of_cell h)]; exact h
theorem drewB (B : Nat) (w : World) (n : Nat) : Below B w (w.drewN n) := ⟨rfl, rfl, rfl, Nat.le_refl _, fun _ _ => rfl⟩
theorem any_stepR {l : List T} {p : T → Bool} {m : Nat} {c : T} (h : l[m]? = some c) : (l.take (m + 1)).any p = ((l.take m).any p || p c) := by
  rw [List.take_add_one, h]; simp
theorem all_step {l : List T} {p : T → Bool} {m : Nat} {c : T} (h : l[m]? = some c) : (l.take (m + 1)).all p = ((l.take m).all p && p c) := by
  rw [List.take_add_one, h]; simp
theorem drop_at {l : List T} {m : Nat} {c : T} (h : l[m]? = some c) : l.drop m = c :: l.drop (m + 1) := by
  have hlt : m < l.length := by
    rcases Nat.lt_or_ge m l.length with h1 | h1
    · exact h1
    · rw [List.getElem?_eq_none h1] at h; cases h
  rw [List.getElem?_eq_getElem hlt] at h
  simp only [Option.some.injEq] at h
  rw [← h, List.getElem_cons_drop]
theorem firstN_drop {xs ys : List T} {m : Nat} {c d : T} (hx : xs[m]? = some c) (hy : ys[m]? = some d) : firstN gt (xs.drop m) (ys.drop m) = if sameT c d then firstN gt (xs.drop (m + 1)) (ys.drop (m + 1)) else gt c d := by
  rw [drop_at hx, drop_at hy, firstN]
theorem okP_parts {ar : List Int} : ∀ (n : Nat), (∀ t : T, t.sz ≤ n → okP ar t → ∀ p, p ∈ parts t → okP ar p ∧ p.sz ≤ t.sz) ∧ (∀ ts : List T, T.sz.szL ts ≤ n → okP.okL ar ts → ∀ p, p ∈ parts.partsL ts → okP ar p ∧ p.sz ≤ T.sz.szL ts) := by
  intro n
  induction n with
  | zero =>
    refine ⟨fun t h => by have := t.sz_pos; omega, fun ts h _ p hp => ?_⟩
    cases ts with
    | nil => simp [parts.partsL] at hp
    | cons t ts => have := t.sz_pos; rw [T.szL_cons] at h; omega
  | succ n ih =>
    have h1 : ∀ t : T, t.sz ≤ n + 1 → okP ar t → ∀ p, p ∈ parts t → okP ar p ∧ p.sz ≤ t.sz := fun t h hk p hp => by
      have hte := T.sz_eq t
      rw [parts_eq, List.mem_append, List.mem_singleton] at hp
      rcases hp with hp | rfl
      · have := ih.2 t.args (by omega) (okP_iff.1 hk).2 p hp
        exact ⟨this.1, by omega⟩
      · exact ⟨hk, Nat.le_refl _⟩
    refine ⟨h1, fun ts => ?_⟩
    induction ts with
    | nil => intro _ _ p hp; simp [parts.partsL] at hp
    | cons t ts iht =>
      intro h hk p hp
      rw [T.szL_cons] at h ⊢
      rw [partsL_cons, List.mem_append] at hp
      rcases hp with hp | hp
      · have := h1 t (by omega) (okL_cons.1 hk).1 p hp
        exact ⟨this.1, by omega⟩
      · have := iht (by omega) (okL_cons.1 hk).2 p hp
        exact ⟨this.1, by omega⟩

/-- What a round reads. -/
structure Cx (lo1 lo2 K : Nat) (s t x y : T) (i k gs gt' ga gb b1 b2 : Nat) (xla : Option Addr) (xlc : Nat) (lx : List Int) (yla : Option Addr) (ylc : Nat) (ly : List Int) (rb : Nat → Nat) (M : Nat → Nat → Bool) (xa : Option Addr) (xc : Nat) (ya : Option Addr) (yc : Nat) (w : World) : Prop where
  hx : (parts s)[i]? = some x
  hy : (parts t)[k]? = some y
  lxl : lx.length = x.args.length
  lyl : ly.length = y.args.length
  lxm : ∀ (m : Nat) (c : T), x.args[m]? = some c → ∃ j : Nat, lx[m]? = some (j : Int) ∧ j < i ∧ (parts s)[j]? = some c
  lym : ∀ (m : Nat) (c : T), y.args[m]? = some c → ∃ j : Nat, ly[m]? = some (j : Int) ∧ j < k ∧ (parts t)[j]? = some c
  la : w.cell? ⟨ga, i, none⟩ = some (.slice xla lx.length xlc)
  lai : Ints w lx xla
  lb : w.cell? ⟨gb, k, none⟩ = some (.slice yla ly.length ylc)
  lbi : Ints w ly yla
  ps : PartsAt lo1 w gs s
  pt : PartsAt lo2 w gt' t
  tt : TT K s.sz t.sz (i + 1) rb w M
  rt : Right (parts s) (parts t) M i k
  bx : Three w b1 (.int .i64 x.v) (.int .i64 x.f) (.slice xa x.args.length xc)
  bY : Three w b2 (.int .i64 y.v) (.int .i64 y.f) (.slice ya y.args.length yc)
  yi : InL w y.args ya
theorem Cx.below {lo1 lo2 K : Nat} {s t x y : T} {i k gs gt' ga gb b1 b2 : Nat} {xla : Option Addr} {xlc : Nat} {lx : List Int} {yla : Option Addr} {ylc : Nat} {ly : List Int} {rb : Nat → Nat} {M : Nat → Nat → Bool} {xa : Option Addr} {xc : Nat} {ya : Option Addr} {yc : Nat} {w w' : World}
    (h : Cx lo1 lo2 K s t x y i k gs gt' ga gb b1 b2 xla xlc lx yla ylc ly rb M xa xc ya yc w) (hb : Below w.heap.size w w') : Cx lo1 lo2 K s t x y i k gs gt' ga gb b1 b2 xla xlc lx yla ylc ly rb M xa xc ya yc w' :=
  ⟨h.hx, h.hy, h.lxl, h.lyl, h.lxm, h.lym, by rw [hb.cell (p := ⟨ga, i, none⟩) (lt_of_cell h.la)]; exact h.la, Ints_below hb h.lai, by rw [hb.cell (p := ⟨gb, k, none⟩) (lt_of_cell h.lb)]; exact h.lb, Ints_below hb h.lbi,
    h.ps.below hb, h.pt.below hb, h.tt.below hb, h.rt, h.bx.below hb, h.bY.below hb, InP_below hb h.yi⟩
/-- Argument m of x: where it lies, and what the table says of it. -/
theorem Cx.argX {lo1 lo2 K : Nat} {s t x y : T} {i k gs gt' ga gb b1 b2 : Nat} {xla : Option Addr} {xlc : Nat} {lx : List Int} {yla : Option Addr} {ylc : Nat} {ly : List Int} {rb : Nat → Nat} {M : Nat → Nat → Bool} {xa : Option Addr} {xc : Nat} {ya : Option Addr} {yc : Nat} {w : World}
    (h : Cx lo1 lo2 K s t x y i k gs gt' ga gb b1 b2 xla xlc lx yla ylc ly rb M xa xc ya yc w) {m : Nat} {c : T} (hc : x.args[m]? = some c) :
    ∃ (j b off : Nat) (ca : Option Addr) (cc : Nat), xla = some ⟨b, off, none⟩ ∧ w.cell? ⟨b, off + m, none⟩ = some (.int .i64 (j : Int)) ∧ j < i ∧ (parts s)[j]? = some c ∧ w.cell? ⟨gs, j * 3, none⟩ = some (.int .i64 c.v) ∧ w.cell? ⟨gs, j * 3 + 1, none⟩ = some (.int .i64 c.f) ∧ w.cell? ⟨gs, j * 3 + 2, none⟩ = some (.slice ca c.args.length cc) ∧ InL w c.args ca ∧
      w.cell? ⟨K, j, none⟩ = some (.slice (some ⟨rb j, 0, none⟩) t.sz t.sz) ∧ (∀ k' z, (parts t)[k']? = some z → k' < t.sz → w.cell? ⟨rb j, k', none⟩ = some (.bool (gt c z))) := by
  obtain ⟨j, hj1, hj2, hj3⟩ := h.lxm m c hc
  have hm : m < lx.length := by
    rcases Nat.lt_or_ge m lx.length with h1 | h1
    · exact h1
    · rw [List.getElem?_eq_none h1] at hj1; cases hj1
  obtain ⟨b, off, e1, hcell⟩ := Ints_some h.lai (by omega)
  obtain ⟨ca, cc, p0, p1, p2, pin⟩ := h.ps.2 j c hj3
  refine ⟨j, b, off, ca, cc, e1, ?_, hj2, hj3, p0, p1, p2, InP_imp (fun _ _ => trivial) pin, h.tt.rows j (by omega), fun k' z hz hk' => ?_⟩
  · have h2 := hcell m hm
    rw [List.getD_eq_getElem?_getD, hj1] at h2
    exact h2
  · rw [h.tt.ent j k' (by omega) hk', h.rt j k' c z hj3 hz (Or.inl hj2)]
/-- Argument m of y. -/
theorem Cx.argY {lo1 lo2 K : Nat} {s t x y : T} {i k gs gt' ga gb b1 b2 : Nat} {xla : Option Addr} {xlc : Nat} {lx : List Int} {yla : Option Addr} {ylc : Nat} {ly : List Int} {rb : Nat → Nat} {M : Nat → Nat → Bool} {xa : Option Addr} {xc : Nat} {ya : Option Addr} {yc : Nat} {w : World}
    (h : Cx lo1 lo2 K s t x y i k gs gt' ga gb b1 b2 xla xlc lx yla ylc ly rb M xa xc ya yc w) {m : Nat} {c : T} (hc : y.args[m]? = some c) (hk : k < t.sz) :
    ∃ (j b off : Nat) (ca : Option Addr) (cc : Nat), yla = some ⟨b, off, none⟩ ∧ w.cell? ⟨b, off + m, none⟩ = some (.int .i64 (j : Int)) ∧ j < k ∧ (parts t)[j]? = some c ∧ w.cell? ⟨gt', j * 3, none⟩ = some (.int .i64 c.v) ∧ w.cell? ⟨gt', j * 3 + 1, none⟩ = some (.int .i64 c.f) ∧ w.cell? ⟨gt', j * 3 + 2, none⟩ = some (.slice ca c.args.length cc) ∧ InL w c.args ca ∧
      w.cell? ⟨K, i, none⟩ = some (.slice (some ⟨rb i, 0, none⟩) t.sz t.sz) ∧ w.cell? ⟨rb i, j, none⟩ = some (.bool (gt x c)) := by
  obtain ⟨j, hj1, hj2, hj3⟩ := h.lym m c hc
  have hm : m < ly.length := by
    rcases Nat.lt_or_ge m ly.length with h1 | h1
    · exact h1
    · rw [List.getElem?_eq_none h1] at hj1; cases hj1
  obtain ⟨b, off, e1, hcell⟩ := Ints_some h.lbi (by omega)
  obtain ⟨ca, cc, p0, p1, p2, pin⟩ := h.pt.2 j c hj3
  refine ⟨j, b, off, ca, cc, e1, ?_, hj2, hj3, p0, p1, p2, InP_imp (fun _ _ => trivial) pin, h.tt.rows i (by omega), ?_⟩
  · have h2 := hcell m hm
    rw [List.getD_eq_getElem?_getD, hj1] at h2
    exact h2
  · rw [h.tt.ent i j (by omega) (by omega), h.rt i j x c h.hx hj3 (Or.inr ⟨rfl, hj2⟩)]

end Go.Proofs.Ytbkedppkdhfpoaa

namespace Go.Proofs.Ytbkedppkdhfpoaa
open Go.RowKit

attribute [local go_sem ↓] Go.wp_at_zero Go.wp_at_succ
def condK (k : Nat) : Code → Option Code
  | .cond (.tmp n) a b => if n = k then some (.cond (.tmp n) a b) else match condK k a with
    | some c => some c
    | none => condK k b
  | .seq a b => match condK k a with
    | some c => some c
    | none => condK k b
  | .block _ c => condK k c
  | .scope c => condK k c
  | .loop c => condK k c
  | _ => none
def blockK (k : Nat) : Code → Option Code
  | .block n c => if n = k then some (.block n c) else blockK k c
  | .cond _ a b => match blockK k a with
    | some c => some c
    | none => blockK k b
  | .seq a b => match blockK k a with
    | some c => some c
    | none => blockK k b
  | .scope c => blockK k c
  | .loop c => blockK k c
  | _ => none
set_option maxRecDepth 100000 in
set_option maxHeartbeats 4000000 in
theorem grefI {lo1 lo2 K : Nat} {s t x y : T} {i k gs gt' ga gb b1 b2 : Nat} {xla : Option Addr} {xlc : Nat} {lx : List Int} {yla : Option Addr} {ylc : Nat} {ly : List Int} {rb : Nat → Nat} {M : Nat → Nat → Bool} {xa : Option Addr} {xc : Nat} {ya : Option Addr} {yc : Nat} {WC : World} {c1 c2 c3 c4 : Nat} {d0 d1 d2 d3 d4 d15 d16 d17 d18 d19 d20 d21 d22 d23 d24 d25 d26 d27 d28 d29 d30 d31 d32 d33 d34 d35 d36 d37 d38 d39 d40 d41 d42 d43 d44 d45 d46 d47 d48 d49 d50 d51 d52 d53 d54 d55 d56 d60 d61 d62 d63 d64 d65 d66 d67 d68 d69 d70 d71 d72 d73 d74 d75 d76 d77 d78 d79 d80 d81 d82 d83 d84 d85 d86 d87 d88 d89 d90 d91 d92 d93 d94 d95 d96 d97 d98 d99 d100 d101 d102 d103 d104 d105 d106 d107 d108 d109 d110 d111 d112 d113 d114 d115 d116 d117 d118 d119 d120 d121 d122 d123 d124 d125 d126 d127 d128 d129 d130 d131 d132 d133 d134 d135 d136 d137 d138 d139 d140 d141 d142 d143 d144 d145 d146 d147 d148 d149 d150 d151 d152 d153 d154 d155 d156 d157 d158 d159 d160 d161 d162 d163 d164 d165 d166 d167 d168 d169 d170 d171 d172 d173 d174 d175 d176 d177 d178 d179 d180 d181 d182 d183 d184 d185 d186 d187 d188 d189 d190 d191 d192 d193 d194 d195 d196 d197 d198 d199 d200 d201 d202 d203 d204 d205 d206 d207 d208 d209 d210 d211 d212 d213 d214 d215 d216 d217 d218 d219 d220 d221 d222 d223 d224 d225 d226 d227 d228 d229 d230 : Value} (HC : Hid (Cx lo1 lo2 K s t x y i k gs gt' ga gb b1 b2 xla xlc lx yla ylc ly rb M xa xc ya yc WC)) (hbd : i < s.sz ∧ k < t.sz ∧ s.sz ≤ 120 ∧ t.sz ≤ 120 ∧ x.sz ≤ s.sz ∧ y.sz ≤ t.sz ∧ lx.length ≤ 120 ∧ ly.length ≤ 120) 
    {Q' : Exit → Act → World → Prop} {J K' : Act → World → Prop} (hJ : ∀ (a' : Act) (w' : World), (∃ u14 u15 u16 u43 u44 u45 u46 u47 u48 u49 u50 u51 u52 u53 u54 u55 u56 u57 u58 u59 u60 u61 u62 u63 u64 u65 u66 u67 u68 u69 u70 u71 u72 u73 u74 u75 u76 u77 u78 u79 u80 u81 u82 u83 u84 u85 u86 u87 u88 u89 u90 u91 u92 u93 u94 u95 u96 u97 u98 u99 u100 u101 u102 u103 u104 u105 u106 u107 u108 u109 u110 u111 u112 u113 u114 u115 u116 u117 u118 u119 u120 u121 u122 u123 u124 u125 u126 u127 u128 u129 u130 u131 u132 u133 u134 u135 u136 u137 u138 u139 u140 u141 u142 u143 u144 u145 u146 u147 u148 u149 u150 u151 u152 u153 u154 u155 u156 u157 u158 u159 u160 u161 u162 u163 u164 u165 u166 u167 u168 u169 u170 u171 u172 u173 u174 u175 u176 u177 u178 u179 u180 u181 u182 u183 u184 u185 u186 u187 u188 u189 u190 u191 u192 u193 u194 u195 u196 u197 u198 u199 u200 u201 u202 u203 u204 u205 u206 u207 u208 u209 u210 u211 u212 u213 u214 u215 u216 u217 u218 u219 : Value, (u14 = .bool (decide (x.v = 0) && x.args.any (fun a => gt a y || sameT a y)) ∧ Hid (Below WC.heap.size WC w')) ∧ a' = ⟨#[d0, d1, d2, d3, d4, (.slice (some ⟨gs, 0, none⟩) s.sz c1), (.slice (some ⟨gt', 0, none⟩) t.sz c2), (.slice (some ⟨ga, 0, none⟩) s.sz c3), (.slice (some ⟨gb, 0, none⟩) t.sz c4), (.slice (some ⟨K, 0, none⟩) s.sz s.sz), (.int .i64 (i : Int)), (.int .i64 (k : Int)), (.pointer (some ⟨b1, 0, none⟩)), (.pointer (some ⟨b2, 0, none⟩)), u14, u15, u16, d17, d18, d19, d20, d21, d22, d23, d24, d25, d26, d27, d28, d29, d30, d31, d32, d33, d34, d35, d36, d37, d38, d39, d40, d41, d42, u43, u44, u45, u46, u47, u48, u49, u50, u51, u52, u53, u54, u55, u56, u57, u58, u59, u60, u61, u62, u63, u64, u65, u66, u67, u68, u69, u70, u71, u72, u73, u74, u75, u76, u77, u78, u79, u80, u81, u82, u83, u84, u85, u86, u87, u88, u89, u90, u91, u92, u93, u94, u95, u96, u97, u98, u99, u100, u101, u102, u103, u104, u105, u106, u107, u108, u109, u110, u111, u112, u113, u114, u115, u116, u117, u118, u119, u120, u121, u122, u123, u124, u125, u126, u127, u128, u129, u130, u131, u132, u133, u134, u135, u136, u137, u138, u139, u140, u141, u142, u143, u144, u145, u146, u147, u148, u149, u150, u151, u152, u153, u154, u155, u156, u157, u158, u159, u160, u161, u162, u163, u164, u165, u166, u167, u168, u169, u170, u171, u172, u173, u174, u175, u176, u177, u178, u179, u180, u181, u182, u183, u184, u185, u186, u187, u188, u189, u190, u191, u192, u193, u194, u195, u196, u197, u198, u199, u200, u201, u202, u203, u204, u205, u206, u207, u208, u209, u210, u211, u212, u213, u214, u215, u216, u217, u218, u219, d220, d221, d222, d223, d224, d225, d226, d227, d228, d229, d230], []⟩) → J a' w') (hK : ∀ (a' : Act) (w' : World), Met J a' w' → K' a' w') :
    Code.wp Try.prog ((Try.f43.body.bind (condK 59)).getD .skip) (Exit.then K' Q') ⟨#[d0, d1, d2, d3, d4, (.slice (some ⟨gs, 0, none⟩) s.sz c1), (.slice (some ⟨gt', 0, none⟩) t.sz c2), (.slice (some ⟨ga, 0, none⟩) s.sz c3), (.slice (some ⟨gb, 0, none⟩) t.sz c4), (.slice (some ⟨K, 0, none⟩) s.sz s.sz), (.int .i64 (i : Int)), (.int .i64 (k : Int)), (.pointer (some ⟨b1, 0, none⟩)), (.pointer (some ⟨b2, 0, none⟩)), (.bool false), d15, d16, d17, d18, d19, d20, d21, d22, d23, d24, d25, d26, d27, d28, d29, d30, d31, d32, d33, d34, d35, d36, d37, d38, d39, d40, d41, d42, d43, d44, d45, d46, d47, d48, d49, d50, d51, d52, d53, d54, d55, d56, (.pointer (some ⟨b1, 0, none⟩)), (.int .i64 x.v), (.bool (x.v == 0)), d60, d61, d62, d63, d64, d65, d66, d67, d68, d69, d70, d71, d72, d73, d74, d75, d76, d77, d78, d79, d80, d81, d82, d83, d84, d85, d86, d87, d88, d89, d90, d91, d92, d93, d94, d95, d96, d97, d98, d99, d100, d101, d102, d103, d104, d105, d106, d107, d108, d109, d110, d111, d112, d113, d114, d115, d116, d117, d118, d119, d120, d121, d122, d123, d124, d125, d126, d127, d128, d129, d130, d131, d132, d133, d134, d135, d136, d137, d138, d139, d140, d141, d142, d143, d144, d145, d146, d147, d148, d149, d150, d151, d152, d153, d154, d155, d156, d157, d158, d159, d160, d161, d162, d163, d164, d165, d166, d167, d168, d169, d170, d171, d172, d173, d174, d175, d176, d177, d178, d179, d180, d181, d182, d183, d184, d185, d186, d187, d188, d189, d190, d191, d192, d193, d194, d195, d196, d197, d198, d199, d200, d201, d202, d203, d204, d205, d206, d207, d208, d209, d210, d211, d212, d213, d214, d215, d216, d217, d218, d219, d220, d221, d222, d223, d224, d225, d226, d227, d228, d229, d230], []⟩ WC := by
  obtain ⟨hlt, hlt2, hs1, ht1, hxs2, hys2, hlx2, hly2⟩ := hbd
  have hiI : (i : Int) < s.sz := by omega
  have hi0 : (0 : Int) ≤ i := by omega
  have hkI : (k : Int) < t.sz := by omega
  have hk0 : (0 : Int) ≤ k := by omega
  have Hlxl := hide HC.out.lxl
  have Hlyl := hide HC.out.lyl
  conv => arg 2; whnf
  by_cases hx0 : x.v = 0
  · have e0 : (x.v == 0) = true := by simpa using hx0
    have Hx0 := hide hx0
    clear hx0
    go_wp2_with fail
    go_loopw [14, 15] (fun v14 v15 wi => ∃ m : Nat, m ≤ lx.length ∧ v15 = .int .i64 m ∧ v14 = .bool ((x.args.take m).any (fun a => gt a y || sameT a y)) ∧ Hid (Below WC.heap.size WC wi)) (fun _ v15 _ => lx.length - (intOf v15).toNat)
    case atStart => exact ⟨0, Nat.zero_le _, rfl, rfl, Below.refl _ _⟩
    case round =>
      obtain ⟨m, hm, rfl, rfl, Hbm⟩ := hrel
      have HCm := hide (HC.out.below Hbm.out)
      have q1 := HCm.out.la
      have hzm := Hbm.out.size
      by_cases hltm : m < lx.length
      · obtain ⟨c, hc⟩ : ∃ c, x.args[m]? = some c := ⟨x.args[m]'(by have := Hlxl.out; omega), List.getElem?_eq_getElem _⟩
        obtain ⟨j, b, off, ca, cc, rfl, q2, hji, hjp, q3, q4, q5, q6, q7, q8⟩ := HCm.out.argX hc
        have q9 := q8 k y HCm.out.hy hlt2
        have hjs : (j : Int) < s.sz := by omega
        have hj0 : (0 : Int) ≤ j := by omega
        have hmI : (m : Int) < lx.length := by omega
        have hm0 : (0 : Int) ≤ m := by omega
        have Hst := hide (any_stepR (p := fun a => gt a y || sameT a y) hc)
        have y0 := HCm.out.bY.c0
        have y1 := HCm.out.bY.c1
        have y2 := HCm.out.bY.c2
        have hcs : c.sz ≤ 120 := by have := T.szL_mem (List.mem_of_getElem? hc); have := T.sz_eq x; omega
        have Hsm := hide (fun (w' : World) (hb : Below wr.heap.size wr w') => sameTerm_any 121 c y ca cc ya yc w' (by omega) (by omega) (InP_below hb q6) (InP_below hb HCm.out.yi))
        clear q8 hc q6 HC HCm hjp
        rcases Bool.eq_false_or_eq_true ((x.args.take m).any (fun a => gt a y || sameT a y)) with hA | hA
        · rw [hA]
          rw [hA, Bool.true_or] at Hst
          clear hA
          go_wp2_with fail
          go_quiet (fail)
          go_wp2_with fail
          go_roundw
          case rel => exact ⟨m + 1, by omega, by go_num, by rw [Hst.out], Hbm.out.trans ⟨rfl, rfl, rfl, Nat.le_refl _, fun _ _ => rfl⟩⟩
          case measure => simp [intOf]; omega
        · rw [hA]
          rw [hA, Bool.false_or] at Hst
          clear hA
          rcases Bool.eq_false_or_eq_true (gt c y) with hB | hB
          · rw [hB] at q9
            rw [hB, Bool.true_or] at Hst
            clear hB
            go_wp2_with fail
            go_quiet (fail)
            go_wp2_with fail
            go_roundw
            case rel => exact ⟨m + 1, by omega, by go_num, by rw [Hst.out], Hbm.out.trans ⟨rfl, rfl, rfl, Nat.le_refl _, fun _ _ => rfl⟩⟩
            case measure => simp [intOf]; omega
          · rw [hB] at q9
            rw [hB, Bool.false_or] at Hst
            clear hB
            go_wp2_with fail
            have hS := hide (fun (w' : World) (hb : Below wr.heap.size wr w') => (show w'.cell? ⟨K, j, none⟩ = some (.slice (some ⟨rb j, 0, none⟩) t.sz t.sz) ∧ w'.cell? ⟨rb j, k, none⟩ = some (.bool false) ∧ w'.cell? ⟨gs, j * 3, none⟩ = some (.int .i64 c.v) ∧ w'.cell? ⟨gs, j * 3 + 1, none⟩ = some (.int .i64 c.f) ∧ w'.cell? ⟨gs, j * 3 + 2, none⟩ = some (.slice ca c.args.length cc) ∧ w'.cell? ⟨b2, 0, none⟩ = some (.int .i64 y.v) ∧ w'.cell? ⟨b2, 1, none⟩ = some (.int .i64 y.f) ∧ w'.cell? ⟨b2, 2, none⟩ = some (.slice ya y.args.length yc) from ⟨cell_below hb q7, cell_below hb q9, cell_below hb q3, cell_below hb q4, cell_below hb q5, cell_below hb y0, cell_below hb y1, cell_below hb y2⟩))
            go_region_held3 (fun w' => w'.cell? ⟨K, j, none⟩ = some (.slice (some ⟨rb j, 0, none⟩) t.sz t.sz) ∧ w'.cell? ⟨rb j, k, none⟩ = some (.bool false) ∧ w'.cell? ⟨gs, j * 3, none⟩ = some (.int .i64 c.v) ∧ w'.cell? ⟨gs, j * 3 + 1, none⟩ = some (.int .i64 c.f) ∧ w'.cell? ⟨gs, j * 3 + 2, none⟩ = some (.slice ca c.args.length cc) ∧ w'.cell? ⟨b2, 0, none⟩ = some (.int .i64 y.v) ∧ w'.cell? ⟨b2, 1, none⟩ = some (.int .i64 y.f) ∧ w'.cell? ⟨b2, 2, none⟩ = some (.slice ya y.args.length yc)) ((first | (refine hS.out _ ?_; (repeat' (first | with_reducible exact Hid.out ‹Hid (Below _ _ _)› | with_reducible exact Below.refl _ _ | (with_reducible refine Below.drew ?_))); done) | go_keep)) ((first
              | (go_at_call 28
                 with_reducible refine (Hsm.out _ ?_).mono ?_
                 · (repeat' (first | with_reducible exact Hid.out ‹Hid (Below _ _ _)› | with_reducible exact Below.refl _ _ | (with_reducible refine Below.drew ?_)))
                 rintro e xA ⟨rfl, hbA⟩
                 have HxA : Hid (Below wr.heap.size wr xA) := by
                   refine Below.trans (b := _) ?_ (hbA.mono ?_)
                   · (repeat' (first | with_reducible exact Hid.out ‹Hid (Below _ _ _)› | with_reducible exact Below.refl _ _ | (with_reducible refine Below.drew ?_)))
                   · first | omega | (simp; omega) | (simp; done))))
            all_goals (go_wp2_with fail; go_roundw)
            case rel => exact ⟨m + 1, by omega, by go_num, by rw [Hst.out], Hbm.out.trans (HxA.out.mono hzm)⟩
            case measure => simp [intOf]; omega
      · have hm2 : m = lx.length := by omega
        subst hm2
        have Hfin : Hid (x.args.take lx.length = x.args) := List.take_of_length_le (by rw [Hlxl.out]; exact Nat.le_refl _)
        rw [Hfin.out]
        go_wp2_with fail
        go_meet
        exact ⟨by rw [decide_eq_true Hx0.out, Bool.true_and], Hbm.out⟩
  · have e0 : (x.v == 0) = false := by simpa using hx0
    have Hx0 := hide hx0
    clear hx0
    go_wp2_with fail
    go_meet
    exact ⟨by rw [decide_eq_false Hx0.out, Bool.false_and], Below.refl _ _⟩

set_option maxRecDepth 100000 in
set_option maxHeartbeats 4000000 in
theorem grefL {lo1 lo2 K : Nat} {s t x y : T} {i k gs gt' ga gb b1 b2 : Nat} {xla : Option Addr} {xlc : Nat} {lx : List Int} {yla : Option Addr} {ylc : Nat} {ly : List Int} {rb : Nat → Nat} {M : Nat → Nat → Bool} {xa : Option Addr} {xc : Nat} {ya : Option Addr} {yc : Nat} {WC : World} {c1 c2 c3 c4 : Nat} {d0 d1 d2 d3 d4 d14 d15 d16 d19 d20 d21 d22 d23 d24 d25 d26 d27 d28 d29 d30 d31 d32 d33 d34 d35 d36 d37 d38 d39 d40 d41 d42 d43 d44 d45 d46 d47 d48 d49 d50 d51 d52 d53 d54 d55 d56 d57 d58 d59 d60 d61 d62 d63 d64 d65 d66 d67 d68 d69 d70 d71 d72 d73 d74 d75 d76 d77 d78 d79 d80 d81 d82 d83 d84 d85 d86 d87 d88 d89 d90 d91 d92 d93 d94 d95 d96 d97 d98 d99 d100 d101 d102 d103 d104 d105 d106 d107 d108 d109 d110 d111 d112 d113 d114 d115 d116 d117 d118 d119 d120 d121 d122 d123 d124 d125 d126 d127 d128 d129 d130 d131 d132 d133 d134 d135 d136 d137 d138 d139 d140 d141 d142 d143 d144 d145 d146 d147 d148 d149 d150 d151 d152 d153 d154 d155 d156 d157 d158 d159 d160 d161 d162 d163 d164 d165 d166 d167 d168 d169 d170 d171 d172 d173 d174 d175 d176 d177 d178 d179 d180 d181 d182 d183 d184 d185 d186 d187 d188 d189 d190 d191 d192 d193 d194 d195 d196 d197 d198 d199 d200 d201 d202 d203 d204 d205 d206 d207 d208 d209 d210 d211 d212 d213 d214 d215 d216 d217 d218 d219 d220 d221 d222 d223 d224 d225 d226 d227 d228 d229 d230 : Value} (HC : Hid (Cx lo1 lo2 K s t x y i k gs gt' ga gb b1 b2 xla xlc lx yla ylc ly rb M xa xc ya yc WC)) (hbd : i < s.sz ∧ k < t.sz ∧ s.sz ≤ 120 ∧ t.sz ≤ 120 ∧ x.sz ≤ s.sz ∧ y.sz ≤ t.sz ∧ lx.length ≤ 120 ∧ ly.length ≤ 120) {A0 : Bool}
    {Q' : Exit → Act → World → Prop} {J K' : Act → World → Prop} (hJ : ∀ (a' : Act) (w' : World), (∃ u17 u18 u109 u110 u111 u112 u113 u114 u115 u116 u117 u118 u119 u120 u121 u122 u123 u124 u125 u126 u127 u128 u129 u130 u131 u132 u133 : Value, (u17 = .bool (A0 && y.args.all (fun c => gt x c)) ∧ Hid (Below WC.heap.size WC w')) ∧ a' = ⟨#[d0, d1, d2, d3, d4, (.slice (some ⟨gs, 0, none⟩) s.sz c1), (.slice (some ⟨gt', 0, none⟩) t.sz c2), (.slice (some ⟨ga, 0, none⟩) s.sz c3), (.slice (some ⟨gb, 0, none⟩) t.sz c4), (.slice (some ⟨K, 0, none⟩) s.sz s.sz), (.int .i64 (i : Int)), (.int .i64 (k : Int)), (.pointer (some ⟨b1, 0, none⟩)), (.pointer (some ⟨b2, 0, none⟩)), d14, d15, d16, u17, u18, d19, d20, d21, d22, d23, d24, d25, d26, d27, d28, d29, d30, d31, d32, d33, d34, d35, d36, d37, d38, d39, d40, d41, d42, d43, d44, d45, d46, d47, d48, d49, d50, d51, d52, d53, d54, d55, d56, d57, d58, d59, d60, d61, d62, d63, d64, d65, d66, d67, d68, d69, d70, d71, d72, d73, d74, d75, d76, d77, d78, d79, d80, d81, d82, d83, d84, d85, d86, d87, d88, d89, d90, d91, d92, d93, d94, d95, d96, d97, d98, d99, d100, d101, d102, d103, d104, d105, d106, d107, d108, u109, u110, u111, u112, u113, u114, u115, u116, u117, u118, u119, u120, u121, u122, u123, u124, u125, u126, u127, u128, u129, u130, u131, u132, u133, d134, d135, d136, d137, d138, d139, d140, d141, d142, d143, d144, d145, d146, d147, d148, d149, d150, d151, d152, d153, d154, d155, d156, d157, d158, d159, d160, d161, d162, d163, d164, d165, d166, d167, d168, d169, d170, d171, d172, d173, d174, d175, d176, d177, d178, d179, d180, d181, d182, d183, d184, d185, d186, d187, d188, d189, d190, d191, d192, d193, d194, d195, d196, d197, d198, d199, d200, d201, d202, d203, d204, d205, d206, d207, d208, d209, d210, d211, d212, d213, d214, d215, d216, d217, d218, d219, d220, d221, d222, d223, d224, d225, d226, d227, d228, d229, d230], []⟩) → J a' w') (hK : ∀ (a' : Act) (w' : World), Met J a' w' → K' a' w') :
    Code.wp Try.prog ((Try.f43.body.bind (blockK 6)).getD .skip) (Exit.then K' Q') ⟨#[d0, d1, d2, d3, d4, (.slice (some ⟨gs, 0, none⟩) s.sz c1), (.slice (some ⟨gt', 0, none⟩) t.sz c2), (.slice (some ⟨ga, 0, none⟩) s.sz c3), (.slice (some ⟨gb, 0, none⟩) t.sz c4), (.slice (some ⟨K, 0, none⟩) s.sz s.sz), (.int .i64 (i : Int)), (.int .i64 (k : Int)), (.pointer (some ⟨b1, 0, none⟩)), (.pointer (some ⟨b2, 0, none⟩)), d14, d15, d16, (.bool A0), (.int .i64 0), d19, d20, d21, d22, d23, d24, d25, d26, d27, d28, d29, d30, d31, d32, d33, d34, d35, d36, d37, d38, d39, d40, d41, d42, d43, d44, d45, d46, d47, d48, d49, d50, d51, d52, d53, d54, d55, d56, d57, d58, d59, d60, d61, d62, d63, d64, d65, d66, d67, d68, d69, d70, d71, d72, d73, d74, d75, d76, d77, d78, d79, d80, d81, d82, d83, d84, d85, d86, d87, d88, d89, d90, d91, d92, d93, d94, d95, d96, d97, d98, d99, d100, d101, d102, d103, d104, d105, d106, d107, d108, d109, d110, d111, d112, d113, d114, d115, d116, d117, d118, d119, d120, d121, d122, d123, d124, d125, d126, d127, d128, d129, d130, d131, d132, d133, d134, d135, d136, d137, d138, d139, d140, d141, d142, d143, d144, d145, d146, d147, d148, d149, d150, d151, d152, d153, d154, d155, d156, d157, d158, d159, d160, d161, d162, d163, d164, d165, d166, d167, d168, d169, d170, d171, d172, d173, d174, d175, d176, d177, d178, d179, d180, d181, d182, d183, d184, d185, d186, d187, d188, d189, d190, d191, d192, d193, d194, d195, d196, d197, d198, d199, d200, d201, d202, d203, d204, d205, d206, d207, d208, d209, d210, d211, d212, d213, d214, d215, d216, d217, d218, d219, d220, d221, d222, d223, d224, d225, d226, d227, d228, d229, d230], []⟩ WC := by
  obtain ⟨hlt, hlt2, hs1, ht1, hxs2, hys2, hlx2, hly2⟩ := hbd
  have hiI : (i : Int) < s.sz := by omega
  have hi0 : (0 : Int) ≤ i := by omega
  have hkI : (k : Int) < t.sz := by omega
  have hk0 : (0 : Int) ≤ k := by omega
  have Hlxl := hide HC.out.lxl
  have Hlyl := hide HC.out.lyl
  conv => arg 2; whnf
  go_wp2_with fail
  go_loopw [17, 18] (fun v17 v18 wi => ∃ m : Nat, m ≤ ly.length ∧ v18 = .int .i64 m ∧ v17 = .bool (A0 && (y.args.take m).all (fun c => gt x c)) ∧ Hid (Below WC.heap.size WC wi)) (fun _ v18 _ => ly.length - (intOf v18).toNat)
  case atStart => exact ⟨0, Nat.zero_le _, rfl, by simp, Below.refl _ _⟩
  case round =>
    obtain ⟨m, hm, rfl, rfl, Hbm⟩ := hrel
    have HCm := hide (HC.out.below Hbm.out)
    have q1 := HCm.out.lb
    have hzm := Hbm.out.size
    by_cases hltm : m < ly.length
    · obtain ⟨c, hc⟩ : ∃ c, y.args[m]? = some c := ⟨y.args[m]'(by have := Hlyl.out; omega), List.getElem?_eq_getElem _⟩
      obtain ⟨j, b, off, ca, cc, rfl, q2, hjk, hjp, _, _, _, _, q7, q9⟩ := HCm.out.argY hc hlt2
      have hjs : (j : Int) < t.sz := by omega
      have hj0 : (0 : Int) ≤ j := by omega
      have hmI : (m : Int) < ly.length := by omega
      have hm0 : (0 : Int) ≤ m := by omega
      have Hst := hide (all_step (p := fun c => gt x c) hc)
      have Hst2 : Hid ((A0 && (y.args.take (m + 1)).all (fun c => gt x c)) = ((A0 && (y.args.take m).all (fun c => gt x c)) && gt x c)) := by show _ = _; rw [Hst.out, Bool.and_assoc]
      clear hc Hst HC HCm hjp
      rcases Bool.eq_false_or_eq_true (A0 && (y.args.take m).all (fun c => gt x c)) with hA | hA
      · rw [hA]
        rw [hA, Bool.true_and] at Hst2
        clear hA
        go_wp2_with fail
        go_quiet (fail)
        go_wp2_with fail
        go_roundw
        case rel => exact ⟨m + 1, by omega, by go_num, by rw [Hst2.out], Hbm.out.trans ⟨rfl, rfl, rfl, Nat.le_refl _, fun _ _ => rfl⟩⟩
        case measure => simp [intOf]; omega
      · rw [hA]
        rw [hA, Bool.false_and] at Hst2
        clear hA
        go_wp2_with fail
        go_quiet (fail)
        go_wp2_with fail
        go_roundw
        case rel => exact ⟨m + 1, by omega, by go_num, by rw [Hst2.out], Hbm.out.trans ⟨rfl, rfl, rfl, Nat.le_refl _, fun _ _ => rfl⟩⟩
        case measure => simp [intOf]; omega
    · have hm2 : m = ly.length := by omega
      subst hm2
      have Hfin : Hid (y.args.take ly.length = y.args) := List.take_of_length_le (by rw [Hlyl.out]; exact Nat.le_refl _)
      rw [Hfin.out]
      go_wp2_with fail
      go_meet
      exact ⟨rfl, Hbm.out⟩

end Go.Proofs.Ytbkedppkdhfpoaa

namespace Go.Proofs.Ytbkedppkdhfpoaa
open Go.RowKit

attribute [local go_sem ↓] Go.wp_at_zero Go.wp_at_succ
set_option maxRecDepth 100000 in
set_option maxHeartbeats 4000000 in
theorem grefE {lo1 lo2 K : Nat} {s t x y : T} {i k gs gt' ga gb b1 b2 : Nat} {xla : Option Addr} {xlc : Nat} {lx : List Int} {yla : Option Addr} {ylc : Nat} {ly : List Int} {rb : Nat → Nat} {M : Nat → Nat → Bool} {xa : Option Addr} {xc : Nat} {ya : Option Addr} {yc : Nat} {WC : World} {c1 c2 c3 c4 : Nat} {d0 d1 d2 d3 d4 d15 d16 d17 d18 d19 d20 d21 d22 d23 d24 d25 d26 d27 d28 d29 d30 d31 d32 d33 d34 d35 d36 d37 d38 d39 d40 d41 d42 d43 d44 d45 d46 d47 d48 d49 d50 d51 d52 d53 d54 d55 d56 d57 d58 d59 d60 d61 d62 d63 d64 d65 d66 d67 d68 d69 d70 d71 d72 d73 d74 d75 d76 d77 d78 d79 d80 d81 d82 d83 d84 d85 d86 d87 d88 d89 d90 d91 d92 d93 d94 d95 d96 d97 d98 d99 d100 d101 d102 d103 d104 d105 d106 d107 d108 d109 d110 d111 d112 d113 d114 d115 d116 d117 d118 d119 d120 d121 d122 d123 d124 d125 d126 d127 d128 d129 d130 d131 d132 d133 d134 d135 d136 d137 d138 d139 d140 d141 d142 d143 d144 d145 d146 d147 d148 d150 d151 d152 d153 d154 d155 d156 d157 d158 d159 d160 d161 d162 d163 d164 d165 d166 d167 d168 d169 d170 d171 d172 d173 d174 d175 d176 d177 d178 d179 d180 d181 d182 d183 d184 d185 d186 d187 d188 d189 d190 d191 d192 d193 d194 d195 d196 d197 d198 d199 d200 d201 d202 d203 d204 d205 d206 d207 d208 d209 d210 d211 d212 d213 d214 d215 d216 d217 d218 d219 d220 d221 d222 d223 d224 d225 d226 d227 d228 d229 d230 : Value} (HC : Hid (Cx lo1 lo2 K s t x y i k gs gt' ga gb b1 b2 xla xlc lx yla ylc ly rb M xa xc ya yc WC)) (hbd : i < s.sz ∧ k < t.sz ∧ s.sz ≤ 120 ∧ t.sz ≤ 120 ∧ x.sz ≤ s.sz ∧ y.sz ≤ t.sz ∧ lx.length ≤ 120 ∧ ly.length ≤ 120) {Y2 B1 : Bool} (HB : Hid (B1 = true → x.args.length = y.args.length))
    {Q' : Exit → Act → World → Prop} {J K' : Act → World → Prop} (hJ : ∀ (a' : Act) (w' : World), (∃ u14 u19 u43 u44 u45 u46 u47 u48 u49 u50 u51 u52 u53 u54 u55 u56 u57 u58 u59 u60 u61 u62 u63 u64 u65 u66 u67 u68 u69 u70 u71 u72 u73 u74 u75 u76 u77 u78 u79 u80 u81 u82 u83 u84 u85 u86 u87 u88 u89 u90 u91 u92 u93 u94 u95 u96 u97 u98 u99 u100 u101 u102 u103 u104 u105 u106 u107 u108 u109 u110 u111 u112 u113 u114 u115 u116 u117 u118 u119 u120 u121 u122 u123 u124 u125 u126 u127 u128 u129 u130 u131 u132 u133 u134 u135 u136 u137 u138 u139 u140 u141 u142 u143 u144 u145 u146 u147 u148 u149 u150 u151 u152 u153 u154 u155 u156 u157 u158 u159 u160 u161 u162 u163 u164 u165 u166 u167 u168 u169 u170 u171 u172 u173 u174 u175 u176 u177 u178 u179 u180 u181 u182 u183 u184 u185 u186 u187 u188 u189 u190 u191 u192 u193 u194 u195 u196 u197 u198 u199 u200 u201 u202 u203 u204 u205 u206 u207 u208 u209 u210 u211 u212 u213 u214 u215 u216 u217 u218 u219 : Value, (u14 = .bool (Y2 || (B1 && firstN gt x.args y.args)) ∧ Hid (Below WC.heap.size WC w')) ∧ a' = ⟨#[d0, d1, d2, d3, d4, (.slice (some ⟨gs, 0, none⟩) s.sz c1), (.slice (some ⟨gt', 0, none⟩) t.sz c2), (.slice (some ⟨ga, 0, none⟩) s.sz c3), (.slice (some ⟨gb, 0, none⟩) t.sz c4), (.slice (some ⟨K, 0, none⟩) s.sz s.sz), (.int .i64 (i : Int)), (.int .i64 (k : Int)), (.pointer (some ⟨b1, 0, none⟩)), (.pointer (some ⟨b2, 0, none⟩)), u14, d15, d16, d17, d18, u19, d20, d21, d22, d23, d24, d25, d26, d27, d28, d29, d30, d31, d32, d33, d34, d35, d36, d37, d38, d39, d40, d41, d42, u43, u44, u45, u46, u47, u48, u49, u50, u51, u52, u53, u54, u55, u56, u57, u58, u59, u60, u61, u62, u63, u64, u65, u66, u67, u68, u69, u70, u71, u72, u73, u74, u75, u76, u77, u78, u79, u80, u81, u82, u83, u84, u85, u86, u87, u88, u89, u90, u91, u92, u93, u94, u95, u96, u97, u98, u99, u100, u101, u102, u103, u104, u105, u106, u107, u108, u109, u110, u111, u112, u113, u114, u115, u116, u117, u118, u119, u120, u121, u122, u123, u124, u125, u126, u127, u128, u129, u130, u131, u132, u133, u134, u135, u136, u137, u138, u139, u140, u141, u142, u143, u144, u145, u146, u147, u148, u149, u150, u151, u152, u153, u154, u155, u156, u157, u158, u159, u160, u161, u162, u163, u164, u165, u166, u167, u168, u169, u170, u171, u172, u173, u174, u175, u176, u177, u178, u179, u180, u181, u182, u183, u184, u185, u186, u187, u188, u189, u190, u191, u192, u193, u194, u195, u196, u197, u198, u199, u200, u201, u202, u203, u204, u205, u206, u207, u208, u209, u210, u211, u212, u213, u214, u215, u216, u217, u218, u219, d220, d221, d222, d223, d224, d225, d226, d227, d228, d229, d230], []⟩) → J a' w') (hK : ∀ (a' : Act) (w' : World), Met J a' w' → K' a' w') :
    Code.wp Try.prog ((Try.f43.body.bind (condK 149)).getD .skip) (Exit.then K' Q') ⟨#[d0, d1, d2, d3, d4, (.slice (some ⟨gs, 0, none⟩) s.sz c1), (.slice (some ⟨gt', 0, none⟩) t.sz c2), (.slice (some ⟨ga, 0, none⟩) s.sz c3), (.slice (some ⟨gb, 0, none⟩) t.sz c4), (.slice (some ⟨K, 0, none⟩) s.sz s.sz), (.int .i64 (i : Int)), (.int .i64 (k : Int)), (.pointer (some ⟨b1, 0, none⟩)), (.pointer (some ⟨b2, 0, none⟩)), (.bool Y2), d15, d16, d17, d18, d19, d20, d21, d22, d23, d24, d25, d26, d27, d28, d29, d30, d31, d32, d33, d34, d35, d36, d37, d38, d39, d40, d41, d42, d43, d44, d45, d46, d47, d48, d49, d50, d51, d52, d53, d54, d55, d56, d57, d58, d59, d60, d61, d62, d63, d64, d65, d66, d67, d68, d69, d70, d71, d72, d73, d74, d75, d76, d77, d78, d79, d80, d81, d82, d83, d84, d85, d86, d87, d88, d89, d90, d91, d92, d93, d94, d95, d96, d97, d98, d99, d100, d101, d102, d103, d104, d105, d106, d107, d108, d109, d110, d111, d112, d113, d114, d115, d116, d117, d118, d119, d120, d121, d122, d123, d124, d125, d126, d127, d128, d129, d130, d131, d132, d133, d134, d135, d136, d137, d138, d139, d140, d141, d142, d143, d144, d145, d146, d147, d148, (.bool B1), d150, d151, d152, d153, d154, d155, d156, d157, d158, d159, d160, d161, d162, d163, d164, d165, d166, d167, d168, d169, d170, d171, d172, d173, d174, d175, d176, d177, d178, d179, d180, d181, d182, d183, d184, d185, d186, d187, d188, d189, d190, d191, d192, d193, d194, d195, d196, d197, d198, d199, d200, d201, d202, d203, d204, d205, d206, d207, d208, d209, d210, d211, d212, d213, d214, d215, d216, d217, d218, d219, d220, d221, d222, d223, d224, d225, d226, d227, d228, d229, d230], []⟩ WC := by
  obtain ⟨hlt, hlt2, hs1, ht1, hxs2, hys2, hlx2, hly2⟩ := hbd
  have hiI : (i : Int) < s.sz := by omega
  have hi0 : (0 : Int) ≤ i := by omega
  have hkI : (k : Int) < t.sz := by omega
  have hk0 : (0 : Int) ≤ k := by omega
  have Hlxl := hide HC.out.lxl
  have Hlyl := hide HC.out.lyl
  conv => arg 2; whnf
  rcases Bool.eq_false_or_eq_true B1 with hB | hB
  · subst hB
    have hxy := HB.out rfl
    have Hxy := hide hxy
    clear hxy HB
    go_wp2_with fail
    go_loopw [19] (fun v19 wi => ∃ m : Nat, m ≤ lx.length ∧ v19 = .int .i64 m ∧ Hid (firstN gt x.args y.args = firstN gt (x.args.drop m) (y.args.drop m)) ∧ Hid (Below WC.heap.size WC wi)) (fun v19 _ => lx.length - (intOf v19).toNat)
    case atStart => exact ⟨0, Nat.zero_le _, rfl, rfl, Below.refl _ _⟩
    case round =>
      obtain ⟨m, hm, rfl, HF, Hbm⟩ := hrel
      have HCm := hide (HC.out.below Hbm.out)
      have q1 := HCm.out.la
      have r1 := HCm.out.lb
      have hzm := Hbm.out.size
      by_cases hltm : m < lx.length
      · obtain ⟨c, hc⟩ : ∃ c, x.args[m]? = some c := ⟨x.args[m]'(by have := Hlxl.out; omega), List.getElem?_eq_getElem _⟩
        obtain ⟨d, hd⟩ : ∃ d, y.args[m]? = some d := ⟨y.args[m]'(by have := Hlxl.out; have := Hxy.out; omega), List.getElem?_eq_getElem _⟩
        obtain ⟨j, b, off, ca, cc, rfl, q2, hji, hjp, q3, q4, q5, q6, q7, q8⟩ := HCm.out.argX hc
        obtain ⟨j2, b', off', da, dc, rfl, r2, hjk, hjq, r3, r4, r5, r6, _, _⟩ := HCm.out.argY hd hlt2
        have q9 := q8 j2 d hjq (by omega)
        have hjs : (j : Int) < s.sz := by omega
        have hj0 : (0 : Int) ≤ j := by omega
        have hjt : (j2 : Int) < t.sz := by omega
        have hj20 : (0 : Int) ≤ j2 := by omega
        have hmI : (m : Int) < lx.length := by omega
        have hmJ : (m : Int) < ly.length := by have := Hlxl.out; have := Hlyl.out; have := Hxy.out; omega
        have hm0 : (0 : Int) ≤ m := by omega
        have Hst := hide (HF.out.trans (firstN_drop hc hd))
        have hcs : c.sz ≤ 120 := by have := T.szL_mem (List.mem_of_getElem? hc); have := T.sz_eq x; omega
        have Hsm := hide (fun (w' : World) (hb : Below wr.heap.size wr w') => sameTerm_any 121 c d ca cc da dc w' (by omega) (by omega) (InP_below hb q6) (InP_below hb r6))
        have Hq := hide (fun (w' : World) (hb : Below wr.heap.size wr w') => (show w'.cell? ⟨ga, i, none⟩ = some (.slice (some ⟨b, off, none⟩) lx.length xlc) ∧ w'.cell? ⟨b, off + m, none⟩ = some (.int .i64 (j : Int)) ∧ w'.cell? ⟨gb, k, none⟩ = some (.slice (some ⟨b', off', none⟩) ly.length ylc) ∧ w'.cell? ⟨b', off' + m, none⟩ = some (.int .i64 (j2 : Int)) ∧ w'.cell? ⟨K, j, none⟩ = some (.slice (some ⟨rb j, 0, none⟩) t.sz t.sz) ∧ w'.cell? ⟨rb j, j2, none⟩ = some (.bool (gt c d)) from ⟨cell_below hb q1, cell_below hb q2, cell_below hb r1, cell_below hb r2, cell_below hb q7, cell_below hb q9⟩))
        clear q8 hc hd q6 r6 HC HCm hjp hjq HF q7 q9
        have hd1 : decide ((m : Int) < lx.length) = true := decide_eq_true hmI
        go_wp2_with fail
        have hS := hide (fun (w' : World) (hb : Below wr.heap.size wr w') => (show w'.cell? ⟨ga, i, none⟩ = some (.slice (some ⟨b, off, none⟩) lx.length xlc) ∧ w'.cell? ⟨b, off + m, none⟩ = some (.int .i64 (j : Int)) ∧ w'.cell? ⟨gb, k, none⟩ = some (.slice (some ⟨b', off', none⟩) ly.length ylc) ∧ w'.cell? ⟨b', off' + m, none⟩ = some (.int .i64 (j2 : Int)) ∧ w'.cell? ⟨gs, j * 3, none⟩ = some (.int .i64 c.v) ∧ w'.cell? ⟨gs, j * 3 + 1, none⟩ = some (.int .i64 c.f) ∧ w'.cell? ⟨gs, j * 3 + 2, none⟩ = some (.slice ca c.args.length cc) ∧ w'.cell? ⟨gt', j2 * 3, none⟩ = some (.int .i64 d.v) ∧ w'.cell? ⟨gt', j2 * 3 + 1, none⟩ = some (.int .i64 d.f) ∧ w'.cell? ⟨gt', j2 * 3 + 2, none⟩ = some (.slice da d.args.length dc) from ⟨cell_below hb q1, cell_below hb q2, cell_below hb r1, cell_below hb r2, cell_below hb q3, cell_below hb q4, cell_below hb q5, cell_below hb r3, cell_below hb r4, cell_below hb r5⟩))
        go_region_held3 (fun w' => w'.cell? ⟨ga, i, none⟩ = some (.slice (some ⟨b, off, none⟩) lx.length xlc) ∧ w'.cell? ⟨b, off + m, none⟩ = some (.int .i64 (j : Int)) ∧ w'.cell? ⟨gb, k, none⟩ = some (.slice (some ⟨b', off', none⟩) ly.length ylc) ∧ w'.cell? ⟨b', off' + m, none⟩ = some (.int .i64 (j2 : Int)) ∧ w'.cell? ⟨gs, j * 3, none⟩ = some (.int .i64 c.v) ∧ w'.cell? ⟨gs, j * 3 + 1, none⟩ = some (.int .i64 c.f) ∧ w'.cell? ⟨gs, j * 3 + 2, none⟩ = some (.slice ca c.args.length cc) ∧ w'.cell? ⟨gt', j2 * 3, none⟩ = some (.int .i64 d.v) ∧ w'.cell? ⟨gt', j2 * 3 + 1, none⟩ = some (.int .i64 d.f) ∧ w'.cell? ⟨gt', j2 * 3 + 2, none⟩ = some (.slice da d.args.length dc)) ((first | (refine hS.out _ ?_; (repeat' (first | with_reducible exact Hid.out ‹Hid (Below _ _ _)› | with_reducible exact Below.refl _ _ | (with_reducible refine Below.drew ?_))); done) | go_keep)) ((first
          | (go_at_call 28
             with_reducible refine (Hsm.out _ ?_).mono ?_
             · (repeat' (first | with_reducible exact Hid.out ‹Hid (Below _ _ _)› | with_reducible exact Below.refl _ _ | (with_reducible refine Below.drew ?_)))
             rintro e xA ⟨rfl, hbA⟩
             have HxA : Hid (Below wr.heap.size wr xA) := by
               refine Below.trans (b := _) ?_ (hbA.mono ?_)
               · (repeat' (first | with_reducible exact Hid.out ‹Hid (Below _ _ _)› | with_reducible exact Below.refl _ _ | (with_reducible refine Below.drew ?_)))
               · first | omega | (simp; omega) | (simp; done))))
        all_goals (
          rcases Bool.eq_false_or_eq_true (sameT c d) with hA | hA
          · rw [hA]
            rw [hA, if_pos rfl] at Hst
            clear hA
            go_wp2_with fail
            go_roundw
            case rel => exact ⟨m + 1, by omega, by go_num, Hst.out, Hbm.out.trans (HxA.out.mono hzm)⟩
            case measure => simp [intOf]; omega
          · rw [hA]
            rw [hA, if_neg (by simp)] at Hst
            obtain ⟨z1, z2, z3, z4, z5, z6⟩ := Hq.out _ HxA.out
            clear hA q1 q2 r1 r2 q3 q4 q5 r3 r4 r5
            rcases Bool.eq_false_or_eq_true Y2 with hY | hY
            · subst hY
              go_wp2_with fail
              go_quiet (fail)
              go_wp2_with fail
              go_meet
              exact ⟨by simp, Hbm.out.trans ((HxA.out.trans (drewB _ _ _)).mono hzm)⟩
            · subst hY
              go_wp2_with fail
              go_quiet (fail)
              go_wp2_with fail
              go_meet
              exact ⟨by rw [Hst.out]; simp, Hbm.out.trans ((HxA.out.trans (drewB _ _ _)).mono hzm)⟩)
      · have hm2 : m = lx.length := by omega
        subst hm2
        have Hfin : Hid (firstN gt x.args y.args = false) := by
          have h1 : x.args.drop lx.length = [] := List.drop_eq_nil_of_le (by rw [Hlxl.out]; exact Nat.le_refl _)
          show _ = _
          rw [HF.out, h1]; rfl
        have hd1 : decide ((lx.length : Int) < lx.length) = false := by simp
        clear HF HC
        go_wp2_with fail
        go_quiet (fail)
        go_wp2_with fail
        rcases Bool.eq_false_or_eq_true Y2 with hY | hY
        · subst hY
          go_wp2_with fail
          go_quiet (fail)
          go_wp2_with fail
          go_meet
          exact ⟨by simp, Hbm.out.trans ⟨rfl, rfl, rfl, Nat.le_refl _, fun _ _ => rfl⟩⟩
        · subst hY
          go_wp2_with fail
          go_quiet (fail)
          go_wp2_with fail
          go_meet
          exact ⟨by rw [Hfin.out]; simp, Hbm.out.trans ⟨rfl, rfl, rfl, Nat.le_refl _, fun _ _ => rfl⟩⟩
  · subst hB
    clear HB
    go_wp2_with fail
    go_meet
    exact ⟨by simp, Below.refl _ _⟩

end Go.Proofs.Ytbkedppkdhfpoaa
