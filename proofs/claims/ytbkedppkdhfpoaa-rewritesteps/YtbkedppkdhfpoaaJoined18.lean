/- The document's own order, in pieces: of one part's arguments, is one greater than the other part, or the same? Is one part greater than all arguments of the other one? The document's own order: two of one function: of the first arguments that are not the same, is that of the first one greater? The document's own order: the walk. -/
import Derived.BigQuiet
import Derived.Deep.CutBlock
import Derived.Deep.DeepCutAuto
import Derived.Deep.RegionHeld3
import Derived.Test.YtbkedppkdhfpoaaJoined17
namespace Go.Proofs.Ytbkedppkdhfpoaa
open Go.RowKit

attribute [local go_sem ↓] Go.wp_at_zero Go.wp_at_succ
def condK (k : Nat) : Code → Option Code
  | .cond (.tmp n) a b => if n = k then some (.cond (.tmp n) a b) else match condK k a with
    | some c => some c
    | none => condK k b
  | .seq a b => match condK k a with
    | some c => some c
    | none => condK k b
  | .block _ c => condK k c
  | .scope c => condK k c
  | .loop c => condK k c
  | _ => none
def blockK (k : Nat) : Code → Option Code
  | .block n c => if n = k then some (.block n c) else blockK k c
  | .cond _ a b => match blockK k a with
    | some c => some c
    | none => blockK k b
  | .seq a b => match blockK k a with
    | some c => some c
    | none => blockK k b
  | .scope c => blockK k c
  | .loop c => blockK k c
  | _ => none
set_option maxRecDepth 100000 in
set_option maxHeartbeats 4000000 in
theorem grefI {lo1 lo2 K : Nat} {s t x y : T} {i k gs gt' ga gb b1 b2 : Nat} {xla : Option Addr} {xlc : Nat} {lx : List Int} {yla : Option Addr} {ylc : Nat} {ly : List Int} {rb : Nat → Nat} {M : Nat → Nat → Bool} {xa : Option Addr} {xc : Nat} {ya : Option Addr} {yc : Nat} {WC : World} {c1 c2 c3 c4 : Nat} {d0 d1 d2 d3 d4 d15 d16 d17 d18 d19 d20 d21 d22 d23 d24 d25 d26 d27 d28 d29 d30 d31 d32 d33 d34 d35 d36 d37 d38 d39 d40 d41 d42 d43 d44 d45 d46 d47 d48 d49 d50 d51 d52 d53 d54 d55 d56 d60 d61 d62 d63 d64 d65 d66 d67 d68 d69 d70 d71 d72 d73 d74 d75 d76 d77 d78 d79 d80 d81 d82 d83 d84 d85 d86 d87 d88 d89 d90 d91 d92 d93 d94 d95 d96 d97 d98 d99 d100 d101 d102 d103 d104 d105 d106 d107 d108 d109 d110 d111 d112 d113 d114 d115 d116 d117 d118 d119 d120 d121 d122 d123 d124 d125 d126 d127 d128 d129 d130 d131 d132 d133 d134 d135 d136 d137 d138 d139 d140 d141 d142 d143 d144 d145 d146 d147 d148 d149 d150 d151 d152 d153 d154 d155 d156 d157 d158 d159 d160 d161 d162 d163 d164 d165 d166 d167 d168 d169 d170 d171 d172 d173 d174 d175 d176 d177 d178 d179 d180 d181 d182 d183 d184 d185 d186 d187 d188 d189 d190 d191 d192 d193 d194 d195 d196 d197 d198 d199 d200 d201 d202 d203 d204 d205 d206 d207 d208 d209 d210 d211 d212 d213 d214 d215 d216 d217 d218 d219 d220 d221 d222 d223 d224 d225 d226 d227 d228 d229 d230 : Value} (HC : Hid (Cx lo1 lo2 K s t x y i k gs gt' ga gb b1 b2 xla xlc lx yla ylc ly rb M xa xc ya yc WC)) (hbd : i < s.sz ∧ k < t.sz ∧ s.sz ≤ 120 ∧ t.sz ≤ 120 ∧ x.sz ≤ s.sz ∧ y.sz ≤ t.sz ∧ lx.length ≤ 120 ∧ ly.length ≤ 120) 
    {Q' : Exit → Act → World → Prop} {J K' : Act → World → Prop} (hJ : ∀ (a' : Act) (w' : World), (∃ u14 u15 u16 u43 u44 u45 u46 u47 u48 u49 u50 u51 u52 u53 u54 u55 u56 u57 u58 u59 u60 u61 u62 u63 u64 u65 u66 u67 u68 u69 u70 u71 u72 u73 u74 u75 u76 u77 u78 u79 u80 u81 u82 u83 u84 u85 u86 u87 u88 u89 u90 u91 u92 u93 u94 u95 u96 u97 u98 u99 u100 u101 u102 u103 u104 u105 u106 u107 u108 u109 u110 u111 u112 u113 u114 u115 u116 u117 u118 u119 u120 u121 u122 u123 u124 u125 u126 u127 u128 u129 u130 u131 u132 u133 u134 u135 u136 u137 u138 u139 u140 u141 u142 u143 u144 u145 u146 u147 u148 u149 u150 u151 u152 u153 u154 u155 u156 u157 u158 u159 u160 u161 u162 u163 u164 u165 u166 u167 u168 u169 u170 u171 u172 u173 u174 u175 u176 u177 u178 u179 u180 u181 u182 u183 u184 u185 u186 u187 u188 u189 u190 u191 u192 u193 u194 u195 u196 u197 u198 u199 u200 u201 u202 u203 u204 u205 u206 u207 u208 u209 u210 u211 u212 u213 u214 u215 u216 u217 u218 u219 : Value, (u14 = .bool (decide (x.v = 0) && x.args.any (fun a => gt a y || sameT a y)) ∧ Hid (Below WC.heap.size WC w')) ∧ a' = ⟨#[d0, d1, d2, d3, d4, (.slice (some ⟨gs, 0, none⟩) s.sz c1), (.slice (some ⟨gt', 0, none⟩) t.sz c2), (.slice (some ⟨ga, 0, none⟩) s.sz c3), (.slice (some ⟨gb, 0, none⟩) t.sz c4), (.slice (some ⟨K, 0, none⟩) s.sz s.sz), (.int .i64 (i : Int)), (.int .i64 (k : Int)), (.pointer (some ⟨b1, 0, none⟩)), (.pointer (some ⟨b2, 0, none⟩)), u14, u15, u16, d17, d18, d19, d20, d21, d22, d23, d24, d25, d26, d27, d28, d29, d30, d31, d32, d33, d34, d35, d36, d37, d38, d39, d40, d41, d42, u43, u44, u45, u46, u47, u48, u49, u50, u51, u52, u53, u54, u55, u56, u57, u58, u59, u60, u61, u62, u63, u64, u65, u66, u67, u68, u69, u70, u71, u72, u73, u74, u75, u76, u77, u78, u79, u80, u81, u82, u83, u84, u85, u86, u87, u88, u89, u90, u91, u92, u93, u94, u95, u96, u97, u98, u99, u100, u101, u102, u103, u104, u105, u106, u107, u108, u109, u110, u111, u112, u113, u114, u115, u116, u117, u118, u119, u120, u121, u122, u123, u124, u125, u126, u127, u128, u129, u130, u131, u132, u133, u134, u135, u136, u137, u138, u139, u140, u141, u142, u143, u144, u145, u146, u147, u148, u149, u150, u151, u152, u153, u154, u155, u156, u157, u158, u159, u160, u161, u162, u163, u164, u165, u166, u167, u168, u169, u170, u171, u172, u173, u174, u175, u176, u177, u178, u179, u180, u181, u182, u183, u184, u185, u186, u187, u188, u189, u190, u191, u192, u193, u194, u195, u196, u197, u198, u199, u200, u201, u202, u203, u204, u205, u206, u207, u208, u209, u210, u211, u212, u213, u214, u215, u216, u217, u218, u219, d220, d221, d222, d223, d224, d225, d226, d227, d228, d229, d230], []⟩) → J a' w') (hK : ∀ (a' : Act) (w' : World), Met J a' w' → K' a' w') :
    Code.wp Try.prog ((Try.f43.body.bind (condK 59)).getD .skip) (Exit.then K' Q') ⟨#[d0, d1, d2, d3, d4, (.slice (some ⟨gs, 0, none⟩) s.sz c1), (.slice (some ⟨gt', 0, none⟩) t.sz c2), (.slice (some ⟨ga, 0, none⟩) s.sz c3), (.slice (some ⟨gb, 0, none⟩) t.sz c4), (.slice (some ⟨K, 0, none⟩) s.sz s.sz), (.int .i64 (i : Int)), (.int .i64 (k : Int)), (.pointer (some ⟨b1, 0, none⟩)), (.pointer (some ⟨b2, 0, none⟩)), (.bool false), d15, d16, d17, d18, d19, d20, d21, d22, d23, d24, d25, d26, d27, d28, d29, d30, d31, d32, d33, d34, d35, d36, d37, d38, d39, d40, d41, d42, d43, d44, d45, d46, d47, d48, d49, d50, d51, d52, d53, d54, d55, d56, (.pointer (some ⟨b1, 0, none⟩)), (.int .i64 x.v), (.bool (x.v == 0)), d60, d61, d62, d63, d64, d65, d66, d67, d68, d69, d70, d71, d72, d73, d74, d75, d76, d77, d78, d79, d80, d81, d82, d83, d84, d85, d86, d87, d88, d89, d90, d91, d92, d93, d94, d95, d96, d97, d98, d99, d100, d101, d102, d103, d104, d105, d106, d107, d108, d109, d110, d111, d112, d113, d114, d115, d116, d117, d118, d119, d120, d121, d122, d123, d124, d125, d126, d127, d128, d129, d130, d131, d132, d133, d134, d135, d136, d137, d138, d139, d140, d141, d142, d143, d144, d145, d146, d147, d148, d149, d150, d151, d152, d153, d154, d155, d156, d157, d158, d159, d160, d161, d162, d163, d164, d165, d166, d167, d168, d169, d170, d171, d172, d173, d174, d175, d176, d177, d178, d179, d180, d181, d182, d183, d184, d185, d186, d187, d188, d189, d190, d191, d192, d193, d194, d195, d196, d197, d198, d199, d200, d201, d202, d203, d204, d205, d206, d207, d208, d209, d210, d211, d212, d213, d214, d215, d216, d217, d218, d219, d220, d221, d222, d223, d224, d225, d226, d227, d228, d229, d230], []⟩ WC := by
  obtain ⟨hlt, hlt2, hs1, ht1, hxs2, hys2, hlx2, hly2⟩ := hbd
  have hiI : (i : Int) < s.sz := by omega
  have hi0 : (0 : Int) ≤ i := by omega
  have hkI : (k : Int) < t.sz := by omega
  have hk0 : (0 : Int) ≤ k := by omega
  have Hlxl := hide HC.out.lxl
  have Hlyl := hide HC.out.lyl
  conv => arg 2; whnf
  by_cases hx0 : x.v = 0
  · have e0 : (x.v == 0) = true := by simpa using hx0
    have Hx0 := hide hx0
    clear hx0
    go_wp2_with fail
    go_loopw [14, 15] (fun v14 v15 wi => ∃ m : Nat, m ≤ lx.length ∧ v15 = .int .i64 m ∧ v14 = .bool ((x.args.take m).any (fun a => gt a y || sameT a y)) ∧ Hid (Below WC.heap.size WC wi)) (fun _ v15 _ => lx.length - (intOf v15).toNat)
    case atStart => exact ⟨0, Nat.zero_le _, rfl, rfl, Below.refl _ _⟩
    case round =>
      obtain ⟨m, hm, rfl, rfl, Hbm⟩ := hrel
      have HCm := hide (HC.out.below Hbm.out)
      have q1 := HCm.out.la
      have hzm := Hbm.out.size
      by_cases hltm : m < lx.length
      · obtain ⟨c, hc⟩ : ∃ c, x.args[m]? = some c := ⟨x.args[m]'(by have := Hlxl.out; omega), List.getElem?_eq_getElem _⟩
        obtain ⟨j, b, off, ca, cc, rfl, q2, hji, hjp, q3, q4, q5, q6, q7, q8⟩ := HCm.out.argX hc
        have q9 := q8 k y HCm.out.hy hlt2
        have hjs : (j : Int) < s.sz := by omega
        have hj0 : (0 : Int) ≤ j := by omega
        have hmI : (m : Int) < lx.length := by omega
        have hm0 : (0 : Int) ≤ m := by omega
        have Hst := hide (any_stepR (p := fun a => gt a y || sameT a y) hc)
        have y0 := HCm.out.bY.c0
        have y1 := HCm.out.bY.c1
        have y2 := HCm.out.bY.c2
        have hcs : c.sz ≤ 120 := by have := T.szL_mem (List.mem_of_getElem? hc); have := T.sz_eq x; omega
        have Hsm := hide (fun (w' : World) (hb : Below wr.heap.size wr w') => sameTerm_any 121 c y ca cc ya yc w' (by omega) (by omega) (InP_below hb q6) (InP_below hb HCm.out.yi))
        clear q8 hc q6 HC HCm hjp
        rcases Bool.eq_false_or_eq_true ((x.args.take m).any (fun a => gt a y || sameT a y)) with hA | hA
        · rw [hA]
          rw [hA, Bool.true_or] at Hst
          clear hA
          go_wp2_with fail
          go_quiet (fail)
          go_wp2_with fail
          go_roundw
          case rel => exact ⟨m + 1, by omega, by go_num, by rw [Hst.out], Hbm.out.trans ⟨rfl, rfl, rfl, Nat.le_refl _, fun _ _ => rfl⟩⟩
          case measure => simp [intOf]; omega
        · rw [hA]
          rw [hA, Bool.false_or] at Hst
          clear hA
          rcases Bool.eq_false_or_eq_true (gt c y) with hB | hB
          · rw [hB] at q9
            rw [hB, Bool.true_or] at Hst
            clear hB
            go_wp2_with fail
            go_quiet (fail)
            go_wp2_with fail
            go_roundw
            case rel => exact ⟨m + 1, by omega, by go_num, by rw [Hst.out], Hbm.out.trans ⟨rfl, rfl, rfl, Nat.le_refl _, fun _ _ => rfl⟩⟩
            case measure => simp [intOf]; omega
          · rw [hB] at q9
            rw [hB, Bool.false_or] at Hst
            clear hB
            go_wp2_with fail
            have hS := hide (fun (w' : World) (hb : Below wr.heap.size wr w') => (show w'.cell? ⟨K, j, none⟩ = some (.slice (some ⟨rb j, 0, none⟩) t.sz t.sz) ∧ w'.cell? ⟨rb j, k, none⟩ = some (.bool false) ∧ w'.cell? ⟨gs, j * 3, none⟩ = some (.int .i64 c.v) ∧ w'.cell? ⟨gs, j * 3 + 1, none⟩ = some (.int .i64 c.f) ∧ w'.cell? ⟨gs, j * 3 + 2, none⟩ = some (.slice ca c.args.length cc) ∧ w'.cell? ⟨b2, 0, none⟩ = some (.int .i64 y.v) ∧ w'.cell? ⟨b2, 1, none⟩ = some (.int .i64 y.f) ∧ w'.cell? ⟨b2, 2, none⟩ = some (.slice ya y.args.length yc) from ⟨cell_below hb q7, cell_below hb q9, cell_below hb q3, cell_below hb q4, cell_below hb q5, cell_below hb y0, cell_below hb y1, cell_below hb y2⟩))
            go_region_held3 (fun w' => w'.cell? ⟨K, j, none⟩ = some (.slice (some ⟨rb j, 0, none⟩) t.sz t.sz) ∧ w'.cell? ⟨rb j, k, none⟩ = some (.bool false) ∧ w'.cell? ⟨gs, j * 3, none⟩ = some (.int .i64 c.v) ∧ w'.cell? ⟨gs, j * 3 + 1, none⟩ = some (.int .i64 c.f) ∧ w'.cell? ⟨gs, j * 3 + 2, none⟩ = some (.slice ca c.args.length cc) ∧ w'.cell? ⟨b2, 0, none⟩ = some (.int .i64 y.v) ∧ w'.cell? ⟨b2, 1, none⟩ = some (.int .i64 y.f) ∧ w'.cell? ⟨b2, 2, none⟩ = some (.slice ya y.args.length yc)) ((first | (refine hS.out _ ?_; (repeat' (first | with_reducible exact Hid.out ‹Hid (Below _ _ _)› | with_reducible exact Below.refl _ _ | (with_reducible refine Below.drew ?_))); done) | go_keep)) ((first
              | (go_at_call 28
                 with_reducible refine (Hsm.out _ ?_).mono ?_
                 · (repeat' (first | with_reducible exact Hid.out ‹Hid (Below _ _ _)› | with_reducible exact Below.refl _ _ | (with_reducible refine Below.drew ?_)))
                 rintro e xA ⟨rfl, hbA⟩
                 have HxA : Hid (Below wr.heap.size wr xA) := by
                   refine Below.trans (b := _) ?_ (hbA.mono ?_)
                   · (repeat' (first | with_reducible exact Hid.out ‹Hid (Below _ _ _)› | with_reducible exact Below.refl _ _ | (with_reducible refine Below.drew ?_)))
                   · first | omega | (simp; omega) | (simp; done))))
            all_goals (go_wp2_with fail; go_roundw)
            case rel => exact ⟨m + 1, by omega, by go_num, by rw [Hst.out], Hbm.out.trans (HxA.out.mono hzm)⟩
            case measure => simp [intOf]; omega
      · have hm2 : m = lx.length := by omega
        subst hm2
        have Hfin : Hid (x.args.take lx.length = x.args) := List.take_of_length_le (by rw [Hlxl.out]; exact Nat.le_refl _)
        rw [Hfin.out]
        go_wp2_with fail
        go_meet
        exact ⟨by rw [decide_eq_true Hx0.out, Bool.true_and], Hbm.out⟩
  · have e0 : (x.v == 0) = false := by simpa using hx0
    have Hx0 := hide hx0
    clear hx0
    go_wp2_with fail
    go_meet
    exact ⟨by rw [decide_eq_false Hx0.out, Bool.false_and], Below.refl _ _⟩

set_option maxRecDepth 100000 in
set_option maxHeartbeats 4000000 in
theorem grefL {lo1 lo2 K : Nat} {s t x y : T} {i k gs gt' ga gb b1 b2 : Nat} {xla : Option Addr} {xlc : Nat} {lx : List Int} {yla : Option Addr} {ylc : Nat} {ly : List Int} {rb : Nat → Nat} {M : Nat → Nat → Bool} {xa : Option Addr} {xc : Nat} {ya : Option Addr} {yc : Nat} {WC : World} {c1 c2 c3 c4 : Nat} {d0 d1 d2 d3 d4 d14 d15 d16 d19 d20 d21 d22 d23 d24 d25 d26 d27 d28 d29 d30 d31 d32 d33 d34 d35 d36 d37 d38 d39 d40 d41 d42 d43 d44 d45 d46 d47 d48 d49 d50 d51 d52 d53 d54 d55 d56 d57 d58 d59 d60 d61 d62 d63 d64 d65 d66 d67 d68 d69 d70 d71 d72 d73 d74 d75 d76 d77 d78 d79 d80 d81 d82 d83 d84 d85 d86 d87 d88 d89 d90 d91 d92 d93 d94 d95 d96 d97 d98 d99 d100 d101 d102 d103 d104 d105 d106 d107 d108 d109 d110 d111 d112 d113 d114 d115 d116 d117 d118 d119 d120 d121 d122 d123 d124 d125 d126 d127 d128 d129 d130 d131 d132 d133 d134 d135 d136 d137 d138 d139 d140 d141 d142 d143 d144 d145 d146 d147 d148 d149 d150 d151 d152 d153 d154 d155 d156 d157 d158 d159 d160 d161 d162 d163 d164 d165 d166 d167 d168 d169 d170 d171 d172 d173 d174 d175 d176 d177 d178 d179 d180 d181 d182 d183 d184 d185 d186 d187 d188 d189 d190 d191 d192 d193 d194 d195 d196 d197 d198 d199 d200 d201 d202 d203 d204 d205 d206 d207 d208 d209 d210 d211 d212 d213 d214 d215 d216 d217 d218 d219 d220 d221 d222 d223 d224 d225 d226 d227 d228 d229 d230 : Value} (HC : Hid (Cx lo1 lo2 K s t x y i k gs gt' ga gb b1 b2 xla xlc lx yla ylc ly rb M xa xc ya yc WC)) (hbd : i < s.sz ∧ k < t.sz ∧ s.sz ≤ 120 ∧ t.sz ≤ 120 ∧ x.sz ≤ s.sz ∧ y.sz ≤ t.sz ∧ lx.length ≤ 120 ∧ ly.length ≤ 120) {A0 : Bool}
    {Q' : Exit → Act → World → Prop} {J K' : Act → World → Prop} (hJ : ∀ (a' : Act) (w' : World), (∃ u17 u18 u109 u110 u111 u112 u113 u114 u115 u116 u117 u118 u119 u120 u121 u122 u123 u124 u125 u126 u127 u128 u129 u130 u131 u132 u133 : Value, (u17 = .bool (A0 && y.args.all (fun c => gt x c)) ∧ Hid (Below WC.heap.size WC w')) ∧ a' = ⟨#[d0, d1, d2, d3, d4, (.slice (some ⟨gs, 0, none⟩) s.sz c1), (.slice (some ⟨gt', 0, none⟩) t.sz c2), (.slice (some ⟨ga, 0, none⟩) s.sz c3), (.slice (some ⟨gb, 0, none⟩) t.sz c4), (.slice (some ⟨K, 0, none⟩) s.sz s.sz), (.int .i64 (i : Int)), (.int .i64 (k : Int)), (.pointer (some ⟨b1, 0, none⟩)), (.pointer (some ⟨b2, 0, none⟩)), d14, d15, d16, u17, u18, d19, d20, d21, d22, d23, d24, d25, d26, d27, d28, d29, d30, d31, d32, d33, d34, d35, d36, d37, d38, d39, d40, d41, d42, d43, d44, d45, d46, d47, d48, d49, d50, d51, d52, d53, d54, d55, d56, d57, d58, d59, d60, d61, d62, d63, d64, d65, d66, d67, d68, d69, d70, d71, d72, d73, d74, d75, d76, d77, d78, d79, d80, d81, d82, d83, d84, d85, d86, d87, d88, d89, d90, d91, d92, d93, d94, d95, d96, d97, d98, d99, d100, d101, d102, d103, d104, d105, d106, d107, d108, u109, u110, u111, u112, u113, u114, u115, u116, u117, u118, u119, u120, u121, u122, u123, u124, u125, u126, u127, u128, u129, u130, u131, u132, u133, d134, d135, d136, d137, d138, d139, d140, d141, d142, d143, d144, d145, d146, d147, d148, d149, d150, d151, d152, d153, d154, d155, d156, d157, d158, d159, d160, d161, d162, d163, d164, d165, d166, d167, d168, d169, d170, d171, d172, d173, d174, d175, d176, d177, d178, d179, d180, d181, d182, d183, d184, d185, d186, d187, d188, d189, d190, d191, d192, d193, d194, d195, d196, d197, d198, d199, d200, d201, d202, d203, d204, d205, d206, d207, d208, d209, d210, d211, d212, d213, d214, d215, d216, d217, d218, d219, d220, d221, d222, d223, d224, d225, d226, d227, d228, d229, d230], []⟩) → J a' w') (hK : ∀ (a' : Act) (w' : World), Met J a' w' → K' a' w') :
    Code.wp Try.prog ((Try.f43.body.bind (blockK 6)).getD .skip) (Exit.then K' Q') ⟨#[d0, d1, d2, d3, d4, (.slice (some ⟨gs, 0, none⟩) s.sz c1), (.slice (some ⟨gt', 0, none⟩) t.sz c2), (.slice (some ⟨ga, 0, none⟩) s.sz c3), (.slice (some ⟨gb, 0, none⟩) t.sz c4), (.slice (some ⟨K, 0, none⟩) s.sz s.sz), (.int .i64 (i : Int)), (.int .i64 (k : Int)), (.pointer (some ⟨b1, 0, none⟩)), (.pointer (some ⟨b2, 0, none⟩)), d14, d15, d16, (.bool A0), (.int .i64 0), d19, d20, d21, d22, d23, d24, d25, d26, d27, d28, d29, d30, d31, d32, d33, d34, d35, d36, d37, d38, d39, d40, d41, d42, d43, d44, d45, d46, d47, d48, d49, d50, d51, d52, d53, d54, d55, d56, d57, d58, d59, d60, d61, d62, d63, d64, d65, d66, d67, d68, d69, d70, d71, d72, d73, d74, d75, d76, d77, d78, d79, d80, d81, d82, d83, d84, d85, d86, d87, d88, d89, d90, d91, d92, d93, d94, d95, d96, d97, d98, d99, d100, d101, d102, d103, d104, d105, d106, d107, d108, d109, d110, d111, d112, d113, d114, d115, d116, d117, d118, d119, d120, d121, d122, d123, d124, d125, d126, d127, d128, d129, d130, d131, d132, d133, d134, d135, d136, d137, d138, d139, d140, d141, d142, d143, d144, d145, d146, d147, d148, d149, d150, d151, d152, d153, d154, d155, d156, d157, d158, d159, d160, d161, d162, d163, d164, d165, d166, d167, d168, d169, d170, d171, d172, d173, d174, d175, d176, d177, d178, d179, d180, d181, d182, d183, d184, d185, d186, d187, d188, d189, d190, d191, d192, d193, d194, d195, d196, d197, d198, d199, d200, d201, d202, d203, d204, d205, d206, d207, d208, d209, d210, d211, d212, d213, d214, d215, d216, d217, d218, d219, d220, d221, d222, d223, d224, d225, d226, d227, d228, d229, d230], []⟩ WC := by
  obtain ⟨hlt, hlt2, hs1, ht1, hxs2, hys2, hlx2, hly2⟩ := hbd
  have hiI : (i : Int) < s.sz := by omega
  have hi0 : (0 : Int) ≤ i := by omega
  have hkI : (k : Int) < t.sz := by omega
  have hk0 : (0 : Int) ≤ k := by omega
  have Hlxl := hide HC.out.lxl
  have Hlyl := hide HC.out.lyl
  conv => arg 2; whnf
  go_wp2_with fail
  go_loopw [17, 18] (fun v17 v18 wi => ∃ m : Nat, m ≤ ly.length ∧ v18 = .int .i64 m ∧ v17 = .bool (A0 && (y.args.take m).all (fun c => gt x c)) ∧ Hid (Below WC.heap.size WC wi)) (fun _ v18 _ => ly.length - (intOf v18).toNat)
  case atStart => exact ⟨0, Nat.zero_le _, rfl, by simp, Below.refl _ _⟩
  case round =>
    obtain ⟨m, hm, rfl, rfl, Hbm⟩ := hrel
    have HCm := hide (HC.out.below Hbm.out)
    have q1 := HCm.out.lb
    have hzm := Hbm.out.size
    by_cases hltm : m < ly.length
    · obtain ⟨c, hc⟩ : ∃ c, y.args[m]? = some c := ⟨y.args[m]'(by have := Hlyl.out; omega), List.getElem?_eq_getElem _⟩
      obtain ⟨j, b, off, ca, cc, rfl, q2, hjk, hjp, _, _, _, _, q7, q9⟩ := HCm.out.argY hc hlt2
      have hjs : (j : Int) < t.sz := by omega
      have hj0 : (0 : Int) ≤ j := by omega
      have hmI : (m : Int) < ly.length := by omega
      have hm0 : (0 : Int) ≤ m := by omega
      have Hst := hide (all_step (p := fun c => gt x c) hc)
      have Hst2 : Hid ((A0 && (y.args.take (m + 1)).all (fun c => gt x c)) = ((A0 && (y.args.take m).all (fun c => gt x c)) && gt x c)) := by show _ = _; rw [Hst.out, Bool.and_assoc]
      clear hc Hst HC HCm hjp
      rcases Bool.eq_false_or_eq_true (A0 && (y.args.take m).all (fun c => gt x c)) with hA | hA
      · rw [hA]
        rw [hA, Bool.true_and] at Hst2
        clear hA
        go_wp2_with fail
        go_quiet (fail)
        go_wp2_with fail
        go_roundw
        case rel => exact ⟨m + 1, by omega, by go_num, by rw [Hst2.out], Hbm.out.trans ⟨rfl, rfl, rfl, Nat.le_refl _, fun _ _ => rfl⟩⟩
        case measure => simp [intOf]; omega
      · rw [hA]
        rw [hA, Bool.false_and] at Hst2
        clear hA
        go_wp2_with fail
        go_quiet (fail)
        go_wp2_with fail
        go_roundw
        case rel => exact ⟨m + 1, by omega, by go_num, by rw [Hst2.out], Hbm.out.trans ⟨rfl, rfl, rfl, Nat.le_refl _, fun _ _ => rfl⟩⟩
        case measure => simp [intOf]; omega
    · have hm2 : m = ly.length := by omega
      subst hm2
      have Hfin : Hid (y.args.take ly.length = y.args) := List.take_of_length_le (by rw [Hlyl.out]; exact Nat.le_refl _)
      rw [Hfin.out]
      go_wp2_with fail
      go_meet
      exact ⟨rfl, Hbm.out⟩

end Go.Proofs.Ytbkedppkdhfpoaa

namespace Go.Proofs.Ytbkedppkdhfpoaa
open Go.RowKit

attribute [local go_sem ↓] Go.wp_at_zero Go.wp_at_succ
set_option maxRecDepth 100000 in
set_option maxHeartbeats 4000000 in
theorem grefE {lo1 lo2 K : Nat} {s t x y : T} {i k gs gt' ga gb b1 b2 : Nat} {xla : Option Addr} {xlc : Nat} {lx : List Int} {yla : Option Addr} {ylc : Nat} {ly : List Int} {rb : Nat → Nat} {M : Nat → Nat → Bool} {xa : Option Addr} {xc : Nat} {ya : Option Addr} {yc : Nat} {WC : World} {c1 c2 c3 c4 : Nat} {d0 d1 d2 d3 d4 d15 d16 d17 d18 d19 d20 d21 d22 d23 d24 d25 d26 d27 d28 d29 d30 d31 d32 d33 d34 d35 d36 d37 d38 d39 d40 d41 d42 d43 d44 d45 d46 d47 d48 d49 d50 d51 d52 d53 d54 d55 d56 d57 d58 d59 d60 d61 d62 d63 d64 d65 d66 d67 d68 d69 d70 d71 d72 d73 d74 d75 d76 d77 d78 d79 d80 d81 d82 d83 d84 d85 d86 d87 d88 d89 d90 d91 d92 d93 d94 d95 d96 d97 d98 d99 d100 d101 d102 d103 d104 d105 d106 d107 d108 d109 d110 d111 d112 d113 d114 d115 d116 d117 d118 d119 d120 d121 d122 d123 d124 d125 d126 d127 d128 d129 d130 d131 d132 d133 d134 d135 d136 d137 d138 d139 d140 d141 d142 d143 d144 d145 d146 d147 d148 d150 d151 d152 d153 d154 d155 d156 d157 d158 d159 d160 d161 d162 d163 d164 d165 d166 d167 d168 d169 d170 d171 d172 d173 d174 d175 d176 d177 d178 d179 d180 d181 d182 d183 d184 d185 d186 d187 d188 d189 d190 d191 d192 d193 d194 d195 d196 d197 d198 d199 d200 d201 d202 d203 d204 d205 d206 d207 d208 d209 d210 d211 d212 d213 d214 d215 d216 d217 d218 d219 d220 d221 d222 d223 d224 d225 d226 d227 d228 d229 d230 : Value} (HC : Hid (Cx lo1 lo2 K s t x y i k gs gt' ga gb b1 b2 xla xlc lx yla ylc ly rb M xa xc ya yc WC)) (hbd : i < s.sz ∧ k < t.sz ∧ s.sz ≤ 120 ∧ t.sz ≤ 120 ∧ x.sz ≤ s.sz ∧ y.sz ≤ t.sz ∧ lx.length ≤ 120 ∧ ly.length ≤ 120) {Y2 B1 : Bool} (HB : Hid (B1 = true → x.args.length = y.args.length))
    {Q' : Exit → Act → World → Prop} {J K' : Act → World → Prop} (hJ : ∀ (a' : Act) (w' : World), (∃ u14 u19 u43 u44 u45 u46 u47 u48 u49 u50 u51 u52 u53 u54 u55 u56 u57 u58 u59 u60 u61 u62 u63 u64 u65 u66 u67 u68 u69 u70 u71 u72 u73 u74 u75 u76 u77 u78 u79 u80 u81 u82 u83 u84 u85 u86 u87 u88 u89 u90 u91 u92 u93 u94 u95 u96 u97 u98 u99 u100 u101 u102 u103 u104 u105 u106 u107 u108 u109 u110 u111 u112 u113 u114 u115 u116 u117 u118 u119 u120 u121 u122 u123 u124 u125 u126 u127 u128 u129 u130 u131 u132 u133 u134 u135 u136 u137 u138 u139 u140 u141 u142 u143 u144 u145 u146 u147 u148 u149 u150 u151 u152 u153 u154 u155 u156 u157 u158 u159 u160 u161 u162 u163 u164 u165 u166 u167 u168 u169 u170 u171 u172 u173 u174 u175 u176 u177 u178 u179 u180 u181 u182 u183 u184 u185 u186 u187 u188 u189 u190 u191 u192 u193 u194 u195 u196 u197 u198 u199 u200 u201 u202 u203 u204 u205 u206 u207 u208 u209 u210 u211 u212 u213 u214 u215 u216 u217 u218 u219 : Value, (u14 = .bool (Y2 || (B1 && firstN gt x.args y.args)) ∧ Hid (Below WC.heap.size WC w')) ∧ a' = ⟨#[d0, d1, d2, d3, d4, (.slice (some ⟨gs, 0, none⟩) s.sz c1), (.slice (some ⟨gt', 0, none⟩) t.sz c2), (.slice (some ⟨ga, 0, none⟩) s.sz c3), (.slice (some ⟨gb, 0, none⟩) t.sz c4), (.slice (some ⟨K, 0, none⟩) s.sz s.sz), (.int .i64 (i : Int)), (.int .i64 (k : Int)), (.pointer (some ⟨b1, 0, none⟩)), (.pointer (some ⟨b2, 0, none⟩)), u14, d15, d16, d17, d18, u19, d20, d21, d22, d23, d24, d25, d26, d27, d28, d29, d30, d31, d32, d33, d34, d35, d36, d37, d38, d39, d40, d41, d42, u43, u44, u45, u46, u47, u48, u49, u50, u51, u52, u53, u54, u55, u56, u57, u58, u59, u60, u61, u62, u63, u64, u65, u66, u67, u68, u69, u70, u71, u72, u73, u74, u75, u76, u77, u78, u79, u80, u81, u82, u83, u84, u85, u86, u87, u88, u89, u90, u91, u92, u93, u94, u95, u96, u97, u98, u99, u100, u101, u102, u103, u104, u105, u106, u107, u108, u109, u110, u111, u112, u113, u114, u115, u116, u117, u118, u119, u120, u121, u122, u123, u124, u125, u126, u127, u128, u129, u130, u131, u132, u133, u134, u135, u136, u137, u138, u139, u140, u141, u142, u143, u144, u145, u146, u147, u148, u149, u150, u151, u152, u153, u154, u155, u156, u157, u158, u159, u160, u161, u162, u163, u164, u165, u166, u167, u168, u169, u170, u171, u172, u173, u174, u175, u176, u177, u178, u179, u180, u181, u182, u183, u184, u185, u186, u187, u188, u189, u190, u191, u192, u193, u194, u195, u196, u197, u198, u199, u200, u201, u202, u203, u204, u205, u206, u207, u208, u209, u210, u211, u212, u213, u214, u215, u216, u217, u218, u219, d220, d221, d222, d223, d224, d225, d226, d227, d228, d229, d230], []⟩) → J a' w') (hK : ∀ (a' : Act) (w' : World), Met J a' w' → K' a' w') :
    Code.wp Try.prog ((Try.f43.body.bind (condK 149)).getD .skip) (Exit.then K' Q') ⟨#[d0, d1, d2, d3, d4, (.slice (some ⟨gs, 0, none⟩) s.sz c1), (.slice (some ⟨gt', 0, none⟩) t.sz c2), (.slice (some ⟨ga, 0, none⟩) s.sz c3), (.slice (some ⟨gb, 0, none⟩) t.sz c4), (.slice (some ⟨K, 0, none⟩) s.sz s.sz), (.int .i64 (i : Int)), (.int .i64 (k : Int)), (.pointer (some ⟨b1, 0, none⟩)), (.pointer (some ⟨b2, 0, none⟩)), (.bool Y2), d15, d16, d17, d18, d19, d20, d21, d22, d23, d24, d25, d26, d27, d28, d29, d30, d31, d32, d33, d34, d35, d36, d37, d38, d39, d40, d41, d42, d43, d44, d45, d46, d47, d48, d49, d50, d51, d52, d53, d54, d55, d56, d57, d58, d59, d60, d61, d62, d63, d64, d65, d66, d67, d68, d69, d70, d71, d72, d73, d74, d75, d76, d77, d78, d79, d80, d81, d82, d83, d84, d85, d86, d87, d88, d89, d90, d91, d92, d93, d94, d95, d96, d97, d98, d99, d100, d101, d102, d103, d104, d105, d106, d107, d108, d109, d110, d111, d112, d113, d114, d115, d116, d117, d118, d119, d120, d121, d122, d123, d124, d125, d126, d127, d128, d129, d130, d131, d132, d133, d134, d135, d136, d137, d138, d139, d140, d141, d142, d143, d144, d145, d146, d147, d148, (.bool B1), d150, d151, d152, d153, d154, d155, d156, d157, d158, d159, d160, d161, d162, d163, d164, d165, d166, d167, d168, d169, d170, d171, d172, d173, d174, d175, d176, d177, d178, d179, d180, d181, d182, d183, d184, d185, d186, d187, d188, d189, d190, d191, d192, d193, d194, d195, d196, d197, d198, d199, d200, d201, d202, d203, d204, d205, d206, d207, d208, d209, d210, d211, d212, d213, d214, d215, d216, d217, d218, d219, d220, d221, d222, d223, d224, d225, d226, d227, d228, d229, d230], []⟩ WC := by
  obtain ⟨hlt, hlt2, hs1, ht1, hxs2, hys2, hlx2, hly2⟩ := hbd
  have hiI : (i : Int) < s.sz := by omega
  have hi0 : (0 : Int) ≤ i := by omega
  have hkI : (k : Int) < t.sz := by omega
  have hk0 : (0 : Int) ≤ k := by omega
  have Hlxl := hide HC.out.lxl
  have Hlyl := hide HC.out.lyl
  conv => arg 2; whnf
  rcases Bool.eq_false_or_eq_true B1 with hB | hB
  · subst hB
    have hxy := HB.out rfl
    have Hxy := hide hxy
    clear hxy HB
    go_wp2_with fail
    go_loopw [19] (fun v19 wi => ∃ m : Nat, m ≤ lx.length ∧ v19 = .int .i64 m ∧ Hid (firstN gt x.args y.args = firstN gt (x.args.drop m) (y.args.drop m)) ∧ Hid (Below WC.heap.size WC wi)) (fun v19 _ => lx.length - (intOf v19).toNat)
    case atStart => exact ⟨0, Nat.zero_le _, rfl, rfl, Below.refl _ _⟩
    case round =>
      obtain ⟨m, hm, rfl, HF, Hbm⟩ := hrel
      have HCm := hide (HC.out.below Hbm.out)
      have q1 := HCm.out.la
      have r1 := HCm.out.lb
      have hzm := Hbm.out.size
      by_cases hltm : m < lx.length
      · obtain ⟨c, hc⟩ : ∃ c, x.args[m]? = some c := ⟨x.args[m]'(by have := Hlxl.out; omega), List.getElem?_eq_getElem _⟩
        obtain ⟨d, hd⟩ : ∃ d, y.args[m]? = some d := ⟨y.args[m]'(by have := Hlxl.out; have := Hxy.out; omega), List.getElem?_eq_getElem _⟩
        obtain ⟨j, b, off, ca, cc, rfl, q2, hji, hjp, q3, q4, q5, q6, q7, q8⟩ := HCm.out.argX hc
        obtain ⟨j2, b', off', da, dc, rfl, r2, hjk, hjq, r3, r4, r5, r6, _, _⟩ := HCm.out.argY hd hlt2
        have q9 := q8 j2 d hjq (by omega)
        have hjs : (j : Int) < s.sz := by omega
        have hj0 : (0 : Int) ≤ j := by omega
        have hjt : (j2 : Int) < t.sz := by omega
        have hj20 : (0 : Int) ≤ j2 := by omega
        have hmI : (m : Int) < lx.length := by omega
        have hmJ : (m : Int) < ly.length := by have := Hlxl.out; have := Hlyl.out; have := Hxy.out; omega
        have hm0 : (0 : Int) ≤ m := by omega
        have Hst := hide (HF.out.trans (firstN_drop hc hd))
        have hcs : c.sz ≤ 120 := by have := T.szL_mem (List.mem_of_getElem? hc); have := T.sz_eq x; omega
        have Hsm := hide (fun (w' : World) (hb : Below wr.heap.size wr w') => sameTerm_any 121 c d ca cc da dc w' (by omega) (by omega) (InP_below hb q6) (InP_below hb r6))
        have Hq := hide (fun (w' : World) (hb : Below wr.heap.size wr w') => (show w'.cell? ⟨ga, i, none⟩ = some (.slice (some ⟨b, off, none⟩) lx.length xlc) ∧ w'.cell? ⟨b, off + m, none⟩ = some (.int .i64 (j : Int)) ∧ w'.cell? ⟨gb, k, none⟩ = some (.slice (some ⟨b', off', none⟩) ly.length ylc) ∧ w'.cell? ⟨b', off' + m, none⟩ = some (.int .i64 (j2 : Int)) ∧ w'.cell? ⟨K, j, none⟩ = some (.slice (some ⟨rb j, 0, none⟩) t.sz t.sz) ∧ w'.cell? ⟨rb j, j2, none⟩ = some (.bool (gt c d)) from ⟨cell_below hb q1, cell_below hb q2, cell_below hb r1, cell_below hb r2, cell_below hb q7, cell_below hb q9⟩))
        clear q8 hc hd q6 r6 HC HCm hjp hjq HF q7 q9
        have hd1 : decide ((m : Int) < lx.length) = true := decide_eq_true hmI
        go_wp2_with fail
        have hS := hide (fun (w' : World) (hb : Below wr.heap.size wr w') => (show w'.cell? ⟨ga, i, none⟩ = some (.slice (some ⟨b, off, none⟩) lx.length xlc) ∧ w'.cell? ⟨b, off + m, none⟩ = some (.int .i64 (j : Int)) ∧ w'.cell? ⟨gb, k, none⟩ = some (.slice (some ⟨b', off', none⟩) ly.length ylc) ∧ w'.cell? ⟨b', off' + m, none⟩ = some (.int .i64 (j2 : Int)) ∧ w'.cell? ⟨gs, j * 3, none⟩ = some (.int .i64 c.v) ∧ w'.cell? ⟨gs, j * 3 + 1, none⟩ = some (.int .i64 c.f) ∧ w'.cell? ⟨gs, j * 3 + 2, none⟩ = some (.slice ca c.args.length cc) ∧ w'.cell? ⟨gt', j2 * 3, none⟩ = some (.int .i64 d.v) ∧ w'.cell? ⟨gt', j2 * 3 + 1, none⟩ = some (.int .i64 d.f) ∧ w'.cell? ⟨gt', j2 * 3 + 2, none⟩ = some (.slice da d.args.length dc) from ⟨cell_below hb q1, cell_below hb q2, cell_below hb r1, cell_below hb r2, cell_below hb q3, cell_below hb q4, cell_below hb q5, cell_below hb r3, cell_below hb r4, cell_below hb r5⟩))
        go_region_held3 (fun w' => w'.cell? ⟨ga, i, none⟩ = some (.slice (some ⟨b, off, none⟩) lx.length xlc) ∧ w'.cell? ⟨b, off + m, none⟩ = some (.int .i64 (j : Int)) ∧ w'.cell? ⟨gb, k, none⟩ = some (.slice (some ⟨b', off', none⟩) ly.length ylc) ∧ w'.cell? ⟨b', off' + m, none⟩ = some (.int .i64 (j2 : Int)) ∧ w'.cell? ⟨gs, j * 3, none⟩ = some (.int .i64 c.v) ∧ w'.cell? ⟨gs, j * 3 + 1, none⟩ = some (.int .i64 c.f) ∧ w'.cell? ⟨gs, j * 3 + 2, none⟩ = some (.slice ca c.args.length cc) ∧ w'.cell? ⟨gt', j2 * 3, none⟩ = some (.int .i64 d.v) ∧ w'.cell? ⟨gt', j2 * 3 + 1, none⟩ = some (.int .i64 d.f) ∧ w'.cell? ⟨gt', j2 * 3 + 2, none⟩ = some (.slice da d.args.length dc)) ((first | (refine hS.out _ ?_; (repeat' (first | with_reducible exact Hid.out ‹Hid (Below _ _ _)› | with_reducible exact Below.refl _ _ | (with_reducible refine Below.drew ?_))); done) | go_keep)) ((first
          | (go_at_call 28
             with_reducible refine (Hsm.out _ ?_).mono ?_
             · (repeat' (first | with_reducible exact Hid.out ‹Hid (Below _ _ _)› | with_reducible exact Below.refl _ _ | (with_reducible refine Below.drew ?_)))
             rintro e xA ⟨rfl, hbA⟩
             have HxA : Hid (Below wr.heap.size wr xA) := by
               refine Below.trans (b := _) ?_ (hbA.mono ?_)
               · (repeat' (first | with_reducible exact Hid.out ‹Hid (Below _ _ _)› | with_reducible exact Below.refl _ _ | (with_reducible refine Below.drew ?_)))
               · first | omega | (simp; omega) | (simp; done))))
        all_goals (
          rcases Bool.eq_false_or_eq_true (sameT c d) with hA | hA
          · rw [hA]
            rw [hA, if_pos rfl] at Hst
            clear hA
            go_wp2_with fail
            go_roundw
            case rel => exact ⟨m + 1, by omega, by go_num, Hst.out, Hbm.out.trans (HxA.out.mono hzm)⟩
            case measure => simp [intOf]; omega
          · rw [hA]
            rw [hA, if_neg (by simp)] at Hst
            obtain ⟨z1, z2, z3, z4, z5, z6⟩ := Hq.out _ HxA.out
            clear hA q1 q2 r1 r2 q3 q4 q5 r3 r4 r5
            rcases Bool.eq_false_or_eq_true Y2 with hY | hY
            · subst hY
              go_wp2_with fail
              go_quiet (fail)
              go_wp2_with fail
              go_meet
              exact ⟨by simp, Hbm.out.trans ((HxA.out.trans (drewB _ _ _)).mono hzm)⟩
            · subst hY
              go_wp2_with fail
              go_quiet (fail)
              go_wp2_with fail
              go_meet
              exact ⟨by rw [Hst.out]; simp, Hbm.out.trans ((HxA.out.trans (drewB _ _ _)).mono hzm)⟩)
      · have hm2 : m = lx.length := by omega
        subst hm2
        have Hfin : Hid (firstN gt x.args y.args = false) := by
          have h1 : x.args.drop lx.length = [] := List.drop_eq_nil_of_le (by rw [Hlxl.out]; exact Nat.le_refl _)
          show _ = _
          rw [HF.out, h1]; rfl
        have hd1 : decide ((lx.length : Int) < lx.length) = false := by simp
        clear HF HC
        go_wp2_with fail
        go_quiet (fail)
        go_wp2_with fail
        rcases Bool.eq_false_or_eq_true Y2 with hY | hY
        · subst hY
          go_wp2_with fail
          go_quiet (fail)
          go_wp2_with fail
          go_meet
          exact ⟨by simp, Hbm.out.trans ⟨rfl, rfl, rfl, Nat.le_refl _, fun _ _ => rfl⟩⟩
        · subst hY
          go_wp2_with fail
          go_quiet (fail)
          go_wp2_with fail
          go_meet
          exact ⟨by rw [Hfin.out]; simp, Hbm.out.trans ⟨rfl, rfl, rfl, Nat.le_refl _, fun _ _ => rfl⟩⟩
  · subst hB
    clear HB
    go_wp2_with fail
    go_meet
    exact ⟨by simp, Below.refl _ _⟩

end Go.Proofs.Ytbkedppkdhfpoaa

namespace Go.Proofs.Ytbkedppkdhfpoaa
open Go.RowKit

attribute [local go_sem ↓] Go.wp_at_zero Go.wp_at_succ
set_option maxRecDepth 100000 in
set_option maxHeartbeats 4000000 in
theorem refGr : RefGr := by
  intro ar s sa sc t ta tc w hs ht hs1 ht1 hin hin2
  obtain ⟨W1, hW1⟩ : ∃ W1, W1 = ((w.alloc (.cells #[.int .i64 s.v, .int .i64 s.f, .slice sa s.args.length sc] 27)).alloc (.cells #[.int .i64 t.v, .int .i64 t.f, .slice ta t.args.length tc] 27)) := ⟨_, rfl⟩
  have hbW : Below w.heap.size w W1 := by rw [hW1]; exact below2 _ _ _
  have hzW : W1.heap.size = w.heap.size + 2 := by rw [hW1]; simp
  have H3s : Hid (Three W1 w.heap.size (.int .i64 s.v) (.int .i64 s.f) (.slice sa s.args.length sc)) := by rw [hW1]; exact (Three.new _ rfl).alloc _
  have H3t : Hid (Three W1 (w.heap.size + 1) (.int .i64 t.v) (.int .i64 t.f) (.slice ta t.args.length tc)) := by rw [hW1]; exact Three.new _ (by simp)
  have HW1 := hide hW1
  have hSA := hide (fun (w' : World) (hb : Below W1.heap.size W1 w') => (show w'.cell? ⟨w.heap.size, 0, none⟩ = some (.int .i64 s.v) ∧ w'.cell? ⟨w.heap.size, 1, none⟩ = some (.int .i64 s.f) ∧ w'.cell? ⟨w.heap.size, 2, none⟩ = some (.slice sa s.args.length sc) ∧ w'.cell? ⟨w.heap.size + 1, 0, none⟩ = some (.int .i64 t.v) ∧ w'.cell? ⟨w.heap.size + 1, 1, none⟩ = some (.int .i64 t.f) ∧ w'.cell? ⟨w.heap.size + 1, 2, none⟩ = some (.slice ta t.args.length tc) from ⟨(H3s.out.below hb).c0, (H3s.out.below hb).c1, (H3s.out.below hb).c2, (H3t.out.below hb).c0, (H3t.out.below hb).c1, (H3t.out.below hb).c2⟩))
  have HinSA := hide (fun (w' : World) (hb : Below W1.heap.size W1 w') => InP_below hb (InP_below hbW hin))
  have HinTA := hide (fun (w' : World) (hb : Below W1.heap.size W1 w') => InP_below hb (InP_below hbW hin2))
  clear hW1
  go_enter Try.func43, Try.ntmps43
  go_upto_region 1 with fail
  rw [← HW1.out]
  go_cut [5, 6] (fun v5 v6 wc => (∃ gs c1 lo, v5 = .slice (some ⟨gs, 0, none⟩) s.sz c1 ∧ PartsAt lo wc gs s) ∧ (∃ gt' c2 lo, v6 = .slice (some ⟨gt', 0, none⟩) t.sz c2 ∧ PartsAt lo wc gt' t) ∧ Hid (Below W1.heap.size W1 wc))
  case first => as_aux_lemma =>
    have hzz : w.heap.size + 1 < W1.heap.size := by omega
    clear hs ht hin hin2 H3s H3t HW1 hbW hzW
    go_region_held3 (fun w' => w'.cell? ⟨w.heap.size, 0, none⟩ = some (.int .i64 s.v) ∧ w'.cell? ⟨w.heap.size, 1, none⟩ = some (.int .i64 s.f) ∧ w'.cell? ⟨w.heap.size, 2, none⟩ = some (.slice sa s.args.length sc) ∧ w'.cell? ⟨w.heap.size + 1, 0, none⟩ = some (.int .i64 t.v) ∧ w'.cell? ⟨w.heap.size + 1, 1, none⟩ = some (.int .i64 t.f) ∧ w'.cell? ⟨w.heap.size + 1, 2, none⟩ = some (.slice ta t.args.length tc)) ((first | (refine hSA.out _ ?_; (repeat' (first | with_reducible exact Hid.out ‹Hid (Below _ _ _)› | with_reducible exact Below.refl _ _ | (with_reducible refine Below.drew ?_) | (refine Below.alloc ?_ ?_ _; rotate_left; focus (first | omega | (simp; omega) | (simp; done))))); done) | go_keep)) ((first
      | (go_at_call 58
         with_reducible refine (partsAt_one s sa sc _ hs1 ?_).mono ?_
         · exact HinSA.out _ (by repeat' (first | with_reducible exact Hid.out ‹Hid (Below _ _ _)› | with_reducible exact Below.refl _ _ | (with_reducible refine Below.drew ?_) | (refine Below.alloc ?_ ?_ _; rotate_left; focus (first | omega | (simp; omega) | (simp; done)))))
         rintro e xA1 ⟨gA1, cA1, rfl, hpA1, hbA1⟩
         have HxA1 : Hid (Below W1.heap.size W1 xA1) := by
           refine Below.trans (b := _) ?_ (hbA1.mono ?_)
           · repeat' (first | with_reducible exact Hid.out ‹Hid (Below _ _ _)› | with_reducible exact Below.refl _ _ | (with_reducible refine Below.drew ?_) | (refine Below.alloc ?_ ?_ _; rotate_left; focus (first | omega | (simp; omega) | (simp; done))))
           · first | omega | (simp; omega) | (simp; done)
         have hsxA1 := HxA1.out.size)
      | (go_at_call 58
         with_reducible refine (partsAt_one t ta tc _ ht1 ?_).mono ?_
         · exact HinTA.out _ (by repeat' (first | with_reducible exact Hid.out ‹Hid (Below _ _ _)› | with_reducible exact Below.refl _ _ | (with_reducible refine Below.drew ?_) | (refine Below.alloc ?_ ?_ _; rotate_left; focus (first | omega | (simp; omega) | (simp; done)))))
         rintro e xA2 ⟨gA2, cA2, rfl, hpA2, hbA2⟩
         have HxA2 : Hid (Below W1.heap.size W1 xA2) := by
           refine Below.trans (b := _) ?_ (hbA2.mono ?_)
           · repeat' (first | with_reducible exact Hid.out ‹Hid (Below _ _ _)› | with_reducible exact Below.refl _ _ | (with_reducible refine Below.drew ?_) | (refine Below.alloc ?_ ?_ _; rotate_left; focus (first | omega | (simp; omega) | (simp; done))))
           · first | omega | (simp; omega) | (simp; done)
         have hsxA2 := HxA2.out.size)))
    all_goals (go_wp2_with fail; go_meet; exact ⟨⟨gA1, cA1, _, rfl, by first | exact hpA1 | exact hpA1.below hbA2⟩, ⟨gA2, cA2, _, rfl, by first | exact hpA2 | exact hpA2.below hbA1⟩, by first | exact HxA1 | exact HxA2⟩)
  case rest =>
    obtain ⟨⟨gs, c1, lo1, rfl, hps⟩, ⟨gt', c2, lo2, rfl, hpt⟩, HB⟩ := hcut
    obtain ⟨WA, hWA⟩ : ∃ WA, WA = wc := ⟨_, rfl⟩
    subst hWA
    have hzA := HB.out.size
    have hSB := hide (fun (w' : World) (hb : Below WA.heap.size WA w') => hSA.out w' (HB.out.trans (hb.mono (by omega))))
    have HinSB := hide (fun (w' : World) (hb : Below WA.heap.size WA w') => HinSA.out w' (HB.out.trans (hb.mono (by omega))))
    have HinTB := hide (fun (w' : World) (hb : Below WA.heap.size WA w') => HinTA.out w' (HB.out.trans (hb.mono (by omega))))
    go_upto_region 2 with fail
    go_cut [7, 8] (fun v7 v8 wc => (∃ ga c3, v7 = .slice (some ⟨ga, 0, none⟩) s.sz c3 ∧ ListsAt wc ga (argsAt s 0)) ∧ (∃ gb c4, v8 = .slice (some ⟨gb, 0, none⟩) t.sz c4 ∧ ListsAt wc gb (argsAt t 0)) ∧ Hid (Below WA.heap.size WA wc))
    case first => as_aux_lemma =>
      have hzz : w.heap.size + 1 < WA.heap.size := by omega
      clear hs ht hin hin2 H3s H3t HW1 hbW hzW hps hpt hSA HinSA HinTA HB hzA
      go_region_held3 (fun w' => w'.cell? ⟨w.heap.size, 0, none⟩ = some (.int .i64 s.v) ∧ w'.cell? ⟨w.heap.size, 1, none⟩ = some (.int .i64 s.f) ∧ w'.cell? ⟨w.heap.size, 2, none⟩ = some (.slice sa s.args.length sc) ∧ w'.cell? ⟨w.heap.size + 1, 0, none⟩ = some (.int .i64 t.v) ∧ w'.cell? ⟨w.heap.size + 1, 1, none⟩ = some (.int .i64 t.f) ∧ w'.cell? ⟨w.heap.size + 1, 2, none⟩ = some (.slice ta t.args.length tc)) ((first | (refine hSB.out _ ?_; (repeat' (first | with_reducible exact Hid.out ‹Hid (Below _ _ _)› | with_reducible exact Below.refl _ _ | (with_reducible refine Below.drew ?_) | (refine Below.alloc ?_ ?_ _; rotate_left; focus (first | omega | (simp; omega) | (simp; done))))); done) | go_keep)) ((first
        | (go_at_call 82
           with_reducible refine (listsAt_one s sa sc _ hs1 ?_).mono ?_
           · exact HinSB.out _ (by repeat' (first | with_reducible exact Hid.out ‹Hid (Below _ _ _)› | with_reducible exact Below.refl _ _ | (with_reducible refine Below.drew ?_) | (refine Below.alloc ?_ ?_ _; rotate_left; focus (first | omega | (simp; omega) | (simp; done)))))
           rintro e xB1 ⟨gB1, cB1, rfl, hpB1, hbB1⟩
           have HxB1 : Hid (Below WA.heap.size WA xB1) := by
             refine Below.trans (b := _) ?_ (hbB1.mono ?_)
             · repeat' (first | with_reducible exact Hid.out ‹Hid (Below _ _ _)› | with_reducible exact Below.refl _ _ | (with_reducible refine Below.drew ?_) | (refine Below.alloc ?_ ?_ _; rotate_left; focus (first | omega | (simp; omega) | (simp; done))))
             · first | omega | (simp; omega) | (simp; done)
           have hsxB1 := HxB1.out.size)
        | (go_at_call 82
           with_reducible refine (listsAt_one t ta tc _ ht1 ?_).mono ?_
           · exact HinTB.out _ (by repeat' (first | with_reducible exact Hid.out ‹Hid (Below _ _ _)› | with_reducible exact Below.refl _ _ | (with_reducible refine Below.drew ?_) | (refine Below.alloc ?_ ?_ _; rotate_left; focus (first | omega | (simp; omega) | (simp; done)))))
           rintro e xB2 ⟨gB2, cB2, rfl, hpB2, hbB2⟩
           have HxB2 : Hid (Below WA.heap.size WA xB2) := by
             refine Below.trans (b := _) ?_ (hbB2.mono ?_)
             · repeat' (first | with_reducible exact Hid.out ‹Hid (Below _ _ _)› | with_reducible exact Below.refl _ _ | (with_reducible refine Below.drew ?_) | (refine Below.alloc ?_ ?_ _; rotate_left; focus (first | omega | (simp; omega) | (simp; done))))
             · first | omega | (simp; omega) | (simp; done)
           have hsxB2 := HxB2.out.size)))
      all_goals (go_wp2_with fail; go_meet; exact ⟨⟨gB1, cB1, rfl, by first | exact hpB1 | exact hpB1.below hbB2⟩, ⟨gB2, cB2, rfl, by first | exact hpB2 | exact hpB2.below hbB1⟩, by first | exact HxB1 | exact HxB2⟩)
    case rest =>
      obtain ⟨⟨ga, c3, rfl, hla⟩, ⟨gb, c4, rfl, hlb⟩, HB2⟩ := hcut
      obtain ⟨WB, hWB⟩ : ∃ WB, WB = wc := ⟨_, rfl⟩
      subst hWB
      have HPS := hide (fun (w' : World) (hb : Below WB.heap.size WB w') => (hps.below HB2.out).below hb)
      have HPT := hide (fun (w' : World) (hb : Below WB.heap.size WB w') => (hpt.below HB2.out).below hb)
      have HLA := hide (fun (w' : World) (hb : Below WB.heap.size WB w') => hla.below hb)
      have HLB := hide (fun (w' : World) (hb : Below WB.heap.size WB w') => hlb.below hb)
      have hzB := HB2.out.size
      have Hbw := hide (hbW.trans ((HB.out.trans (HB2.out.mono (by omega))).mono (by omega)))
      have hPl := parts_len s
      have hQl := parts_len t
      have HPl := hide hPl
      have HQl := hide hQl
      have hmkT := run_makeT s.sz (by omega)
      have hmkB := run_makeB t.sz (by omega)
      have hsp := s.sz_pos
      have htp := t.sz_pos
      have hzK : w.heap.size + 2 ≤ WB.heap.size := by omega
      clear hps hpt hla hlb hSA hSB HinSA HinTA HinSB HinTB HB HB2 H3s H3t HW1 hbW hzA hPl hQl hin hin2 hzW
      go_wp2_with fail
      go_loopw [10] (fun iv wr => ∃ (i : Nat) (M : Nat → Nat → Bool) (rb : Nat → Nat), i ≤ s.sz ∧ iv = .int .i64 i ∧ TT WB.heap.size s.sz t.sz i rb wr M ∧ Hid (Right (parts s) (parts t) M i 0) ∧ Below WB.heap.size WB wr) (fun iv _ => s.sz - (intOf iv).toNat)
      case atStart => exact ⟨0, _, _, Nat.zero_le _, rfl, TT.start WB s.sz t.sz, fun i' j x y _ _ h => by omega, below1 _ _⟩
      case round =>
        obtain ⟨i, M, rb, hi, rfl, htt, HR, hb⟩ := hrel
        have hlK := htt.ltK
        by_cases hlt : i < s.sz
        · obtain ⟨x, hx⟩ : ∃ x, (parts s)[i]? = some x := ⟨(parts s)[i]'(by rw [HPl.out]; exact hlt), List.getElem?_eq_getElem _⟩
          obtain ⟨v0, z0⟩ := htt.ex i hlt
          have z1 := htt.frK i
          have Htt := hide (htt.row hlt)
          have hzr := hb.size
          have Hb := hide ((hb.setCell (p := ⟨WB.heap.size, i, none⟩) (Nat.le_refl _) (.slice (some ⟨wr.heap.size, 0, none⟩) t.sz t.sz)).alloc (by simp [World.setCell]; omega) (.cells (rowB t.sz) 4))
          have HR2 : Hid (Right (parts s) (parts t) (fun i' j => if i' = i then false else M i' j) i 0) := fun i' j x' y' hx' hy' hd => by
            have hne : ¬ i' = i := by omega
            simp only [if_neg hne]
            exact HR.out i' j x' y' hx' hy' hd
          have hiI : (i : Int) < s.sz := by omega
          have hi0 : (0 : Int) ≤ i := by omega
          have Hx := hide hx
          clear htt hb hx HR
          go_wp2_with fail
          go_loopw [11] (fun kv wi => ∃ (k : Nat) (M : Nat → Nat → Bool) (rb : Nat → Nat), k ≤ t.sz ∧ kv = .int .i64 k ∧ TT WB.heap.size s.sz t.sz (i + 1) rb wi M ∧ Hid (Right (parts s) (parts t) M i k) ∧ Below WB.heap.size WB wi) (fun kv _ => t.sz - (intOf kv).toNat)
          case atStart => exact ⟨0, _, _, Nat.zero_le _, rfl, Htt.out, HR2.out, Hb.out⟩
          case round =>
            obtain ⟨k, M2, rb2, hk, rfl, htt2, HRk, hb2⟩ := hrel
            by_cases hlt2 : k < t.sz
            · obtain ⟨y, hy⟩ : ∃ y, (parts t)[k]? = some y := ⟨(parts t)[k]'(by rw [HQl.out]; exact hlt2), List.getElem?_eq_getElem _⟩
              obtain ⟨xa, xc, x0, x1, x2, hxi⟩ := (HPS.out wr hb2).2 i x Hx.out
              obtain ⟨ya, yc, y0, y1, y2, hyi⟩ := (HPT.out wr hb2).2 k y hy
              have hkI : (k : Int) < t.sz := by omega
              have hk0 : (0 : Int) ≤ k := by omega
              have hzw := hb2.size
              have hgs := (HPS.out wr hb2).1
              have hgt' := (HPT.out wr hb2).1
              have Hy := hide hy
              have hS := hide (fun (w' : World) (hb : Below wr.heap.size wr w') => (show w'.cell? ⟨gs, i * 3, none⟩ = some (.int .i64 x.v) ∧ w'.cell? ⟨gs, i * 3 + 1, none⟩ = some (.int .i64 x.f) ∧ w'.cell? ⟨gs, i * 3 + 2, none⟩ = some (.slice xa x.args.length xc) ∧ w'.cell? ⟨gt', k * 3, none⟩ = some (.int .i64 y.v) ∧ w'.cell? ⟨gt', k * 3 + 1, none⟩ = some (.int .i64 y.f) ∧ w'.cell? ⟨gt', k * 3 + 2, none⟩ = some (.slice ya y.args.length yc) from ⟨by rw [hb.cell (p := ⟨gs, _, none⟩) hgs]; exact x0, by rw [hb.cell (p := ⟨gs, _, none⟩) hgs]; exact x1, by rw [hb.cell (p := ⟨gs, _, none⟩) hgs]; exact x2, by rw [hb.cell (p := ⟨gt', _, none⟩) hgt']; exact y0, by rw [hb.cell (p := ⟨gt', _, none⟩) hgt']; exact y1, by rw [hb.cell (p := ⟨gt', _, none⟩) hgt']; exact y2⟩))
              have Htt2 := hide htt2
              have Hb2 := hide hb2
              clear htt2 hb2 hy Htt Hb HR2 z0 z1
              go_upto_region 11 with fail
              go_cut [12, 13] (fun v12 v13 wc => ∃ b1 b2, v12 = .pointer (some ⟨b1, 0, none⟩) ∧ v13 = .pointer (some ⟨b2, 0, none⟩) ∧ Three wc b1 (.int .i64 x.v) (.int .i64 x.f) (.slice xa x.args.length xc) ∧ Three wc b2 (.int .i64 y.v) (.int .i64 y.f) (.slice ya y.args.length yc) ∧ Hid (Below wr.heap.size wr wc))
              case first => as_aux_lemma =>
                go_region_held3 (fun w' => w'.cell? ⟨gs, i * 3, none⟩ = some (.int .i64 x.v) ∧ w'.cell? ⟨gs, i * 3 + 1, none⟩ = some (.int .i64 x.f) ∧ w'.cell? ⟨gs, i * 3 + 2, none⟩ = some (.slice xa x.args.length xc) ∧ w'.cell? ⟨gt', k * 3, none⟩ = some (.int .i64 y.v) ∧ w'.cell? ⟨gt', k * 3 + 1, none⟩ = some (.int .i64 y.f) ∧ w'.cell? ⟨gt', k * 3 + 2, none⟩ = some (.slice ya y.args.length yc)) ((first | (refine hS.out _ ?_; (repeat' (first | with_reducible exact Hid.out ‹Hid (Below _ _ _)› | with_reducible exact Below.refl _ _ | (with_reducible refine Below.drew ?_) | (refine Below.alloc ?_ ?_ _; rotate_left; focus (first | omega | (simp; omega) | (simp; done))))); done) | go_keep)) ((fail))
                all_goals (go_wp2_with fail; go_meet; refine ⟨_, _, rfl, rfl, ?_, ?_, Below.drew (below2 _ _ _)⟩)
                all_goals (refine Three.below ?_ (Below.drew (Below.refl _ _)); first | exact (Three.new _ rfl).alloc _ | exact Three.new _ (by simp))
              case rest => as_aux_lemma =>
                obtain ⟨b1, b2, rfl, rfl, hX, hY, HBc⟩ := hcut
                obtain ⟨WC, hWC⟩ : ∃ WC, WC = wc := ⟨_, rfl⟩
                subst hWC
                obtain ⟨lx, hlx, hlxl, hlxm⟩ := args_of Hx.out
                obtain ⟨ly, hly, hlyl, hlym⟩ := args_of Hy.out
                have HbC : Hid (Below WB.heap.size WB WC) := Hb2.out.trans (HBc.out.mono hzw)
                obtain ⟨xla, xlc, qx, qxi⟩ := (HLA.out WC HbC.out).2 i lx hlx
                obtain ⟨yla, ylc, qy, qyi⟩ := (HLB.out WC HbC.out).2 k ly hly
                have HC : Hid (Cx lo1 lo2 WB.heap.size s t x y i k gs gt' ga gb b1 b2 xla xlc lx yla ylc ly rb2 M2 xa xc ya yc WC) :=
                  ⟨Hx.out, Hy.out, hlxl, hlyl, hlxm, hlym, qx, qxi, qy, qyi, HPS.out WC HbC.out, HPT.out WC HbC.out, Htt2.out.below HBc.out, HRk.out, hX, hY, InP_imp (fun _ _ => trivial) (InP_below HBc.out hyi)⟩
                have hxs := (okP_parts (ar := ar) s.sz).1 s (Nat.le_refl _) hs x (List.mem_of_getElem? Hx.out)
                have hys := (okP_parts (ar := ar) t.sz).1 t (Nat.le_refl _) ht y (List.mem_of_getElem? Hy.out)
                have Hox := hide hxs.1
                have Hoy := hide hys.1
                have hxs2 := hxs.2
                have hys2 := hys.2
                have hlx1 := T.length_le x.args
                have hly1 := T.length_le y.args
                have hxe := T.sz_eq x
                have hye := T.sz_eq y
                have hxv := hX.c0
                have Hlxl := hide hlxl
                have Hlyl := hide hlyl
                have hlx2 : lx.length ≤ 120 := by omega
                have hly2 : ly.length ≤ 120 := by omega
                clear hlxm hlym hX hY hS x0 x1 x2 y0 y1 y2 hxs hys qx qxi qy qyi hxi hyi hlxl hlyl hlx hly hlx1 hly1 hxe hye
                have hbd : i < s.sz ∧ k < t.sz ∧ s.sz ≤ 120 ∧ t.sz ≤ 120 ∧ x.sz ≤ s.sz ∧ y.sz ≤ t.sz ∧ lx.length ≤ 120 ∧ ly.length ≤ 120 := ⟨hlt, hlt2, hs1, ht1, hxs2, hys2, hlx2, hly2⟩
                go_upto_if 59 with fail
                go_cut [14] (fun v14 wc => v14 = .bool (decide (x.v = 0) && x.args.any (fun a => gt a y || sameT a y)) ∧ Hid (Below WC.heap.size WC wc))
                case first =>
                  rename_i J K' hJ hK
                  exact grefI HC hbd hJ hK
                case rest =>
                  obtain ⟨rfl, HB3⟩ := hcut
                  obtain ⟨WD, hWD⟩ : ∃ WD, WD = wc := ⟨_, rfl⟩
                  subst hWD
                  have HD := hide (HC.out.below HB3.out)
                  have hzC := HbC.out.size
                  have HbD : Hid (Below WB.heap.size WB WD) := HbC.out.trans (HB3.out.mono hzC)
                  obtain ⟨Y1, hY1⟩ : ∃ Y1, Y1 = (decide (x.v = 0) && x.args.any (fun a => gt a y || sameT a y)) := ⟨_, rfl⟩
                  rw [← hY1]
                  have HY1 := hide hY1
                  have x0 := HD.out.bx.c0
                  have x1 := HD.out.bx.c1
                  have y0 := HD.out.bY.c0
                  have y1 := HD.out.bY.c1
                  clear hY1 hxv HC HB3
                  go_upto_region 19 with fail
                  go_cut [17] (fun v17 wc => v17 = .bool (decide (x.v = 0) && decide (y.v = 0) && decide (y.f ≤ x.f)) ∧ Hid (wc = WD))
                  case first => as_aux_lemma =>
                    by_cases h1 : x.v = 0
                    · have e1 : (x.v == 0) = true := by simpa using h1
                      have H1 := hide h1
                      clear h1
                      by_cases h2 : y.v = 0
                      · have e2 : (y.v == 0) = true := by simpa using h2
                        have H2 := hide h2
                        clear h2
                        by_cases h3 : y.f ≤ x.f
                        · go_wp2_with fail
                          go_meet
                          exact ⟨by simp [H1.out, H2.out, h3], rfl⟩
                        · go_wp2_with fail
                          go_meet
                          exact ⟨by simp [h3], rfl⟩
                      · have e2 : (y.v == 0) = false := by simpa using h2
                        have H2 := hide h2
                        clear h2
                        go_wp2_with fail
                        go_meet
                        exact ⟨by simp [H2.out], rfl⟩
                    · have e1 : (x.v == 0) = false := by simpa using h1
                      have H1 := hide h1
                      clear h1
                      go_wp2_with fail
                      go_meet
                      exact ⟨by simp [H1.out], rfl⟩
                  case rest =>
                    obtain ⟨rfl, HwD⟩ := hcut
                    obtain rfl := HwD.out.symm
                    obtain ⟨A0, hA0⟩ : ∃ A0, A0 = (decide (x.v = 0) && decide (y.v = 0) && decide (y.f ≤ x.f)) := ⟨_, rfl⟩
                    rw [← hA0]
                    have HA0 := hide hA0
                    clear hA0 HwD x0 x1 y0 y1
                    go_upto_block 6 with fail
                    go_cut [17] (fun v17 w9 => v17 = .bool (A0 && y.args.all (fun c => gt x c)) ∧ Hid (Below WD.heap.size WD w9))
                    case first =>
                      rename_i J K' hJ hK
                      exact grefL HD hbd hJ hK
                    case rest => as_aux_lemma =>
                      obtain ⟨rfl, HB5⟩ := hcut
                      obtain ⟨WE, hWE⟩ : ∃ WE, WE = wc := ⟨_, rfl⟩
                      subst hWE
                      have HE := hide (HD.out.below HB5.out)
                      have HbE : Hid (Below WB.heap.size WB WE) := HbD.out.trans (HB5.out.mono HbD.out.size)
                      obtain ⟨A1, hA1⟩ : ∃ A1, A1 = (A0 && y.args.all (fun c => gt x c)) := ⟨_, rfl⟩
                      rw [← hA1]
                      have HA1 := hide hA1
                      have x1 := HE.out.bx.c1
                      have y1 := HE.out.bY.c1
                      clear hA1 HD HbD hzC HB5
                      go_upto_region 24 with fail
                      go_cut [141] (fun v141 wc => v141 = .bool (A1 && decide (y.f < x.f)) ∧ Hid (wc = WE))
                      case first => as_aux_lemma =>
                        cases A1
                        · go_wp2_with fail
                          go_meet
                          exact ⟨by simp, rfl⟩
                        · go_wp2_with fail
                          go_meet
                          exact ⟨by simp, rfl⟩
                      case rest =>
                        obtain ⟨rfl, HwE⟩ := hcut
                        obtain rfl := HwE.out.symm
                        clear HwE
                        go_upto_if 141 with fail
                        go_cut [14] (fun v14 wc => v14 = .bool (Y1 || (A1 && decide (y.f < x.f))) ∧ Hid (wc = WE))
                        case first => as_aux_lemma =>
                          rcases Bool.eq_false_or_eq_true (A1 && decide (y.f < x.f)) with hA | hA
                          · rw [hA]
                            have HA := hide hA
                            clear hA
                            go_wp2_with fail
                            go_meet
                            exact ⟨by rw [HA.out]; simp, rfl⟩
                          · rw [hA]
                            have HA := hide hA
                            clear hA
                            go_wp2_with fail
                            go_meet
                            exact ⟨by rw [HA.out]; simp, rfl⟩
                        case rest =>
                          obtain ⟨rfl, HwE⟩ := hcut
                          obtain rfl := HwE.out.symm
                          obtain ⟨Y2, hY2⟩ : ∃ Y2, Y2 = (Y1 || (A1 && decide (y.f < x.f))) := ⟨_, rfl⟩
                          rw [← hY2]
                          have HY2 := hide hY2
                          clear hY2 HwE
                          go_upto_region 26 with fail
                          go_cut [149] (fun v149 wc => v149 = .bool (A1 && decide (x.f = y.f)) ∧ Hid (wc = WE))
                          case first => as_aux_lemma =>
                            cases A1
                            · go_wp2_with fail
                              go_meet
                              exact ⟨by simp, rfl⟩
                            · by_cases h3 : x.f = y.f
                              · have e3 : (x.f == y.f) = true := by simpa using h3
                                have H3 := hide h3
                                clear h3
                                go_wp2_with fail
                                go_meet
                                exact ⟨by simp [H3.out], rfl⟩
                              · have e3 : (x.f == y.f) = false := by simpa using h3
                                have H3 := hide h3
                                clear h3
                                go_wp2_with fail
                                go_meet
                                exact ⟨by simp [H3.out], rfl⟩
                          case rest =>
                            obtain ⟨rfl, HwE⟩ := hcut
                            obtain rfl := HwE.out.symm
                            obtain ⟨B1, hB1⟩ : ∃ B1, B1 = (A1 && decide (x.f = y.f)) := ⟨_, rfl⟩
                            rw [← hB1]
                            have HB1 := hide hB1
                            have HBxy : Hid (B1 = true → x.args.length = y.args.length) := fun h => by
                              rw [HB1.out, HA1.out, HA0.out] at h
                              simp only [Bool.and_eq_true, decide_eq_true_eq] at h
                              exact same_arity Hox.out Hoy.out h.1.1.1.1 h.1.1.1.2 h.2
                            clear hB1 HwE x1 y1
                            go_upto_if 149 with fail
                            go_cut [14] (fun v14 w9 => v14 = .bool (Y2 || (B1 && firstN gt x.args y.args)) ∧ Hid (Below WE.heap.size WE w9))
                            case first =>
                              rename_i J K' hJ hK
                              exact grefE HE hbd HBxy hJ hK
                            case rest => as_aux_lemma =>
                              obtain ⟨rfl, HB7⟩ := hcut
                              obtain ⟨WF, hWF⟩ : ∃ WF, WF = wc := ⟨_, rfl⟩
                              subst hWF
                              have HF := hide (HE.out.below HB7.out)
                              have HbF : Hid (Below WB.heap.size WB WF) := HbE.out.trans (HB7.out.mono HbE.out.size)
                              have hval : (Y2 || (B1 && firstN gt x.args y.args)) = gt x y := by
                                rw [gt_ref Hox.out Hoy.out, refBody, HY2.out, HB1.out, HA1.out, HA0.out, HY1.out]
                                cases (decide (x.v = 0) && x.args.any (fun a => gt a y || sameT a y)) <;> cases (decide (x.v = 0) && decide (y.v = 0) && decide (y.f ≤ x.f) && y.args.all (fun c => gt x c)) <;> simp
                              rw [hval]
                              have z1 := HF.out.tt.rows i (by omega)
                              have z2 := HF.out.tt.ent i k (by omega) hlt2
                              have z3 := HF.out.tt.fr i k (by omega)
                              have Htt3 := hide (HF.out.tt.set (show i < i + 1 by omega) hlt2 (gt x y))
                              have HR3 := hide (Right.set HRk.out Hx.out Hy.out)
                              have hgK := HF.out.tt.gtK i (by omega)
                              have Hb3 := hide (HbF.out.setCell (p := ⟨rb2 i, k, none⟩) (show WB.heap.size ≤ rb2 i by omega) (.bool (gt x y)))
                              clear hval HB7 HE HbE HF HBxy HB1 HY2 HA1 HA0 HY1
                              go_wp2_with fail
                              go_roundw
                              case rel => exact ⟨k + 1, _, rb2, by omega, by go_num, Htt3.out, HR3.out, Hb3.out⟩
                              case measure => simp [intOf]; omega
            · have hk2 : k = t.sz := by omega
              subst hk2
              have HR3 := hide (Right.row HRk.out HQl.out.symm)
              clear HRk
              go_wp2_with fail
              go_roundw
              case rel => exact ⟨i + 1, M2, rb2, by omega, by go_num, htt2, HR3.out, hb2⟩
              case measure => simp [intOf]; omega
        · have hi2 : i = s.sz := by omega
          subst hi2
          have ePS : (parts s)[s.sz - 1]? = some s := by
            rw [parts_eq, List.getElem?_append_right (by rw [partsL_len]; have := T.sz_eq s; omega), partsL_len, show s.sz - 1 - T.sz.szL s.args = 0 by have := T.sz_eq s; omega]; rfl
          have ePT : (parts t)[t.sz - 1]? = some t := by
            rw [parts_eq, List.getElem?_append_right (by rw [partsL_len]; have := T.sz_eq t; omega), partsL_len, show t.sz - 1 - T.sz.szL t.args = 0 by have := T.sz_eq t; omega]; rfl
          have hfin := HR.out (s.sz - 1) (t.sz - 1) s t ePS ePT (by omega)
          have q1 := htt.rows (s.sz - 1) (by omega)
          have q2 := htt.ent (s.sz - 1) (t.sz - 1) (by omega) (by omega)
          rw [hfin] at q2
          obtain ⟨P', hP'⟩ : ∃ P', s.sz = P' + 1 := ⟨s.sz - 1, by omega⟩
          obtain ⟨Q', hQ'⟩ : ∃ Q', t.sz = Q' + 1 := ⟨t.sz - 1, by omega⟩
          rw [hP', hQ'] at q1
          rw [hP', hQ'] at q2
          simp only [Nat.add_sub_cancel] at q1 q2
          have Hbf : Hid (Below w.heap.size w wr) := Hbw.out.trans (hb.mono (by omega))
          rw [hP', hQ']
          clear hfin ePS ePT htt HR hb
          go_wp2_with fail
          go_ret
          exact ⟨rfl, Hbf.out⟩

end Go.Proofs.Ytbkedppkdhfpoaa
