/- Texts: ParseTerm. Texts: what must be in any case. The document's SameClause, at one clause that lies at two places. Texts: what is written is read as it was, and nothing else is: the law. The arguments of the statements, read: signatures, terms, places. A clause and a model that a statement is handed, read. -/
import Derived.BigQuiet
import Derived.ChangeOld
import Derived.Deep.RegionHeld3
import Derived.Deep.Slices
import Derived.Deep.Strs
import Derived.OpenShut
import Derived.ProofKit
import Derived.Test.YtbkedppkdhfpoaaDoorJoined5
namespace Go.Proofs.YtbkedppkdhfpoaaDoor
open Go.RowKit

/-- What a term's text is wrong in. -/
def ptErr (ar : List Int) (l : List UInt8) : Int := if sigErr ar = 0 then (if 3000 < l.length then 2 else match rdT 3001 l with | some (t, []) => allErr ar [t] | _ => 1) else sigErr ar
/-- The term of a text. -/
def ptT (ar : List Int) (l : List UInt8) : T := if ptErr ar l = 0 then (match rdT 3001 l with | some (t, _) => t | none => ⟨0, 0, []⟩) else ⟨0, 0, []⟩
theorem ptT_err {ar : List Int} {l : List UInt8} (h : ptErr ar l ≠ 0) : ptT ar l = ⟨0, 0, []⟩ := by rw [ptT, if_neg h]
theorem pt_sig {ar : List Int} {l : List UInt8} (h : sigErr ar ≠ 0) : ptErr ar l = sigErr ar := by rw [ptErr, if_neg h]
theorem pt_long {ar : List Int} {l : List UInt8} (h : sigErr ar = 0) (hl : 3000 < l.length) : ptErr ar l = 2 := by rw [ptErr, if_pos h, if_pos hl]
theorem pt_none {ar : List Int} {l : List UInt8} (h : sigErr ar = 0) (hl : l.length ≤ 3000) (hr : rdT 3001 l = none) : ptErr ar l = 1 := by rw [ptErr, if_pos h, if_neg (by omega), hr]
theorem pt_more {ar : List Int} {l : List UInt8} {t : T} {r : List UInt8} (h : sigErr ar = 0) (hl : l.length ≤ 3000) (hr : rdT 3001 l = some (t, r)) (h0 : r ≠ []) : ptErr ar l = 1 := by
  rw [ptErr, if_pos h, if_neg (by omega), hr]
  cases r with
  | nil => exact absurd rfl h0
  | cons a r => rfl
theorem pt_some {ar : List Int} {l : List UInt8} {t : T} (h : sigErr ar = 0) (hl : l.length ≤ 3000) (hr : rdT 3001 l = some (t, [])) : ptErr ar l = allErr ar [t] := by rw [ptErr, if_pos h, if_neg (by omega), hr]
theorem ptT_some {ar : List Int} {l : List UInt8} {t : T} {r : List UInt8} (h : ptErr ar l = 0) (hr : rdT 3001 l = some (t, r)) : ptT ar l = t := by rw [ptT, if_pos h, hr]
theorem tErr_one (ar : List Int) (t : T) : tErr ar [t] = allErr ar [t] := by
  rw [tErr, tErr]
  split
  · rename_i h; exact h.symm
  · rfl
/-- What ParseTerm hands back. -/
def PtOut (E : Int) (C : T) (w : World) (e : Ending) (w' : World) : Prop := ∃ a cap, e = .returned (.tuple #[.agg #[.int .i64 C.v, .int .i64 C.f, .slice a C.args.length cap], .int .i64 E]) ∧ InP (fun k => w.heap.size ≤ k) w' C.args a ∧ Below w.heap.size w w'
attribute [local go_sem ↓] Go.wp_at_zero Go.wp_at_succ
set_option maxRecDepth 100000 in
set_option maxHeartbeats 2000000 in
theorem parseTerm_any (ar : List Int) (ga : Option Addr) (gcap : Nat) (l : List UInt8) (w : World) (hg : Ints w ar ga) :
    Calls Tryd.prog 11 #[.agg #[.slice ga ar.length gcap], .string ⟨l.toArray⟩] w (PtOut (ptErr ar l) (ptT ar l) w) := by
  have hmf : ∀ (fn : Fn) (first cap : Array Value) (w : World), (Instr.makeFunc fn first cap).run Tryd.prog w = .ok (.func fn first cap) w := fun _ _ _ _ => rfl
  have heg : ∀ (args : Array Value) (w : World), (callFunc 22 args).run Tryd.prog w = .ok (.enter 22 args) w := fun args w => by kernel_rfl
  obtain ⟨W1, hW1⟩ : ∃ W1, W1 = (w.alloc (.cells #[.slice ga ar.length gcap] 24)).alloc (.cells #[.int .i64 0, .int .i64 0, .slice none 0 0] 38) := ⟨_, rfl⟩
  have hbW : Below w.heap.size w W1 := by rw [hW1]; exact below2 _ _ _
  have hz1 : W1.heap.size = w.heap.size + 2 := by rw [hW1]; simp
  have hcg : W1.cell? ⟨w.heap.size, 0, none⟩ = some (.slice ga ar.length gcap) := by rw [hW1, cell_alloc_lt (by simp)]; exact cell_new 0 rfl
  have h3 : Three W1 (w.heap.size + 1) (.int .i64 0) (.int .i64 0) (.slice none 0 0) := by rw [hW1]; exact Three.new _ (by simp)
  have hg1 := Ints_below hbW hg
  have HS := hide (signature_any ar ga gcap W1 hg1)
  have Hg1 := hide hg1
  obtain ⟨E, hE⟩ : ∃ E, E = ptErr ar l := ⟨_, rfl⟩
  obtain ⟨C, hC⟩ : ∃ C, C = ptT ar l := ⟨_, rfl⟩
  rw [← hE, ← hC]
  have HE := hide hE
  have HC := hide hC
  obtain ⟨S, hS⟩ : ∃ S, S = sigErr ar := ⟨_, rfl⟩
  rw [← hS] at HS
  have HSg := hide hS
  have HW1 := hide hW1
  have HbW := hide hbW
  have Hz1 := hide hz1
  have g0 := hcg
  have Hcg := hide hcg
  have H3 := hide h3
  clear hE hC hS hW1 hbW hz1 hg hg1 hcg h3
  go_enter Tryd.func11, Tryd.ntmps11
  go_upto_region 1 with fail
  rw [← HW1.out]
  go_wp2_with fail
  refine HS.out.mono ?_
  rintro e w2 ⟨rfl, hb2⟩
  have Hb2 := hide hb2
  have Hf2 := hide (HbW.out.trans (hb2.mono (by have := Hz1.out; omega)))
  have hz2 := hb2.size
  have H32 := hide (H3.out.below hb2)
  clear hb2 HS g0
  by_cases h0 : S = 0
  · obtain ⟨W3, hW3⟩ : ∃ W3, W3 = w2.alloc (.cells #[.int .i64 0, .int .i64 0, .slice none 0 0] 38) := ⟨_, rfl⟩
    have hb3 : Below w2.heap.size w2 W3 := by rw [hW3]; exact below1 _ _
    have hz3 : W3.heap.size = w2.heap.size + 1 := by rw [hW3]; simp
    have hk3 : Three W3 w2.heap.size (.int .i64 0) (.int .i64 0) (.slice none 0 0) := by rw [hW3]; exact Three.new _ rfl
    have HRd := hide (read_any 22 w2.heap.size l W3 (LaidT w2.heap.size l W3) (rdT 3001 l = none) (by omega) heg (fun b Y hb hY hi hl => readsT_any w2.heap.size l W3 _ _ _ hk3 b Y hb hY hi hl) (fun r W v h => LaidT.set (by omega) r W v h))
    have Hs0 := hide (show sigErr ar = 0 by rw [← HSg.out]; exact h0)
    subst h0
    have HW3 := hide hW3
    have Hz3 := hide hz3
    have Hb3 := hide (Hb2.out.trans (hb3.mono Hb2.out.size))
    have H33 := hide (H32.out.below hb3)
    clear hW3 hb3 hz3 hk3 heg
    go_wp2_with fail
    rw [← HW3.out]
    refine HRd.out.mono ?_
    rintro e w4 ⟨hr4, hread⟩
    have HR4 := hide hr4
    have Hb4 := hide (show Below W1.heap.size W1 w4 from Hb3.out.trans (hr4.below.mono (by omega)))
    have Hf4 := hide (HbW.out.trans (Hb4.out.mono (by have := Hz1.out; omega)))
    have H34 := hide (H33.out.rd hr4 (by have := Hz1.out; omega))
    clear hr4
    rcases hread with ⟨hlong, rfl⟩ | ⟨hshort, ⟨rfl, c, a, cap, hrd, hk4, hq4⟩ | ⟨rfl, hnone⟩⟩
    · obtain rfl : E = 2 := by rw [HE.out, pt_long Hs0.out hlong]
      obtain rfl : C = ⟨0, 0, []⟩ := by rw [HC.out, ptT_err]; rw [← HE.out]; decide
      clear HE HC
      obtain ⟨q0, q1, q2, f0, f1, f2⟩ := H34.out
      obtain ⟨d0, d1, d2, -, -, -⟩ := H34.out.set (.int .i64 0) (.int .i64 0) (.slice none 0 0)
      go_wp2_with fail
      exact bodyPost_ret (v := .tuple #[.agg #[.int .i64 0, .int .i64 0, .slice none 0 0], .int .i64 2]) (by simp [results, Tryd.results11, go_sem, d0, d1, d2]) rfl ⟨none, 0, rfl, InP_nil, bel3 Hf4.out (Nat.le_succ _) _ _ _⟩
    · obtain ⟨k0, k1, k2, -, -, -⟩ := hk4
      have g4 := cell_below Hb4.out Hcg.out
      have hinc : InL (w4.alloc (.cells #[.int .i64 c.v, .int .i64 c.f, .slice a c.args.length cap] 38)) [c] (some ⟨w4.heap.size, 0, none⟩) := InP_new1 _ rfl trivial (InP_imp (fun _ _ => trivial) hq4)
      have HCk := hide (show Calls Tryd.prog 24 #[.agg #[.slice ga ar.length gcap], .slice (some ⟨w4.heap.size, 0, none⟩) 1 1] (w4.alloc (.cells #[.int .i64 c.v, .int .i64 c.f, .slice a c.args.length cap] 38)) _ from tcheck_any ar ga gcap [c] (some ⟨w4.heap.size, 0, none⟩) 1 _ (by simp) (Ints_below (below1 _ _) (Ints_below Hb4.out Hg1.out)) hinc)
      have HEs := hide (pt_some Hs0.out hshort hrd)
      rw [← HE.out, ← tErr_one] at HEs
      rw [← HEs.out] at HCk
      have Hq4 := hide hq4
      have Hrd := hide hrd
      have Hk4 := hide (And.intro k0 (And.intro k1 k2))
      clear hq4 hrd hinc
      go_wp2_with fail
      refine HCk.out.mono ?_
      rintro e w5 ⟨rfl, hb5⟩
      have hb5' : Below w4.heap.size w4 w5 := (below1 w4 _).trans (hb5.mono (by simp))
      have Hb5 := hide hb5'
      have Hf5 := hide (Hf4.out.trans (hb5'.mono Hf4.out.size))
      have H35 := hide (H34.out.below hb5')
      clear hb5 hb5' HCk k0 k1 k2 g4
      have k0 := cell_below Hb5.out Hk4.out.1
      have k1 := cell_below Hb5.out Hk4.out.2.1
      have k2 := cell_below Hb5.out Hk4.out.2.2
      obtain ⟨q0, q1, q2, f0, f1, f2⟩ := H35.out
      by_cases hE0 : E = 0
      · obtain rfl : C = c := by rw [HC.out]; exact ptT_some (by rw [← HE.out]; exact hE0) Hrd.out
        subst hE0
        obtain ⟨d0, d1, d2, -, -, -⟩ := H35.out.set (.int .i64 C.v) (.int .i64 C.f) (.slice a C.args.length cap)
        clear HE HEs HC
        go_wp2_with fail
        refine bodyPost_ret (v := .tuple #[.agg #[.int .i64 C.v, .int .i64 C.f, .slice a C.args.length cap], .int .i64 0]) (by simp [results, Tryd.results11, go_sem, d0, d1, d2]) rfl ⟨a, cap, rfl, ?_, bel3 Hf5.out (Nat.le_succ _) _ _ _⟩
        have := Hf2.out.size
        have := Hz3.out
        have := Hz1.out
        exact InP_imp (fun k (hk : W3.heap.size < k) => by omega) (InP_same (fun k hk _ => blk3 (by omega)) (InP_below Hb5.out Hq4.out))
      · have h0' : (E != 0) = true := by simpa using hE0
        obtain rfl : C = ⟨0, 0, []⟩ := by rw [HC.out, ptT_err]; rw [← HE.out]; exact hE0
        obtain ⟨d0, d1, d2, -, -, -⟩ := H35.out.set (.int .i64 0) (.int .i64 0) (.slice none 0 0)
        clear hE0 HE HEs HC
        go_wp2_with fail
        exact bodyPost_ret (v := .tuple #[.agg #[.int .i64 0, .int .i64 0, .slice none 0 0], .int .i64 E]) (by simp [results, Tryd.results11, go_sem, d0, d1, d2]) rfl ⟨none, 0, rfl, InP_nil, bel3 Hf5.out (Nat.le_succ _) _ _ _⟩
    · obtain rfl : E = 1 := by
        rw [HE.out]
        rcases hnone with hnone | ⟨r, W, hr, c, a, cap, hrd, -⟩
        · exact pt_none Hs0.out hshort hnone
        · exact pt_more Hs0.out hshort hrd hr
      obtain rfl : C = ⟨0, 0, []⟩ := by rw [HC.out, ptT_err]; rw [← HE.out]; decide
      clear HE HC hnone
      obtain ⟨q0, q1, q2, f0, f1, f2⟩ := H34.out
      obtain ⟨d0, d1, d2, -, -, -⟩ := H34.out.set (.int .i64 0) (.int .i64 0) (.slice none 0 0)
      go_wp2_with fail
      exact bodyPost_ret (v := .tuple #[.agg #[.int .i64 0, .int .i64 0, .slice none 0 0], .int .i64 1]) (by simp [results, Tryd.results11, go_sem, d0, d1, d2]) rfl ⟨none, 0, rfl, InP_nil, bel3 Hf4.out (Nat.le_succ _) _ _ _⟩
  · have h0' : (S != 0) = true := by simpa using h0
    have hES : E = S := by rw [HE.out, HSg.out]; exact pt_sig (by rw [← HSg.out]; exact h0)
    obtain rfl : C = ⟨0, 0, []⟩ := by rw [HC.out, ptT_err]; rw [← HE.out, hES]; exact h0
    subst hES
    obtain ⟨q0, q1, q2, f0, f1, f2⟩ := H32.out
    obtain ⟨d0, d1, d2, -, -, -⟩ := H32.out.set (.int .i64 0) (.int .i64 0) (.slice none 0 0)
    clear HE HC h0
    go_wp2_with fail
    exact bodyPost_ret (v := .tuple #[.agg #[.int .i64 0, .int .i64 0, .slice none 0 0], .int .i64 E]) (by simp [results, Tryd.results11, go_sem, d0, d1, d2]) rfl ⟨none, 0, rfl, InP_nil, bel3 Hf2.out (Nat.le_succ _) _ _ _⟩
end Go.Proofs.YtbkedppkdhfpoaaDoor

namespace Go.Proofs.YtbkedppkdhfpoaaDoor
open Go.RowKit

def tyX : T := ⟨1, 0, []⟩
def tyA : T := ⟨0, 1, [tyX]⟩
def tyO : T := ⟨0, 0, []⟩
def tyC : List Lit := [(true, tyA, tyO), (false, tyX, tyO)]
def tyY : T := ⟨3, 0, []⟩
def tyT : T := ⟨0, 1, [tyY]⟩
def tyS : List UInt8 := [102, 49, 40, 88, 49, 41, 32, 61, 32, 102, 48, 32, 124, 32, 88, 49, 32, 33, 61, 32, 102, 48]
def tyU : List UInt8 := [102, 49, 40, 88, 51, 41]
theorem ty_ok : clausesErr [0, 1] [tyC] = 0 := by rfl
theorem ty_sig : sigErr [0, 1] = 0 := by rfl
theorem ty_text : clauseL tyC = tyS := by decide +kernel
theorem ty_term : textT tyT = tyU := by decide +kernel
theorem ty_all : allErr [0, 1] [tyT] = 0 := by rfl
theorem ty_rd : rdCl 3001 tyS = some (tyC, []) := by rw [← ty_text]; exact cl_round ty_ok 3001 (by decide)
theorem ty_pe : pcErr [0, 1] tyS = 0 := by rw [pc_some ty_sig (by decide) ty_rd]; exact ty_ok
theorem ty_pc : pcC [0, 1] tyS = tyC := pcC_some ty_pe ty_rd
theorem ty_rt : rdT 3001 tyU = some (tyT, []) := by rw [← ty_term]; exact term_round ty_sig ((allErr_iff.1 ty_all).2 tyT (by simp)) 3001 (by decide)
theorem ty_te : ptErr [0, 1] tyU = 0 := by rw [pt_some ty_sig (by decide) ty_rt]; exact ty_all
theorem ty_tt : ptT [0, 1] tyU = tyT := ptT_some ty_te ty_rt
theorem Clause_begun (n1 n2 : Nat) (w : World) (hg : Ints w [0, 1] (some ⟨n1, 0, none⟩)) (htab : Tab w) (hc : LitsP w tyC (some ⟨n2, 0, none⟩)) :
    Calls Tryd.prog 5 #[.agg #[.slice (some ⟨n1, 0, none⟩) 2 2], .slice (some ⟨n2, 0, none⟩) 2 2] w fun e w' => e = .returned (.tuple #[.string ⟨tyS.toArray⟩, .int .i64 0]) ∧ Below w.heap.size w w' := by
  have h := tClause_any [0, 1] (some ⟨n1, 0, none⟩) 2 tyC (some ⟨n2, 0, none⟩) 2 w (by decide) hg htab hc
  rw [ty_ok, if_pos rfl, ty_text] at h
  exact h
/-- What ParseClause hands back of the text. -/
def TyB1 (w : World) (e : Ending) (w' : World) : Prop := ∃ a cap, e = .returned (.tuple #[.slice a 2 cap, .int .i64 0]) ∧ Below w.heap.size w w'
theorem ParseClause_begun (n1 : Nat) (w : World) (hg : Ints w [0, 1] (some ⟨n1, 0, none⟩)) :
    Calls Tryd.prog 6 #[.agg #[.slice (some ⟨n1, 0, none⟩) 2 2], .string ⟨tyS.toArray⟩] w (TyB1 w) := by
  have h := parseClause_any [0, 1] (some ⟨n1, 0, none⟩) 2 tyS w hg
  rw [ty_pe, ty_pc] at h
  refine h.mono ?_
  rintro e w' ⟨a, cap, rfl, -, hb⟩
  exact ⟨a, cap, rfl, hb⟩
/-- What ParseTerm hands back of the text. -/
def TyB2 (w : World) (e : Ending) (w' : World) : Prop := ∃ a cap, e = .returned (.tuple #[.agg #[.int .i64 0, .int .i64 1, .slice a 1 cap], .int .i64 0]) ∧ InL w' [tyY] a ∧ Below w.heap.size w w'
theorem ParseTerm_begun (n1 : Nat) (w : World) (hg : Ints w [0, 1] (some ⟨n1, 0, none⟩)) :
    Calls Tryd.prog 11 #[.agg #[.slice (some ⟨n1, 0, none⟩) 2 2], .string ⟨tyU.toArray⟩] w (TyB2 w) := by
  have h := parseTerm_any [0, 1] (some ⟨n1, 0, none⟩) 2 tyU w hg
  rw [ty_te, ty_tt] at h
  refine h.mono ?_
  rintro e w' ⟨a, cap, rfl, hi, hb⟩
  exact ⟨a, cap, rfl, InP_imp (fun _ _ => trivial) hi, hb⟩
theorem Term_begun (n1 : Nat) (a : Option Addr) (cap : Nat) (w : World) (hg : Ints w [0, 1] (some ⟨n1, 0, none⟩)) (htab : Tab w) (hin : InL w [tyY] a) :
    Calls Tryd.prog 12 #[.agg #[.slice (some ⟨n1, 0, none⟩) 2 2], .agg #[.int .i64 0, .int .i64 1, .slice a 1 cap]] w fun e w' => e = .returned (.tuple #[.string ⟨tyU.toArray⟩, .int .i64 0]) ∧ Below w.heap.size w w' := by
  have h := tTerm_any [0, 1] (some ⟨n1, 0, none⟩) 2 tyT a cap w hg htab hin
  rw [ty_all, if_pos rfl, ty_term] at h
  exact h
theorem ty_lits {w : World} {n m c2 : Nat} (hn : n = w.heap.size) (hin : InL w [tyX] (some ⟨m, 0, none⟩)) :
    LitsP (w.alloc (.cells #[.bool true, .int .i64 0, .int .i64 1, .slice (some ⟨m, 0, none⟩) 1 c2, .int .i64 0, .int .i64 0, .slice none 0 0, .bool false, .int .i64 1, .int .i64 0, .slice none 0 0, .int .i64 0, .int .i64 0, .slice none 0 0] 42)) tyC (some ⟨n, 0, none⟩) := by
  subst hn
  have hc : ∀ j v, #[Value.bool true, .int .i64 0, .int .i64 1, .slice (some ⟨m, 0, none⟩) 1 c2, .int .i64 0, .int .i64 0, .slice none 0 0, .bool false, .int .i64 1, .int .i64 0, .slice none 0 0, .int .i64 0, .int .i64 0, .slice none 0 0][j]? = some v → (w.alloc (.cells #[.bool true, .int .i64 0, .int .i64 1, .slice (some ⟨m, 0, none⟩) 1 c2, .int .i64 0, .int .i64 0, .slice none 0 0, .bool false, .int .i64 1, .int .i64 0, .slice none 0 0, .int .i64 0, .int .i64 0, .slice none 0 0] 42)).cell? ⟨w.heap.size, j, none⟩ = some v := fun j v h => by rw [cell_new j rfl]; exact h
  exact ⟨w.heap.size, 0, some ⟨m, 0, none⟩, c2, none, 0, rfl, hc 0 _ rfl, hc 1 _ rfl, hc 2 _ rfl, hc 3 _ rfl, hc 4 _ rfl, hc 5 _ rfl, hc 6 _ rfl, InP_below (below1 _ _) hin, InP_nil, w.heap.size, 7, none, 0, none, 0, rfl, hc 7 _ rfl, hc 8 _ rfl, hc 9 _ rfl, hc 10 _ rfl, hc 11 _ rfl, hc 12 _ rfl, hc 13 _ rfl, InP_nil, InP_nil, trivial⟩
attribute [local go_sem ↓] Go.wp_at_zero Go.wp_at_succ
set_option maxRecDepth 100000 in
set_option maxHeartbeats 2000000 in
theorem textBegun_any (w : World) (htab : Tab w) : Calls Tryd.prog 4 #[] w fun e w' => e = .returned (.bool true) ∧ Below w.heap.size w w' := by
  have Htab := hide htab
  clear htab
  go_enter Tryd.func4, Tryd.ntmps4
  go_wp2_with fail
  refine (small_any _).mono ?_
  rintro e w1 ⟨n1, rfl, hg1, hb1⟩
  go_wp2_with fail
  refine (va_any 1 _).mono ?_
  rintro e w2 ⟨rfl, hb2⟩
  go_wp2_with fail
  refine (fn_any 1 _ 1 1 _).mono ?_
  rintro e w3 ⟨rfl, hb3⟩
  go_wp2_with fail
  refine (fn_any 0 _ 0 0 _).mono ?_
  rintro e w4 ⟨rfl, hb4⟩
  go_wp2_with fail
  refine (va_any 1 _).mono ?_
  rintro e w5 ⟨rfl, hb5⟩
  go_wp2_with fail
  refine (fn_any 0 _ 0 0 _).mono ?_
  rintro e w6 ⟨rfl, hb6⟩
  have hz1 := hb1.size
  have hz2 := hb2.size
  have hz3 := hb3.size
  have hz4 := hb4.size
  have hz5 := hb5.size
  have hz6 := hb6.size
  simp at hz3
  have hb36 : Below w3.heap.size w3 w6 := hb4.trans ((hb5.mono hz4).trans (hb6.mono (by omega)))
  have hb26 : Below w2.heap.size w2 w6 := (below1 _ _).trans ((hb3.mono (by simp)).trans (hb36.mono (by omega)))
  have hb06 : Below w.heap.size w w6 := hb1.trans ((hb2.mono hz1).trans (hb26.mono (by omega)))
  have hg6 := Ints_below hb26 (Ints_below hb2 hg1)
  have hin6 : InL w6 [tyX] (some ⟨w2.heap.size, 0, none⟩) := InP_below (hb36.mono (by omega)) (InP_below hb3 (InP_newT (p := fun _ => True) (w := w2) (t := tyX) 38 rfl trivial rfl))
  have HLt := hide (ty_lits (n := w6.heap.size) (c2 := 1) rfl hin6)
  have HG := hide (Ints_below (below1 w6 (.cells #[.bool true, .int .i64 0, .int .i64 1, .slice (some ⟨w2.heap.size, 0, none⟩) 1 1, .int .i64 0, .int .i64 0, .slice none 0 0, .bool false, .int .i64 1, .int .i64 0, .slice none 0 0, .int .i64 0, .int .i64 0, .slice none 0 0] 42)) hg6)
  have Hb06 := hide hb06
  clear hb1 hb2 hb3 hb4 hb5 hb6 hb36 hb26 hb06 hg6 hin6 hg1
  go_wp2_with fail
  refine (Clause_begun n1 _ _ HG.out (Tab_below (below1 _ _) (Tab_below Hb06.out Htab.out)) HLt.out).mono ?_
  rintro e w7 ⟨rfl, hb7⟩
  have Hb07 := hide (Hb06.out.trans (((below1 w6 _).trans (hb7.mono (by simp))).mono Hb06.out.size))
  clear hb7 HG HLt Hb06 hz1 hz2 hz3 hz4 hz5 hz6
  go_wp2_with fail
  refine (small_any _).mono ?_
  rintro e w8 ⟨n8, rfl, hg8, hb8⟩
  have Hb08 := hide (Hb07.out.trans (hb8.mono Hb07.out.size))
  have HPC := hide (ParseClause_begun n8 w8 hg8)
  clear hb8 Hb07 hg8
  go_wp2_with fail
  refine HPC.out.mono ?_
  rintro e w9 ⟨a9, cap9, rfl, hb9⟩
  have Hb09 := hide (Hb08.out.trans (hb9.mono Hb08.out.size))
  clear hb9 Hb08 HPC
  go_wp2_with fail
  refine (small_any _).mono ?_
  rintro e wa ⟨na, rfl, hga, hba⟩
  have Hb0a := hide (Hb09.out.trans (hba.mono Hb09.out.size))
  have HPT := hide (ParseTerm_begun na wa hga)
  clear hba Hb09 hga
  go_wp2_with fail
  refine HPT.out.mono ?_
  rintro e wb ⟨ab, capb, rfl, hinb, hbb⟩
  have Hb0b := hide (Hb0a.out.trans (hbb.mono Hb0a.out.size))
  clear hbb Hb0a HPT
  have hS := hide (fun (w' : World) (hb : Below (wb.heap.size + 1) (wb.alloc (.cells #[.int .i64 0, .int .i64 1, .slice ab 1 capb] 38)) w') => (show w'.cell? ⟨wb.heap.size, 0, none⟩ = some (.int .i64 0) ∧ w'.cell? ⟨wb.heap.size, 1, none⟩ = some (.int .i64 1) ∧ w'.cell? ⟨wb.heap.size, 2, none⟩ = some (.slice ab 1 capb) from
    ⟨((Three.new 38 rfl).same (hb.block _ (by omega))).c0, ((Three.new 38 rfl).same (hb.block _ (by omega))).c1, ((Three.new 38 rfl).same (hb.block _ (by omega))).c2⟩))
  have hI := hide (fun (w' : World) (hb : Below (wb.heap.size + 1) (wb.alloc (.cells #[.int .i64 0, .int .i64 1, .slice ab 1 capb] 38)) w') => InP_below ((below1 wb _).trans (hb.mono (by omega))) hinb)
  have hB := hide (fun (w' : World) (hb : Below (wb.heap.size + 1) (wb.alloc (.cells #[.int .i64 0, .int .i64 1, .slice ab 1 capb] 38)) w') => (Hb0b.out.alloc Hb0b.out.size _).trans (hb.mono (by have := Hb0b.out.size; omega)))
  clear hinb Hb0b
  go_wp2_with fail
  go_region_held3 (fun w' => w'.cell? ⟨wb.heap.size, 0, none⟩ = some (.int .i64 0) ∧ w'.cell? ⟨wb.heap.size, 1, none⟩ = some (.int .i64 1) ∧ w'.cell? ⟨wb.heap.size, 2, none⟩ = some (.slice ab 1 capb)) ((first | go_keep | exact hS.out _ (Hid.out ‹Hid (Below _ _ _)›))) ((first
    | (go_at_call 8
       refine (small_any _).mono ?_
       rintro e w6 ⟨n6, rfl, hg6, hb6⟩
       have H6 : Hid (Below (wb.heap.size + 1) (wb.alloc (.cells #[.int .i64 0, .int .i64 1, .slice ab 1 capb] 38)) w6) := by
         have := below_undrew hb6
         simpa [Hid] using this)
    | (go_at_call 12
       refine (Term_begun n6 ab capb _ hg6 (Tab_below (hB.out _ H6.out) Htab.out) (hI.out _ H6.out)).mono ?_
       rintro e w7 ⟨rfl, hb7⟩
       have H7 : Hid (Below (wb.heap.size + 1) (wb.alloc (.cells #[.int .i64 0, .int .i64 1, .slice ab 1 capb] 38)) w7) := H6.out.trans (hb7.mono (by have := H6.out.size; simpa using this)))))
  clear H6 hg6 hb6 hb7
  go_wp2_with fail
  go_ret
  exact ⟨rfl, hB.out _ H7.out⟩
end Go.Proofs.YtbkedppkdhfpoaaDoor

namespace Go.Proofs.YtbkedppkdhfpoaaDoor
open Go.RowKit

/-- The cells of a literal, as its sides are read. -/
def At7 (w : World) (b o : Nat) (x : Lit) (a1 : Option Addr) (c1 : Nat) (a2 : Option Addr) (c2 : Nat) : Prop :=
  w.cell? ⟨b, o, none⟩ = some (.bool x.1) ∧ w.cell? ⟨b, o + 1, none⟩ = some (.int .i64 x.2.1.v) ∧ w.cell? ⟨b, o + 1 + 1, none⟩ = some (.int .i64 x.2.1.f) ∧ w.cell? ⟨b, o + 1 + 2, none⟩ = some (.slice a1 x.2.1.args.length c1) ∧ w.cell? ⟨b, o + 4, none⟩ = some (.int .i64 x.2.2.v) ∧ w.cell? ⟨b, o + 4 + 1, none⟩ = some (.int .i64 x.2.2.f) ∧ w.cell? ⟨b, o + 4 + 2, none⟩ = some (.slice a2 x.2.2.args.length c2)
theorem At7.below {w w' : World} {b o : Nat} {x : Lit} {a1 : Option Addr} {c1 : Nat} {a2 : Option Addr} {c2 : Nat} (h : At7 w b o x a1 c1 a2 c2) (hb : Below w.heap.size w w') : At7 w' b o x a1 c1 a2 c2 := by
  obtain ⟨h0, h1, h2, h3, h4, h5, h6⟩ := h
  exact ⟨cellB hb h0, cellB hb h1, cellB hb h2, cellB hb h3, cellB hb h4, cellB hb h5, cellB hb h6⟩
theorem LitsP_at7 {w : World} {c : List Lit} {b off k : Nat} {x : Lit} (h : LitsP w c (some ⟨b, off, none⟩)) (hx : c[k]? = some x) : ∃ a1 c1 a2 c2, At7 w b (off + k * 7) x a1 c1 a2 c2 ∧ InL w x.2.1.args a1 ∧ InL w x.2.2.args a2 := by
  obtain ⟨a1, c1, a2, c2, k0, k1, k2, k3, k4, k5, k6, hi1, hi2⟩ := LitsP_at h hx
  exact ⟨a1, c1, a2, c2, ⟨k0, k1, k2, k3, k4, k5, k6⟩, hi1, hi2⟩
attribute [local go_sem ↓] Go.wp_at_zero Go.wp_at_succ
set_option maxRecDepth 100000 in
set_option maxHeartbeats 2000000 in
theorem sameClause_same (c : List Lit) (ca : Option Addr) (cc : Nat) (da : Option Addr) (dc : Nat) (w : World) (hl : c.length ≤ 1000) (hsz : ∀ x, x ∈ c → LitSz x) (h1 : LitsP w c ca) (h2 : LitsP w c da) :
    Calls Tryd.prog 7 #[.slice ca c.length cc, .slice da c.length dc] w fun e w' => e = .returned (.bool true) ∧ Below w.heap.size w w' := by
  have H1 := hide h1
  have H2 := hide h2
  have Hsz := hide hsz
  clear h1 h2 hsz
  go_enter Tryd.func7, Tryd.ntmps7
  go_wp2_with fail
  go_loopw [5] (fun i wr => ∃ k : Nat, k ≤ c.length ∧ i = .int .i64 k ∧ Hid (Below w.heap.size w wr)) (fun i _ => c.length - (intOf i).toNat)
  case atStart => exact ⟨0, Nat.zero_le _, rfl, Below.refl _ _⟩
  case round =>
    obtain ⟨k, hk, rfl, Hb⟩ := hrel
    by_cases hlt : k < c.length
    · obtain ⟨b, off, rfl⟩ := LitsP_some H1.out (by omega)
      obtain ⟨b', off', rfl⟩ := LitsP_some H2.out (by omega)
      obtain ⟨x, hx⟩ : ∃ x, c[k]? = some x := ⟨c[k], List.getElem?_eq_getElem hlt⟩
      obtain ⟨a1, c1, a2, c2, hA, i1, i2⟩ := LitsP_at7 (LitsP_below Hb.out H1.out) hx
      obtain ⟨b1, d1, b2, d2, hB, j1, j2⟩ := LitsP_at7 (LitsP_below Hb.out H2.out) hx
      have hz := Hsz.out x (List.mem_of_getElem? hx)
      have HSa := hide (fun (w' : World) (hb : Below wr.heap.size wr w') => sameTerm_any 1001 x.2.1 x.2.1 a1 c1 b1 d1 w' (by have := hz.1; omega) hz.1 (InP_below hb i1) (InP_below hb j1))
      have HSb := hide (fun (w' : World) (hb : Below wr.heap.size wr w') => sameTerm_any 1001 x.2.2 x.2.2 a2 c2 b2 d2 w' (by have := hz.2; omega) hz.2 (InP_below hb i2) (InP_below hb j2))
      rw [sameT_iff.2 (rfl : x.2.1 = x.2.1)] at HSa
      rw [sameT_iff.2 (rfl : x.2.2 = x.2.2)] at HSb
      have HA := hide hA
      have HB := hide hB
      have hS := hide (fun (w' : World) (hb : Below wr.heap.size wr w') => (show ((w'.cell? ⟨b, off + k * 7, none⟩ = some (.bool x.1) ∧ w'.cell? ⟨b, off + k * 7 + 1, none⟩ = some (.int .i64 x.2.1.v) ∧ w'.cell? ⟨b, off + k * 7 + 1 + 1, none⟩ = some (.int .i64 x.2.1.f) ∧ w'.cell? ⟨b, off + k * 7 + 1 + 2, none⟩ = some (.slice a1 x.2.1.args.length c1) ∧ w'.cell? ⟨b, off + k * 7 + 4, none⟩ = some (.int .i64 x.2.2.v) ∧ w'.cell? ⟨b, off + k * 7 + 4 + 1, none⟩ = some (.int .i64 x.2.2.f) ∧ w'.cell? ⟨b, off + k * 7 + 4 + 2, none⟩ = some (.slice a2 x.2.2.args.length c2)) ∧ w'.cell? ⟨b', off' + k * 7, none⟩ = some (.bool x.1) ∧ w'.cell? ⟨b', off' + k * 7 + 1, none⟩ = some (.int .i64 x.2.1.v) ∧ w'.cell? ⟨b', off' + k * 7 + 1 + 1, none⟩ = some (.int .i64 x.2.1.f) ∧ w'.cell? ⟨b', off' + k * 7 + 1 + 2, none⟩ = some (.slice b1 x.2.1.args.length d1) ∧ w'.cell? ⟨b', off' + k * 7 + 4, none⟩ = some (.int .i64 x.2.2.v) ∧ w'.cell? ⟨b', off' + k * 7 + 4 + 1, none⟩ = some (.int .i64 x.2.2.f) ∧ w'.cell? ⟨b', off' + k * 7 + 4 + 2, none⟩ = some (.slice b2 x.2.2.args.length d2)) from ⟨hA.below hb, hB.below hb⟩))
      obtain ⟨⟨p0, p1, p2, p3, p4, p5, p6⟩, q0, q1, q2, q3, q4, q5, q6⟩ := hS.out wr (Below.refl _ _)
      have hyy : (x.1 != x.1) = false := by simp
      have hkI : (k : Int) < c.length := by omega
      have hk0 : (0 : Int) ≤ k := by omega
      clear hx hA hB i1 i2 j1 j2 hz HA HB
      go_wp2_with fail
      go_region_held3 (fun w' => (w'.cell? ⟨b, off + k * 7, none⟩ = some (.bool x.1) ∧ w'.cell? ⟨b, off + k * 7 + 1, none⟩ = some (.int .i64 x.2.1.v) ∧ w'.cell? ⟨b, off + k * 7 + 1 + 1, none⟩ = some (.int .i64 x.2.1.f) ∧ w'.cell? ⟨b, off + k * 7 + 1 + 2, none⟩ = some (.slice a1 x.2.1.args.length c1) ∧ w'.cell? ⟨b, off + k * 7 + 4, none⟩ = some (.int .i64 x.2.2.v) ∧ w'.cell? ⟨b, off + k * 7 + 4 + 1, none⟩ = some (.int .i64 x.2.2.f) ∧ w'.cell? ⟨b, off + k * 7 + 4 + 2, none⟩ = some (.slice a2 x.2.2.args.length c2)) ∧ w'.cell? ⟨b', off' + k * 7, none⟩ = some (.bool x.1) ∧ w'.cell? ⟨b', off' + k * 7 + 1, none⟩ = some (.int .i64 x.2.1.v) ∧ w'.cell? ⟨b', off' + k * 7 + 1 + 1, none⟩ = some (.int .i64 x.2.1.f) ∧ w'.cell? ⟨b', off' + k * 7 + 1 + 2, none⟩ = some (.slice b1 x.2.1.args.length d1) ∧ w'.cell? ⟨b', off' + k * 7 + 4, none⟩ = some (.int .i64 x.2.2.v) ∧ w'.cell? ⟨b', off' + k * 7 + 4 + 1, none⟩ = some (.int .i64 x.2.2.f) ∧ w'.cell? ⟨b', off' + k * 7 + 4 + 2, none⟩ = some (.slice b2 x.2.2.args.length d2)) ((first | (refine hS.out _ ?_; (repeat' (first | with_reducible exact Hid.out ‹Hid (Below _ _ _)› | with_reducible exact Below.refl _ _ | (with_reducible refine Below.drew ?_))); done) | go_keep)) ((first
        | (go_at_call 21
           with_reducible refine (HSa.out _ ?_).mono ?_
           · (repeat' (first | with_reducible exact Hid.out ‹Hid (Below _ _ _)› | with_reducible exact Below.refl _ _ | (with_reducible refine Below.drew ?_)))
           rintro e xA ⟨rfl, hbA⟩
           have HxA : Hid (Below wr.heap.size wr xA) := by
             refine Below.trans (b := _) ?_ (hbA.mono ?_)
             · (repeat' (first | with_reducible exact Hid.out ‹Hid (Below _ _ _)› | with_reducible exact Below.refl _ _ | (with_reducible refine Below.drew ?_)))
             · first | omega | (simp; omega) | (simp; done)
           clear hbA)
        | (go_at_call 21
           with_reducible refine (HSb.out _ ?_).mono ?_
           · (repeat' (first | with_reducible exact Hid.out HxA | with_reducible exact Below.refl _ _ | (with_reducible refine Below.drew ?_)))
           rintro e xB ⟨rfl, hbB⟩
           have HxB : Hid (Below wr.heap.size wr xB) := by
             refine Below.trans (b := _) ?_ (hbB.mono ?_)
             · (repeat' (first | with_reducible exact Hid.out HxA | with_reducible exact Below.refl _ _ | (with_reducible refine Below.drew ?_)))
             · have := HxA.out.size; first | omega | (simp; omega) | (simp; done)
           clear hbB)))
      all_goals (
        have Hb2 := hide (Hb.out.trans (HxB.out.mono Hb.out.size))
        go_wp2_with fail
        go_roundw
        case rel => exact ⟨k + 1, by omega, by go_num, Hb2⟩
        case measure => simp [intOf]; omega)
    · have hk2 : k = c.length := by omega
      subst hk2
      go_wp2_with fail
      go_ret
      exact ⟨rfl, Hb.out⟩
end Go.Proofs.YtbkedppkdhfpoaaDoor

namespace Go.Proofs.YtbkedppkdhfpoaaDoor
open Go.RowKit

theorem pc_zero {ar : List Int} {l : List UInt8} (h : pcErr ar l = 0) : clausesErr ar [pcC ar l] = 0 ∧ clauseL (pcC ar l) = l := by
  have h' := h
  rw [pcErr] at h'
  split at h'
  · rename_i hs
    split at h'
    · cases h'
    · rename_i hl
      cases hr : rdCl 3001 l with
      | none => rw [hr] at h'; cases h'
      | some x =>
        obtain ⟨c, r⟩ := x
        rw [hr] at h'
        cases r with
        | cons a r => cases h'
        | nil =>
          rw [pcC_some h hr]
          refine ⟨h', ?_⟩
          have := cl_forth _ _ _ _ hr
          rw [this, List.append_nil]
  · rename_i hs
    exact absurd h' hs
theorem pc_round {ar : List Int} {c : List Lit} (h : clausesErr ar [c] = 0) (hl : (clauseL c).length ≤ 3000) : pcErr ar (clauseL c) = 0 ∧ pcC ar (clauseL c) = c := by
  have hr := cl_round h 3001 (by decide)
  have h0 : pcErr ar (clauseL c) = 0 := by rw [pc_some (clauses_ok h).1 hl hr]; exact h
  exact ⟨h0, pcC_some h0 hr⟩
attribute [local go_sem ↓] Go.wp_at_zero Go.wp_at_succ
set_option maxRecDepth 100000 in
set_option maxHeartbeats 2000000 in
theorem textBack_any (ar : List Int) (ga : Option Addr) (gcap : Nat) (c : List Lit) (ca : Option Addr) (cc : Nat) (l : List UInt8) (w : World) (hcl : c.length ≤ 9223372036854775807) (hg : Ints w ar ga) (htab : Tab w) (hc : LitsP w c ca) :
    Calls Tryd.prog 3 #[.agg #[.slice ga ar.length gcap], .slice ca c.length cc, .string ⟨l.toArray⟩] w fun e w' => e = .returned (.bool true) ∧ Below w.heap.size w w' := by
  obtain ⟨W1, hW1⟩ : ∃ W1, W1 = w.alloc (.cells #[.slice ga ar.length gcap] 24) := ⟨_, rfl⟩
  have hbW : Below w.heap.size w W1 := by rw [hW1]; exact below1 _ _
  have hz1 : W1.heap.size = w.heap.size + 1 := by rw [hW1]; simp
  have hcg : W1.cell? ⟨w.heap.size, 0, none⟩ = some (.slice ga ar.length gcap) := by rw [hW1]; exact cell_new 0 rfl
  have HG := hide (fun (Y : World) (hb : Below W1.heap.size W1 Y) => cell_below hb hcg)
  have HI := hide (fun (Y : World) (hb : Below W1.heap.size W1 Y) => Ints_below hb (Ints_below hbW hg))
  have HT := hide (fun (Y : World) (hb : Below W1.heap.size W1 Y) => Tab_below hb (Tab_below hbW htab))
  have HC := hide (fun (Y : World) (hb : Below W1.heap.size W1 Y) => LitsP_below hb (LitsP_below hbW hc))
  have HF := hide (fun (Y : World) (hb : Below W1.heap.size W1 Y) => hbW.trans (hb.mono (by omega)))
  have HB := hide (textBegun_any W1 (HT.out _ (Below.refl _ _)))
  have HW1 := hide hW1
  clear hW1 hbW hz1 hcg hg htab hc
  go_enter Tryd.func3, Tryd.ntmps3
  go_upto_region 1 with fail
  rw [← HW1.out]
  go_wp2_with fail
  refine HB.out.mono ?_
  rintro e w2 ⟨rfl, hb2⟩
  have Hb2 := hide hb2
  have g2 := HG.out w2 hb2
  have HCl := hide (tClause_any ar ga gcap c ca cc w2 hcl (HI.out w2 hb2) (HT.out w2 hb2) (HC.out w2 hb2))
  obtain ⟨E, hE⟩ : ∃ E, E = clausesErr ar [c] := ⟨_, rfl⟩
  obtain ⟨X, hX⟩ : ∃ X, X = (if clausesErr ar [c] = 0 then clauseL c else []) := ⟨_, rfl⟩
  rw [← hX, ← hE] at HCl
  have HE := hide hE
  have HX := hide hX
  clear hb2 HB hE hX
  go_wp2_with fail
  refine HCl.out.mono ?_
  rintro e w3 ⟨rfl, hb3⟩
  have hb13 : Below W1.heap.size W1 w3 := Hb2.out.trans (hb3.mono Hb2.out.size)
  have Hb3 := hide hb13
  have g3 := HG.out w3 hb13
  clear hb3 hb13 HCl g2 Hb2
  by_cases hyes : E = 0 ∧ X.length ≤ 3000
  case' pos =>
    obtain ⟨h0, hX3⟩ := hyes
    have hE0 : clausesErr ar [c] = 0 := by rw [← HE.out]; exact h0
    have hXc : X = clauseL c := by rw [HX.out, if_pos hE0]
    obtain ⟨hp0, hpc⟩ := pc_round hE0 (by rw [← hXc]; exact hX3)
    have HPc := hide (parseClause_any ar ga gcap X w3 (HI.out w3 Hb3.out))
    rw [hXc, hp0, hpc, ← hXc] at HPc
    have hX3' : (X.length : Int) ≤ 3000 := by omega
    subst h0
    obtain ⟨-, h8, hlo⟩ := clauses_ok hE0
    have Hlo := hide hlo
    clear hE0 hXc hp0 hpc HX HE hlo
    go_wp2_with fail
    refine HPc.out.mono ?_
    rintro e w4 ⟨a4, cap4, rfl, hq4, hb4⟩
    have hb14 : Below W1.heap.size W1 w4 := Hb3.out.trans (hb4.mono Hb3.out.size)
    have HSm := hide (sameClause_same c ca cc a4 cap4 w4 (by omega) (fun x hx => by have := Hlo.out x hx; exact ⟨by omega, by omega⟩) (HC.out w4 hb14) (LitsQ_lits hq4))
    have Hb4 := hide hb14
    have g4 := HG.out w4 hb14
    clear hb4 hb14 hq4 HPc g3
    go_wp2_with fail
    refine HSm.out.mono ?_
    rintro e w5 ⟨rfl, hb5⟩
    have hb15 : Below W1.heap.size W1 w5 := Hb4.out.trans (hb5.mono Hb4.out.size)
    have Hb5 := hide hb15
    have g5 := HG.out w5 hb15
    have HP5 := hide (parseClause_any ar ga gcap l w5 (HI.out w5 hb15))
    clear hb5 hb15 HSm Hb4 g4 Hb3
    go_wp2_with fail
  case' neg =>
    have Hb5 := Hb3
    have g5 := g3
    have HP5 := hide (parseClause_any ar ga gcap l w3 (HI.out w3 Hb3.out))
    clear Hb3 g3 HX HE
    have hno : E = 0 → ¬ ((X.length : Int) ≤ 3000) := fun h0 h => hyes ⟨h0, by omega⟩
    clear hyes
    by_cases h0 : E = 0
    case' pos =>
      have hX3' : ¬ ((X.length : Int) ≤ 3000) := hno h0
      subst h0
      clear hno
      go_wp2_with fail
    case' neg =>
      have h0' : (E == 0) = false := by rw [beq_eq_false_iff_ne]; exact h0
      clear hno h0
      go_wp2_with fail
  all_goals (
    obtain ⟨E5, hE5⟩ : ∃ E5, E5 = pcErr ar l := ⟨_, rfl⟩
    obtain ⟨C5, hC5⟩ : ∃ C5, C5 = pcC ar l := ⟨_, rfl⟩
    rw [← hE5, ← hC5] at HP5
    have HE5 := hide hE5
    have HC5 := hide hC5
    clear hE5 hC5
    refine HP5.out.mono ?_
    rintro e w6 ⟨a6, cap6, rfl, hq6, hb6⟩
    have hb16 := Hb5.out.trans (hb6.mono Hb5.out.size)
    have Hb6 := hide hb16
    have g6 := HG.out w6 hb16
    have Hq6 := hide (LitsQ_lits hq6)
    clear hb6 hq6 HP5 g5
    by_cases hz : E5 = 0
    · obtain ⟨hok, htx⟩ := pc_zero (show pcErr ar l = 0 by rw [← HE5.out]; exact hz)
      rw [← HC5.out] at hok htx
      have HCl := hide (tClause_any ar ga gcap C5 a6 cap6 w6 (by have := (clauses_ok hok).2.1; omega) (HI.out w6 Hb6.out) (HT.out w6 Hb6.out) Hq6.out)
      rw [if_pos hok, hok, htx] at HCl
      subst hz
      clear hok htx HE5 HC5 Hq6 hb16
      go_wp2_with fail
      refine HCl.out.mono ?_
      rintro e w7 ⟨rfl, hb7⟩
      have Hb7 := hide (HF.out _ (Hb6.out.trans (hb7.mono Hb6.out.size)))
      clear hb7 HCl
      go_wp2_with fail
      go_ret
      exact ⟨rfl, Hb7.out⟩
    · obtain rfl : C5 = [] := by rw [HC5.out]; exact pcC_err (by rw [← HE5.out]; exact hz)
      have hz' : (E5 != 0) = true := by simpa using hz
      have Hf := hide (HF.out _ hb16)
      clear hz HE5 HC5 Hq6 hb16
      go_wp2_with fail
      go_ret
      exact ⟨rfl, Hf.out⟩)
end Go.Proofs.YtbkedppkdhfpoaaDoor

namespace Go.Proofs.YtbkedppkdhfpoaaDoor
open Go.RowKit Go.ChangeShapes Go.WideShapes Go.Deep

theorem InL_of_fn {w : World} : ∀ (n b off : Nat) (f : Nat → T), (∀ i, i < n → ∃ s, w.cell? ⟨b, off + i * 3, none⟩ = some (.int .i64 (f i).v) ∧ w.cell? ⟨b, off + i * 3 + 1, none⟩ = some (.int .i64 (f i).f) ∧ w.cell? ⟨b, off + i * 3 + 2, none⟩ = some s ∧ (f i).In (fun _ => True) w s) →
    InL w ((List.range n).map f) (some ⟨b, off, none⟩) := by
  intro n
  induction n with
  | zero => intro b off f _; exact InP_nil
  | succ n ih =>
    intro b off f h
    rw [List.range_succ_eq_map, List.map_cons, List.map_map]
    obtain ⟨s, c0, c1, c2, hin⟩ := h 0 (by omega)
    refine InP_cons.2 ⟨b, off, s, rfl, trivial, by simpa using c0, by simpa using c1, by simpa using c2, hin, ih b (off + 3) (f ∘ Nat.succ) (fun i hi => ?_)⟩
    obtain ⟨s, c0, c1, c2, hin⟩ := h (i + 1) (by omega)
    have e : off + (i + 1) * 3 = off + 3 + i * 3 := by omega
    rw [e] at c0 c1 c2
    exact ⟨s, c0, c1, c2, hin⟩

theorem Tryd.cells38 : Tryd.prog.cellsOf 38 = 3 := by kernel_rfl
theorem Tryd.cells3 : Tryd.prog.cellsOf 3 = 1 := by kernel_rfl
theorem Tryd.cells24 : Tryd.prog.cellsOf 24 = 1 := by kernel_rfl

section
variable {H : Type} {enc : TypeId × Value → H} {W : World} {spare : Nat → Bool} {held : Bool}

set_option maxRecDepth 100000 in
/-- A term that can be read is a tree that lies there. -/
theorem open_term : ∀ (fuel : Nat) (cs : List Value) (x : DataW H × List MemPlace), DataW.trod enc Tryd.prog W 0 spare held fuel 38 cs = some x →
    ∃ (t : T) (a : Option Addr) (cap : Nat), cs = [.int .i64 t.v, .int .i64 t.f, .slice a t.args.length cap] ∧ InL W t.args a := by
  intro fuel
  induction fuel using Nat.strongRecOn with
  | _ fuel ih =>
    intro cs x h
    obtain ⟨xs, n, hn, hx, hl, hlen, hf⟩ := DataW.trod_struct Go.Proofs.Tryd.underlying38 h
    rw [Tryd.cells38] at hl
    match cs, hl with
    | [c0, c1, c2], _ =>
      have f0 := hf 0 _ rfl
      have f1 := hf 1 _ rfl
      have f2 := hf 2 _ rfl
      match xs, hlen with
      | [y0, y1, y2], _ =>
        simp only [List.getElem?_cons_zero, List.getElem?_cons_succ] at f0 f1 f2
        have g0 : DataW.trod enc Tryd.prog W 0 spare held n 3 [c0] = some y0 := f0
        have g1 : DataW.trod enc Tryd.prog W 0 spare held n 3 [c1] = some y1 := f1
        have g2 : DataW.trod enc Tryd.prog W 0 spare held n 36 [c2] = some y2 := f2
        obtain ⟨v, e0, _, _⟩ := DataW.trod_int Go.Proofs.Tryd.underlying3 g0
        obtain ⟨f, e1, _, _⟩ := DataW.trod_int Go.Proofs.Tryd.underlying3 g1
        simp only [List.cons.injEq, and_true] at e0 e1
        subst e0 e1
        rcases DataW.trod_slice Go.Proofs.Tryd.underlying36 g2 with ⟨e2, _⟩ | ⟨a, len, cap, elems, rest, m, hm, e2, _, hb, hl', hm', hlen', hel, _, _⟩
        · simp only [List.cons.injEq, and_true] at e2
          subst e2
          exact ⟨⟨v, f, []⟩, none, 0, rfl, InP_nil⟩
        · simp only [List.cons.injEq, and_true] at e2
          subst e2
          rw [Tryd.cells38] at hel
          have hchild : ∀ i, i < len → ∃ t : T, ∃ s, W.cell? (a.add (i * 3)) = some (.int .i64 t.v) ∧ W.cell? ((a.add (i * 3)).add 1) = some (.int .i64 t.f) ∧ W.cell? ((a.add (i * 3)).add 2) = some s ∧ t.In (fun _ => True) W s := by
            intro i hi
            have h1 := hel i hi
            rw [List.getElem?_eq_getElem (by omega)] at h1
            obtain ⟨cs', h2, h3⟩ := Option.bind_eq_some_iff.1 h1
            obtain ⟨t, a', cap', hcs, hin⟩ := ih m (by omega) cs' _ h3
            obtain ⟨_, _, hcell⟩ := World.cells?_some h2
            rw [hcs] at hcell
            refine ⟨t, .slice a' t.args.length cap', ?_, hcell 1 (by omega), hcell 2 (by omega), In_iff.2 ⟨a', cap', rfl, hin⟩⟩
            have := hcell 0 (by omega)
            rwa [show (a.add (i * 3)).add 0 = a.add (i * 3) from by simp [Addr.add]] at this
          by_cases h0 : len = 0
          · subst h0
            exact ⟨⟨v, f, []⟩, some a, cap, rfl, InP_nil⟩
          · obtain ⟨b, off, spot⟩ := a
            have hspot : spot = none := by
              obtain ⟨t, s, hc, _⟩ := hchild 0 (by omega)
              simpa [Addr.add] using World.cell?_spot hc
            subst hspot
            have : Inhabited T := ⟨⟨0, 0, []⟩⟩
            obtain ⟨F, hF⟩ := choose_lt hchild
            refine ⟨⟨v, f, (List.range len).map F⟩, some ⟨b, off, none⟩, cap, by simp, InL_of_fn len b off F (fun i hi => ?_)⟩
            obtain ⟨s, c0, c1, c2, hin⟩ := hF i hi
            have e : ∀ j, (⟨b, off, none⟩ : Addr).add j = ⟨b, off + j, none⟩ := fun j => by simp [Addr.add]
            have e' : ∀ k j, (⟨b, k, none⟩ : Addr).add j = ⟨b, k + j, none⟩ := fun k j => by simp [Addr.add]
            rw [e] at c0 c1 c2
            rw [e'] at c1 c2
            exact ⟨s, c0, c1, c2, hin⟩

/-- A slice of numbers that can be read. -/
theorem open_nums {fuel : Nat} {cs : List Value} {x : DataW H × List MemPlace} (h : DataW.trod enc Tryd.prog W 0 spare held fuel 22 cs = some x) :
    ∃ (zs : List Int) (a : Option Addr) (cap : Nat), cs = [.slice a zs.length cap] ∧ Ints W zs a ∧ zs.length ≤ 9223372036854775807 ∧ zs.length ≤ cap := by
  rcases open_ints Go.Proofs.Tryd.underlying22 Go.Proofs.Tryd.underlying3 Tryd.cells3 h with ⟨hcs, _⟩ | ⟨a, l, c, zs, hcs, _, hl, hm, hz, _, hcell, _⟩
  · exact ⟨[], none, 0, hcs, Or.inl rfl, by simp, by simp⟩
  · have hle : l ≤ zs.length := by rw [hz]; split <;> omega
    have hlen : (zs.take l).length = l := List.length_take_of_le hle
    refine ⟨zs.take l, some a, c, by rw [hcs, hlen], ?_, by rw [hlen]; unfold maxLen at hm; omega, by rw [hlen]; exact hl⟩
    by_cases h0 : l = 0
    · left; rw [h0]; rfl
    · right
      obtain ⟨b, off, rfl, hc⟩ := ints_at hcell (by omega)
      refine ⟨b, off, rfl, fun i hi => ?_⟩
      rw [hlen] at hi
      rw [hc i (by omega)]
      simp [List.getD, List.getElem?_take_of_lt hi]

set_option maxRecDepth 100000 in
/-- A signature. -/
theorem open_sig {fuel : Nat} {cs : List Value} {x : DataW H × List MemPlace} (h : DataW.trod enc Tryd.prog W 0 spare held fuel 24 cs = some x) :
    ∃ (zs : List Int) (a : Option Addr) (cap : Nat), cs = [.slice a zs.length cap] ∧ Ints W zs a := by
  obtain ⟨y0, n, _, hl, h0⟩ := trod_struct1 Go.Proofs.Tryd.underlying24 h
  rw [Tryd.cells24] at hl
  match cs, hl with
  | [c0], _ =>
    have g0 : DataW.trod enc Tryd.prog W 0 spare held n 22 [c0] = some y0 := h0
    obtain ⟨zs, a, cap, hcs, hi, _⟩ := open_nums g0
    exact ⟨zs, a, cap, hcs, hi⟩

end
end Go.Proofs.YtbkedppkdhfpoaaDoor

namespace Go.Proofs.YtbkedppkdhfpoaaDoor
open Go.RowKit Go.ChangeShapes Go.WideShapes Go.Deep

def LitAt (w : World) (b off : Nat) (x : Lit) : Prop := ∃ a1 c1 a2 c2, w.cell? ⟨b, off, none⟩ = some (.bool x.1) ∧ w.cell? ⟨b, off + 1, none⟩ = some (.int .i64 x.2.1.v) ∧ w.cell? ⟨b, off + 2, none⟩ = some (.int .i64 x.2.1.f) ∧ w.cell? ⟨b, off + 3, none⟩ = some (.slice a1 x.2.1.args.length c1) ∧
  w.cell? ⟨b, off + 4, none⟩ = some (.int .i64 x.2.2.v) ∧ w.cell? ⟨b, off + 5, none⟩ = some (.int .i64 x.2.2.f) ∧ w.cell? ⟨b, off + 6, none⟩ = some (.slice a2 x.2.2.args.length c2) ∧ InL w x.2.1.args a1 ∧ InL w x.2.2.args a2
theorem LitsP_of_fn {w : World} : ∀ (n b off : Nat) (f : Nat → Lit), (∀ i, i < n → LitAt w b (off + i * 7) (f i)) → LitsP w ((List.range n).map f) (some ⟨b, off, none⟩) := by
  intro n
  induction n with
  | zero => intro b off f _; trivial
  | succ n ih =>
    intro b off f h
    rw [List.range_succ_eq_map, List.map_cons, List.map_map]
    obtain ⟨a1, c1, a2, c2, h0, h1, h2, h3, h4, h5, h6, i1, i2⟩ := h 0 (by omega)
    refine ⟨b, off, a1, c1, a2, c2, rfl, by simpa using h0, by simpa using h1, by simpa using h2, by simpa using h3, by simpa using h4, by simpa using h5, by simpa using h6, i1, i2, ih b (off + 7) (f ∘ Nat.succ) (fun i hi => ?_)⟩
    have h9 := h (i + 1) (by omega)
    rw [show off + (i + 1) * 7 = off + 7 + i * 7 by omega] at h9
    exact h9
theorem Tryd.cells42 : Tryd.prog.cellsOf 42 = 7 := by kernel_rfl
section
variable {H : Type} {enc : TypeId × Value → H} {W : World} {spare : Nat → Bool} {held : Bool}

set_option maxRecDepth 100000 in
/-- A literal that can be read. -/
theorem open_lit (fuel : Nat) (cs : List Value) (x : DataW H × List MemPlace) (h : DataW.trod enc Tryd.prog W 0 spare held fuel 42 cs = some x) :
    ∃ (y : Lit) (a : Option Addr) (cap : Nat) (a2 : Option Addr) (cap2 : Nat), cs = [.bool y.1, .int .i64 y.2.1.v, .int .i64 y.2.1.f, .slice a y.2.1.args.length cap, .int .i64 y.2.2.v, .int .i64 y.2.2.f, .slice a2 y.2.2.args.length cap2] ∧ InL W y.2.1.args a ∧ InL W y.2.2.args a2 := by
  obtain ⟨xs, n, hn, hx, hl, hlen, hf⟩ := DataW.trod_struct Go.Proofs.Tryd.underlying42 h
  rw [Tryd.cells42] at hl
  match cs, hl with
  | [c0, c1, c2, c3, c4, c5, c6], _ =>
    have f0 := hf 0 _ rfl
    have f1 := hf 1 _ rfl
    have f2 := hf 2 _ rfl
    match xs, hlen with
    | [y0, y1, y2], _ =>
      simp only [List.getElem?_cons_zero, List.getElem?_cons_succ] at f0 f1 f2
      have g0 : DataW.trod enc Tryd.prog W 0 spare held n 4 [c0] = some y0 := f0
      have g1 : DataW.trod enc Tryd.prog W 0 spare held n 38 [c1, c2, c3] = some y1 := f1
      have g2 : DataW.trod enc Tryd.prog W 0 spare held n 38 [c4, c5, c6] = some y2 := f2
      obtain ⟨yes, hcs, _⟩ := DataW.trod_bool Go.Proofs.Tryd.underlying4 g0
      simp only [List.cons.injEq, and_true] at hcs
      obtain rfl := hcs
      obtain ⟨s, a, cap, hcs, hin⟩ := open_term _ _ _ g1
      simp only [List.cons.injEq, and_true] at hcs
      obtain ⟨rfl, rfl, rfl⟩ := hcs
      obtain ⟨t, a2, cap2, hcs, hin2⟩ := open_term _ _ _ g2
      simp only [List.cons.injEq, and_true] at hcs
      obtain ⟨rfl, rfl, rfl⟩ := hcs
      exact ⟨(yes, s, t), a, cap, a2, cap2, rfl, hin, hin2⟩

set_option maxRecDepth 100000 in
/-- A clause. -/
theorem open_clause {fuel : Nat} {cs : List Value} {x : DataW H × List MemPlace} (h : DataW.trod enc Tryd.prog W 0 spare held fuel 26 cs = some x) :
    ∃ (c : List Lit) (a : Option Addr) (cap : Nat), cs = [.slice a c.length cap] ∧ LitsP W c a ∧ c.length ≤ 9223372036854775807 := by
  rcases DataW.trod_slice Go.Proofs.Tryd.underlying26 h with ⟨e2, _⟩ | ⟨a, len, cap, elems, rest, m, hm, e2, _, hb, hl', hm', hlen', hel, _, _⟩
  · exact ⟨[], none, 0, e2, trivial, by simp⟩
  · rw [Tryd.cells42] at hel
    have hchild : ∀ i, i < len → ∃ y : Lit, ∃ a1 cap1 a2 cap2, W.cell? (a.add (i * 7)) = some (.bool y.1) ∧ W.cell? ((a.add (i * 7)).add 1) = some (.int .i64 y.2.1.v) ∧ W.cell? ((a.add (i * 7)).add 2) = some (.int .i64 y.2.1.f) ∧ W.cell? ((a.add (i * 7)).add 3) = some (.slice a1 y.2.1.args.length cap1) ∧
        W.cell? ((a.add (i * 7)).add 4) = some (.int .i64 y.2.2.v) ∧ W.cell? ((a.add (i * 7)).add 5) = some (.int .i64 y.2.2.f) ∧ W.cell? ((a.add (i * 7)).add 6) = some (.slice a2 y.2.2.args.length cap2) ∧ InL W y.2.1.args a1 ∧ InL W y.2.2.args a2 := by
      intro i hi
      have h1 := hel i hi
      rw [List.getElem?_eq_getElem (by omega)] at h1
      obtain ⟨cs', h2, h3⟩ := Option.bind_eq_some_iff.1 h1
      obtain ⟨y, a', cap', a2', cap2', hcs, hin, hin2⟩ := open_lit m cs' _ h3
      obtain ⟨_, _, hcell⟩ := World.cells?_some h2
      rw [hcs] at hcell
      refine ⟨y, a', cap', a2', cap2', ?_, hcell 1 (by omega), hcell 2 (by omega), hcell 3 (by omega), hcell 4 (by omega), hcell 5 (by omega), hcell 6 (by omega), hin, hin2⟩
      have := hcell 0 (by omega)
      rwa [show (a.add (i * 7)).add 0 = a.add (i * 7) from by simp [Addr.add]] at this
    by_cases h0 : len = 0
    · subst h0
      exact ⟨[], some a, cap, e2, trivial, by simp⟩
    · obtain ⟨b, off, spot⟩ := a
      have hspot : spot = none := by
        obtain ⟨y, a1, cap1, a2, cap2, hc, _⟩ := hchild 0 (by omega)
        simpa [Addr.add] using World.cell?_spot hc
      subst hspot
      have : Inhabited Lit := ⟨(false, ⟨0, 0, []⟩, ⟨0, 0, []⟩)⟩
      obtain ⟨F, hF⟩ := choose_lt hchild
      refine ⟨(List.range len).map F, some ⟨b, off, none⟩, cap, by simpa using e2, LitsP_of_fn len b off F (fun i hi => ?_), by simp; unfold maxLen at hm'; omega⟩
      obtain ⟨a1, cap1, a2, cap2, c0, c1, c2, c3, c4, c5, c6, hin, hin2⟩ := hF i hi
      have e : ∀ j, (⟨b, off, none⟩ : Addr).add j = ⟨b, off + j, none⟩ := fun j => by simp [Addr.add]
      have e2 : ∀ i j, (⟨b, i, none⟩ : Addr).add j = ⟨b, i + j, none⟩ := fun i j => by simp [Addr.add]
      rw [e] at c0 c1 c2 c3 c4 c5 c6
      rw [e2] at c1 c2 c3 c4 c5 c6
      exact ⟨a1, cap1, a2, cap2, c0, c1, c2, c3, c4, c5, c6, hin, hin2⟩

end
end Go.Proofs.YtbkedppkdhfpoaaDoor
