/- RewriteFalls is proved: whatever signature, rules and term it is handed, each step makes a lesser term, and what is normal stays as it is. No conditions but those of the given statement. -/
import Derived.Test.YtbkedppkdhfpoabRows
import Derived.WalkKit
import Derived.ProofKit
import Derived.OpenShut
import Derived.ChangeOld
import Derived.Below
import Derived.Test.YtbkedppkdhfpoabJoined11
namespace Go.Proofs.Ytbkedppkdhfpoab
open Go.ChangeShapes Go.WideShapes Go.ChangeAt Go.RowKit
set_option linter.unusedVariables false

theorem own : ownKnob Try.prog.godebug = none := by kernel_rfl
theorem laidOut : laidOutB Try.prog = true := by kernel_rfl

set_option maxRecDepth 100000 in
theorem rewriteFalls_lifted (os : Os) (started : os.Started) (H : Type) (enc : TypeId × Value → H) :
    ReturnsInHanded {} Try.checked os 3 .any (Rows.rewriteFallsSpec.pre6 enc Try.prog Try.f3 Rows.rewriteFallsRow.domain false) (Rows.rewriteFallsSpec.post enc Try.prog Try.f3 false true false false) := by
  refine returnsInHanded_of_change (C := Try.checked) own started (by kernel_rfl) Try.func3
    (ChangeSpec.witness6 (enc := enc) (C := Try.checked) false ⟨#[], #[.agg #[.slice none 0 0], .slice none 0 0, .agg #[.int .i64 0, .int .i64 0, .slice none 0 0]], []⟩ 8 (by kernel_rfl) (by kernel_rfl) (by kernel_rfl) (by kernel_rfl)) ?_
  intro W base args ds gs before hval0 hW hcnd _
  have hval : ∀ (j : Nat) t v, Try.f3.params[j]? = some t → args[j]? = some v → Value.okWide Try.prog W .any base t v := hval0
  have hW' := hW
  obtain ⟨p, q, hA0, hV, rfl, hfz, hnd⟩ := hW
  have hA : DataW.TrodAll enc Try.prog W 0 (fun _ => true) true Try.f3.params.toList args.toList ds p := hA0
  rw [Try.params3] at hA hval
  obtain ⟨v0, vs0, d0, ds0, p0, q0, hargs, rfl, rfl, h0, r0⟩ := trodAll_cons hA
  obtain ⟨v1, vs1, d1, ds1, p1, q1, rfl, rfl, rfl, h1, r1⟩ := trodAll_cons r0
  obtain ⟨v2, vs2, d2, ds2, p2, q2, rfl, rfl, rfl, h2, r2⟩ := trodAll_cons r1
  obtain ⟨rfl, rfl, rfl⟩ := trodAll_nil r2
  obtain rfl : args = #[v0, v1, v2] := by cases args; simp_all
  obtain ⟨rfl, rfl⟩ := trodVars_none hV
  have k0 := h0
  have k1 := h1
  have k2 := h2
  have lt0 : ∀ x ∈ p0, x.block < W.heap.size := by obtain ⟨m, hm⟩ := k0; exact DataW.trod_lt m _ _ _ hm
  have lt1 : ∀ x ∈ p1, x.block < W.heap.size := by obtain ⟨m, hm⟩ := k1; exact DataW.trod_lt m _ _ _ hm
  have lt2 : ∀ x ∈ p2, x.block < W.heap.size := by obtain ⟨m, hm⟩ := k2; exact DataW.trod_lt m _ _ _ hm
  obtain ⟨ar, ga, gcap, rfl, hg⟩ : ∃ ar ga gcap, v0 = .agg #[.slice ga ar.length gcap] ∧ Ints W ar ga := by
    obtain ⟨cs, rfl, _⟩ := okWide_struct Go.Proofs.Try.underlying24 (hval 0 24 v0 rfl rfl)
    obtain ⟨fuel, hf⟩ := h0
    obtain ⟨zs, a, cap, hcs, hi⟩ := open_sig hf
    refine ⟨zs, a, cap, ?_, hi⟩
    have : cs.toList = [.slice a zs.length cap] := hcs
    rw [← Array.toArray_toList (xs := cs), this]
  obtain ⟨rs0, ra0, rc0, rfl, hrs0, hrl0⟩ : ∃ rs ra rc, v1 = .slice ra rs.length rc ∧ RulesP (fun _ => True) W rs ra ∧ rs.length ≤ 9223372036854775807 := by
    obtain ⟨a0, len0, cap0, rfl⟩ := okWide_slice Go.Proofs.Try.underlying25 (hval 1 25 v1 rfl rfl)
    obtain ⟨fuel, hf⟩ := h1
    obtain ⟨zs, a, cap, hcs, hi, hl⟩ := open_rules hf
    have hcs' : [Value.slice a0 len0 cap0] = [.slice a zs.length cap] := hcs
    simp only [List.cons.injEq, Value.slice.injEq, and_true] at hcs'
    obtain ⟨rfl, rfl, rfl⟩ := hcs'
    exact ⟨zs, _, _, rfl, hi, hl⟩
  obtain ⟨t0, a0, cap0, rfl, hin0⟩ : ∃ (t : T) (a : Option Addr) (cap : Nat), v2 = .agg #[.int .i64 t.v, .int .i64 t.f, .slice a t.args.length cap] ∧ InL W t.args a := by
    obtain ⟨cs, rfl, _⟩ := okWide_struct Go.Proofs.Try.underlying28 (hval 2 28 v2 rfl rfl)
    obtain ⟨fuel, hf⟩ := h2
    obtain ⟨t, a, cap, hcs, hi⟩ := open_term _ _ _ hf
    refine ⟨t, a, cap, ?_, hi⟩
    have : cs.toList = [.int .i64 t.v, .int .i64 t.f, .slice a t.args.length cap] := hcs
    rw [← Array.toArray_toList (xs := cs), this]
  clear hA0 hval0
  refine (RewriteFalls_any ar ga gcap rs0 ra0 rc0 t0 a0 cap0 W hg hrl0 hrs0 hin0).mono fun e W' ⟨he, bel⟩ => ?_
  subst he
  exact ⟨_, rfl, _, _, _, [], _, [], hW', trodAll_mk1 (shut_bool Go.Proofs.Try.underlying4 _),
    (trodAll_cons_mk (Below.trod laidOut (by kernel_rfl) (of_decide_eq_true (by kernel_rfl)) k0 bel lt0) (trodAll_cons_mk (Below.trod laidOut (by kernel_rfl) (of_decide_eq_true (by kernel_rfl)) k1 bel lt1) (trodAll_cons_mk (Below.trod laidOut (by kernel_rfl) (of_decide_eq_true (by kernel_rfl)) k2 bel lt2) trodAll_mk0))), rfl, bel.frame _, fun h => by cases h⟩

theorem rewriteFalls_over : Rows.rewriteFallsRow.holds Try.pinned (OpenSpec.ofChange Rows.rewriteFallsSpec) :=
  OpenClaim.holds_of_wide 3 Try.f3 rfl rfl rfl rfl rfl rfl rfl ⟨rfl, rfl, rfl, rfl, rfl⟩ rfl rfl rfl rfl rfl (by kernel_rfl) Try.func3 (by kernel_rfl)
    (of_decide_eq_true (by kernel_rfl)) (by unfold Func.isWrapper; first | (rw [if_pos (by decide +kernel)]; kernel_rfl) | (rw [if_neg (by decide +kernel)]; exact ⟨rfl, rfl⟩))
    (fun os started H enc _ => rewriteFalls_lifted os started H enc)

theorem rewriteFalls_proved : Rows.RewriteFallsSaid := rewriteFalls_over
#print axioms rewriteFalls_proved
end Go.Proofs.Ytbkedppkdhfpoab
