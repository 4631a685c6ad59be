/- InferSound: what comes holds in each model in which those hold it came of. -/
import Derived.Test.YtbkedppkdhfpoabGreatRows
import Derived.WalkKit
import Derived.ProofKit
import Derived.OpenShut
import Derived.ChangeOld
import Derived.Below
import Derived.Test.YtbkedppkdhfpoabGreatJoined25
namespace Go.Proofs.YtbkedppkdhfpoabGreat
open Go.ChangeShapes Go.WideShapes Go.ChangeAt Go.RowKit
set_option linter.unusedVariables false

theorem own : ownKnob Tryz.prog.godebug = none := by kernel_rfl
theorem laidOut : laidOutB Tryz.prog = true := by kernel_rfl

set_option maxRecDepth 100000 in
theorem inferSound_lifted (os : Os) (started : os.Started) (H : Type) (enc : TypeId × Value → H) :
    ReturnsInHanded {} Tryz.checked os 7 .any (Rows.inferSoundSpec.pre6 enc Tryz.prog Tryz.f7 Rows.inferSoundRow.domain false) (Rows.inferSoundSpec.post enc Tryz.prog Tryz.f7 false true false false) := by
  refine returnsInHanded_of_change (C := Tryz.checked) own started (by kernel_rfl) Tryz.func7
    (ChangeSpec.witness6 (enc := enc) (C := Tryz.checked) false ⟨#[], #[.agg #[.slice none 0 0], .slice none 0 0, .agg #[.int .i64 0, .int .i64 0, .int .i64 0, .int .i64 0, .int .i64 0, .bool false, .bool false, .slice none 0 0], .agg #[.int .i64 0, .slice none 0 0]], []⟩ 8 (by kernel_rfl) (by kernel_rfl) (by kernel_rfl) (by kernel_rfl)) ?_
  intro W base args ds gs before hval0 hW hcnd _
  have hval : ∀ (j : Nat) t v, Tryz.f7.params[j]? = some t → args[j]? = some v → Value.okWide Tryz.prog W .any base t v := hval0
  have hW' := hW
  obtain ⟨p, q, hA0, hV, rfl, hfz, hnd⟩ := hW
  have hA : DataW.TrodAll enc Tryz.prog W 0 (fun _ => true) true Tryz.f7.params.toList args.toList ds p := hA0
  rw [Tryz.params7] at hA hval
  obtain ⟨v0, vs0, d0, ds0, p0, q0, hargs, rfl, rfl, h0, r0⟩ := trodAll_cons hA
  obtain ⟨v1, vs1, d1, ds1, p1, q1, rfl, rfl, rfl, h1, r1⟩ := trodAll_cons r0
  obtain ⟨v2, vs2, d2, ds2, p2, q2, rfl, rfl, rfl, h2, r2⟩ := trodAll_cons r1
  obtain ⟨v3, vs3, d3, ds3, p3, q3, rfl, rfl, rfl, h3, r3⟩ := trodAll_cons r2
  obtain ⟨rfl, rfl, rfl⟩ := trodAll_nil r3
  obtain rfl : args = #[v0, v1, v2, v3] := by cases args; simp_all
  obtain ⟨rfl, rfl⟩ := trodVars_none hV
  have k0 := h0
  have k1 := h1
  have k2 := h2
  have k3 := h3
  have lt0 : ∀ x ∈ p0, x.block < W.heap.size := by obtain ⟨m, hm⟩ := k0; exact DataW.trod_lt m _ _ _ hm
  have lt1 : ∀ x ∈ p1, x.block < W.heap.size := by obtain ⟨m, hm⟩ := k1; exact DataW.trod_lt m _ _ _ hm
  have lt2 : ∀ x ∈ p2, x.block < W.heap.size := by obtain ⟨m, hm⟩ := k2; exact DataW.trod_lt m _ _ _ hm
  have lt3 : ∀ x ∈ p3, x.block < W.heap.size := by obtain ⟨m, hm⟩ := k3; exact DataW.trod_lt m _ _ _ hm
  obtain ⟨ar, ga, gcap, rfl, hg⟩ : ∃ ar ga gcap, v0 = .agg #[.slice ga ar.length gcap] ∧ Ints W ar ga := by
    obtain ⟨cs, rfl, _⟩ := okWide_struct Go.Proofs.Tryz.underlying24 (hval 0 24 v0 rfl rfl)
    obtain ⟨fuel, hf⟩ := h0
    obtain ⟨zs, a, cap, hcs, hi⟩ := open_sig hf
    refine ⟨zs, a, cap, ?_, hi⟩
    have : cs.toList = [.slice a zs.length cap] := hcs
    rw [← Array.toArray_toList (xs := cs), this]
  obtain ⟨qs0, qa0, qc0, rfl, hq0, hql0, hqc0⟩ : ∃ ls la lc, v1 = .slice la ls.length lc ∧ ClausesP W ls la ∧ ls.length ≤ 9223372036854775807 ∧ ∀ c, c ∈ ls → c.length ≤ 9223372036854775807 := by
    obtain ⟨a0, len0, cap0, rfl⟩ := okWide_slice Go.Proofs.Tryz.underlying34 (hval 1 34 v1 rfl rfl)
    obtain ⟨fuel, hf⟩ := h1
    obtain ⟨zs, a, cap, hcs, hi, hl, hc⟩ := open_clauses hf
    have hcs' : [Value.slice a0 len0 cap0] = [.slice a zs.length cap] := hcs
    simp only [List.cons.injEq, Value.slice.injEq, and_true] at hcs'
    obtain ⟨rfl, rfl, rfl⟩ := hcs'
    exact ⟨zs, _, _, rfl, hi, hl, hc⟩
  obtain ⟨j0, ja0, jc0, rfl, hj0, hjl0⟩ : ∃ (i : Inf) (pa : Option Addr) (pc : Nat), v2 = infV i pa pc ∧ Ints W i.place pa ∧ i.place.length ≤ 9223372036854775807 := by
    obtain ⟨cs, rfl, _⟩ := okWide_struct Go.Proofs.Tryz.underlying47 (hval 2 47 v2 rfl rfl)
    obtain ⟨fuel, hf⟩ := h2
    obtain ⟨i, a, cap, hcs, hi, hl⟩ := open_inf _ _ _ hf
    refine ⟨i, a, cap, ?_, hi, hl⟩
    have : cs.toList = [.int .i64 i.kind, .int .i64 i.left, .int .i64 i.right, .int .i64 i.la, .int .i64 i.ra, .bool i.lt, .bool i.rt, .slice a i.place.length cap] := hcs
    rw [← Array.toArray_toList (xs := cs), this]
  obtain ⟨mn0, ls0, ta0, tc0, rfl, ht0⟩ : ∃ (n : Int) (ls : List (List Int)) (ta : Option Addr) (tc : Nat), v3 = .agg #[.int .i64 n, .slice ta ls.length tc] ∧ TabsP W ls ta := by
    obtain ⟨cs, rfl, _⟩ := okWide_struct Go.Proofs.Tryz.underlying43 (hval 3 43 v3 rfl rfl)
    obtain ⟨fuel, hf⟩ := h3
    obtain ⟨n, ls, a, cap, hcs, hi⟩ := open_model hf
    refine ⟨n, ls, a, cap, ?_, hi⟩
    have : cs.toList = [.int .i64 n, .slice a ls.length cap] := hcs
    rw [← Array.toArray_toList (xs := cs), this]
  clear hA0 hval0
  refine (inferSound_any ar ga gcap qs0 qa0 qc0 j0 ja0 jc0 mn0 ls0 ta0 tc0 W hql0 hqc0 hjl0 hg hq0 hj0 ht0).mono fun e W' ⟨he, bel⟩ => ?_
  subst he
  exact ⟨_, rfl, _, _, _, [], _, [], hW', trodAll_mk1 (shut_bool Go.Proofs.Tryz.underlying4 _),
    (trodAll_cons_mk (Below.trod laidOut (by kernel_rfl) (of_decide_eq_true (by kernel_rfl)) k0 bel lt0) (trodAll_cons_mk (Below.trod laidOut (by kernel_rfl) (of_decide_eq_true (by kernel_rfl)) k1 bel lt1) (trodAll_cons_mk (Below.trod laidOut (by kernel_rfl) (of_decide_eq_true (by kernel_rfl)) k2 bel lt2) (trodAll_cons_mk (Below.trod laidOut (by kernel_rfl) (of_decide_eq_true (by kernel_rfl)) k3 bel lt3) trodAll_mk0)))), rfl, bel.frame _, fun h => by cases h⟩

theorem inferSound_over : Rows.inferSoundRow.holds Tryz.pinned (OpenSpec.ofChange Rows.inferSoundSpec) :=
  OpenClaim.holds_of_wide 7 Tryz.f7 rfl rfl rfl rfl rfl rfl rfl ⟨rfl, rfl, rfl, rfl, rfl⟩ rfl rfl rfl rfl rfl inferSound_hfn Tryz.func7 inferSound_closed inferSound_inst inferSound_wrap
    (fun os started H enc _ => inferSound_lifted os started H enc)

theorem inferSound_proved : Rows.InferSoundSaid := inferSound_over
#print axioms inferSound_proved
end Go.Proofs.YtbkedppkdhfpoabGreat
