/- ClauseTells: what the program answers of clauses is what the document says, errors too, whatever it is handed. -/
import Derived.Test.YtbkedppkdhfpoabGreatRows
import Derived.WalkKit
import Derived.ProofKit
import Derived.OpenShut
import Derived.ChangeOld
import Derived.Below
import Derived.Test.YtbkedppkdhfpoabGreatJoined16
namespace Go.Proofs.YtbkedppkdhfpoabGreat
open Go.ChangeShapes Go.WideShapes Go.ChangeAt Go.RowKit
set_option linter.unusedVariables false

theorem own : ownKnob Tryz.prog.godebug = none := by kernel_rfl
theorem laidOut : laidOutB Tryz.prog = true := by kernel_rfl

set_option maxRecDepth 100000 in
theorem clauseTells_lifted (os : Os) (started : os.Started) (H : Type) (enc : TypeId × Value → H) :
    ReturnsInHanded {} Tryz.checked os 3 .any (Rows.clauseTellsSpec.pre6 enc Tryz.prog Tryz.f3 Rows.clauseTellsRow.domain false) (Rows.clauseTellsSpec.post enc Tryz.prog Tryz.f3 false true false false) := by
  refine returnsInHanded_of_change (C := Tryz.checked) own started (by kernel_rfl) Tryz.func3
    (ChangeSpec.witness6 (enc := enc) (C := Tryz.checked) false ⟨#[], #[.agg #[.slice none 0 0], .slice none 0 0, .slice none 0 0], []⟩ 8 (by kernel_rfl) (by kernel_rfl) (by kernel_rfl) (by kernel_rfl)) ?_
  intro W base args ds gs before hval0 hW hcnd _
  have hval : ∀ (j : Nat) t v, Tryz.f3.params[j]? = some t → args[j]? = some v → Value.okWide Tryz.prog W .any base t v := hval0
  have hW' := hW
  obtain ⟨p, q, hA0, hV, rfl, hfz, hnd⟩ := hW
  have hA : DataW.TrodAll enc Tryz.prog W 0 (fun _ => true) true Tryz.f3.params.toList args.toList ds p := hA0
  rw [Tryz.params3] at hA hval
  obtain ⟨v0, vs0, d0, ds0, p0, q0, hargs, rfl, rfl, h0, r0⟩ := trodAll_cons hA
  obtain ⟨v1, vs1, d1, ds1, p1, q1, rfl, rfl, rfl, h1, r1⟩ := trodAll_cons r0
  obtain ⟨v2, vs2, d2, ds2, p2, q2, rfl, rfl, rfl, h2, r2⟩ := trodAll_cons r1
  obtain ⟨rfl, rfl, rfl⟩ := trodAll_nil r2
  obtain rfl : args = #[v0, v1, v2] := by cases args; simp_all
  obtain ⟨rfl, rfl⟩ := trodVars_none hV
  have k0 := h0
  have k1 := h1
  have k2 := h2
  have lt0 : ∀ x ∈ p0, x.block < W.heap.size := by obtain ⟨m, hm⟩ := k0; exact DataW.trod_lt m _ _ _ hm
  have lt1 : ∀ x ∈ p1, x.block < W.heap.size := by obtain ⟨m, hm⟩ := k1; exact DataW.trod_lt m _ _ _ hm
  have lt2 : ∀ x ∈ p2, x.block < W.heap.size := by obtain ⟨m, hm⟩ := k2; exact DataW.trod_lt m _ _ _ hm
  obtain ⟨ar, ga, gcap, rfl, hg⟩ : ∃ ar ga gcap, v0 = .agg #[.slice ga ar.length gcap] ∧ Ints W ar ga := by
    obtain ⟨cs, rfl, _⟩ := okWide_struct Go.Proofs.Tryz.underlying24 (hval 0 24 v0 rfl rfl)
    obtain ⟨fuel, hf⟩ := h0
    obtain ⟨zs, a, cap, hcs, hi⟩ := open_sig hf
    refine ⟨zs, a, cap, ?_, hi⟩
    have : cs.toList = [.slice a zs.length cap] := hcs
    rw [← Array.toArray_toList (xs := cs), this]
  obtain ⟨c0, ca0, cc0, rfl, hc0, hcl0, hcc0⟩ : ∃ c ca cc, v1 = .slice ca c.length cc ∧ LitsP W c ca ∧ c.length ≤ 9223372036854775807 ∧ c.length ≤ cc := by
    obtain ⟨a0, len0, cap0, rfl⟩ := okWide_slice Go.Proofs.Tryz.underlying26 (hval 1 26 v1 rfl rfl)
    obtain ⟨fuel, hf⟩ := h1
    obtain ⟨zs, a, cap, hcs, hi, hl⟩ := open_clause hf
    have hcp := open_clause_cap hf hcs
    have hcs' : [Value.slice a0 len0 cap0] = [.slice a zs.length cap] := hcs
    simp only [List.cons.injEq, Value.slice.injEq, and_true] at hcs'
    obtain ⟨rfl, rfl, rfl⟩ := hcs'
    exact ⟨zs, _, _, rfl, hi, hl, hcp⟩
  obtain ⟨c1, ca1, cc1, rfl, hc1, hcl1⟩ : ∃ c ca cc, v2 = .slice ca c.length cc ∧ LitsP W c ca ∧ c.length ≤ 9223372036854775807 := by
    obtain ⟨a0, len0, cap0, rfl⟩ := okWide_slice Go.Proofs.Tryz.underlying26 (hval 2 26 v2 rfl rfl)
    obtain ⟨fuel, hf⟩ := h2
    obtain ⟨zs, a, cap, hcs, hi, hl⟩ := open_clause hf
    have hcs' : [Value.slice a0 len0 cap0] = [.slice a zs.length cap] := hcs
    simp only [List.cons.injEq, Value.slice.injEq, and_true] at hcs'
    obtain ⟨rfl, rfl, rfl⟩ := hcs'
    exact ⟨zs, _, _, rfl, hi, hl⟩
  clear hA0 hval0
  refine (clauseTells_any ar ga gcap c0 ca0 cc0 c1 ca1 cc1 W hcl0 hcl1 hcc0 hg hc0 hc1).mono fun e W' ⟨he, bel⟩ => ?_
  subst he
  exact ⟨_, rfl, _, _, _, [], _, [], hW', trodAll_mk1 (shut_bool Go.Proofs.Tryz.underlying4 _),
    (trodAll_cons_mk (Below.trod laidOut (by kernel_rfl) (of_decide_eq_true (by kernel_rfl)) k0 bel lt0) (trodAll_cons_mk (Below.trod laidOut (by kernel_rfl) (of_decide_eq_true (by kernel_rfl)) k1 bel lt1) (trodAll_cons_mk (Below.trod laidOut (by kernel_rfl) (of_decide_eq_true (by kernel_rfl)) k2 bel lt2) trodAll_mk0))), rfl, bel.frame _, fun h => by cases h⟩

theorem clauseTells_over : Rows.clauseTellsRow.holds Tryz.pinned (OpenSpec.ofChange Rows.clauseTellsSpec) :=
  OpenClaim.holds_of_wide 3 Tryz.f3 rfl rfl rfl rfl rfl rfl rfl ⟨rfl, rfl, rfl, rfl, rfl⟩ rfl rfl rfl rfl rfl clauseTells_hfn Tryz.func3 clauseTells_closed clauseTells_inst clauseTells_wrap
    (fun os started H enc _ => clauseTells_lifted os started H enc)

theorem clauseTells_proved : Rows.ClauseTellsSaid := clauseTells_over
#print axioms clauseTells_proved
end Go.Proofs.YtbkedppkdhfpoabGreat
